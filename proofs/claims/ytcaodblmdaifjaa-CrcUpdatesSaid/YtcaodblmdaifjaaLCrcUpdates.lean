/- The walk of CrcUpdates: Update against the reference. -/
import Derived.Test.YtcaodblmdaifjaaFrame
import Derived.Test.YtcaodblmdaifjaaWorks
namespace Go.Proofs.Ytcaodblmdaifjaa
open Go.RowKit

set_option maxRecDepth 100000 in
set_option maxHeartbeats 2000000 in
theorem crcUpdates_walk (a0 : Int) (a1 : Option Addr) (len1 cap1 : Nat) (z1 : List Int) (w : World) (w0 : (Lit.int .u32 a0).wf = true) (w1 : IsRow .u8 w a1 len1 cap1 z1) :
    Calls Try.prog 4 #[.int .u32 a0, .slice a1 len1 cap1] w fun e w' => e = .returned (.bool true) ∧ Below w.heap.size w w' := by
  obtain ⟨y, rfl, hy⟩ := nat_of_u32 w0
  have hn : len1 ≤ 9223372036854775807 := by have := w1.len; omega
  have gb := Lib.hid w1.bn
  clear w0 w1
  by_cases hl : 2000 < len1
  · go_enter Try.func4, Try.ntmps4
    go_wp2_with (go_at_call 13; refine (works_any _).mono ?_; rintro e wo ⟨rfl, hBo⟩)
    go_ret
    exact ⟨rfl, hBo⟩
  · go_enter Try.func4, Try.ntmps4
    go_wp2_with fail
    refine (update_any _ hy _ _ _ _ _ gb.out hn).mono ?_
    rintro e wA ⟨rfl, hA⟩
    go_wp2_with fail
    refine (rupdate_any _ hy _ _ _ _ _ (gb.out.below hA) hn).mono ?_
    rintro e _ ⟨rfl, rfl⟩
    go_wp2_with fail
    refine (works_any _).mono ?_
    rintro e wD ⟨rfl, hD⟩
    go_wp2_with fail
    go_ret
    exact ⟨rfl, bchain hA hD⟩
end Go.Proofs.Ytcaodblmdaifjaa
