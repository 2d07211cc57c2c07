/- The walk of CrcSums: Sum and Valid against the reference. -/
import Derived.Test.YtcaodblmdaifjaaFrame
import Derived.Test.YtcaodblmdaifjaaWorks
namespace Go.Proofs.Ytcaodblmdaifjaa
open Go.RowKit

set_option maxRecDepth 100000 in
set_option maxHeartbeats 2000000 in
theorem crcSums_walk (a0 : Option Addr) (len0 cap0 : Nat) (z0 : List Int) (a1 : Int) (w : World) (w0 : IsRow .u8 w a0 len0 cap0 z0) (w1 : (Lit.int .u32 a1).wf = true) :
    Calls Try.prog 3 #[.slice a0 len0 cap0, .int .u32 a1] w fun e w' => e = .returned (.bool true) ∧ Below w.heap.size w w' := by
  obtain ⟨y, rfl, hy⟩ := nat_of_u32 w1
  have hn : len0 ≤ 9223372036854775807 := by have := w0.len; omega
  have gb := Lib.hid w0.bn
  clear w0 w1
  by_cases hl : 2000 < len0
  · go_enter Try.func3, Try.ntmps3
    go_wp2_with (go_at_call 13; refine (works_any _).mono ?_; rintro e wo ⟨rfl, hBo⟩)
    go_ret
    exact ⟨rfl, hBo⟩
  · by_cases hq : csum (nums len0 z0) = y
    · have h1 : (csum (nums len0 z0) == y) = true := by simpa using hq
      have h2 : ((y : Int) == (csum (nums len0 z0) : Int)) = true := by rw [beq_nat]; simpa using hq.symm
      clear hq
      go_enter Try.func3, Try.ntmps3
      go_wp2_with fail
      refine (rsum_any _ _ _ _ _ gb.out hn).mono ?_
      rintro e _ ⟨rfl, rfl⟩
      go_wp2_with fail
      refine (sum_any _ _ _ _ _ gb.out hn).mono ?_
      rintro e wA ⟨rfl, hA⟩
      go_wp2_with fail
      refine (valid_any _ _ _ _ _ _ (gb.out.below hA) hn).mono ?_
      rintro e wB ⟨rfl, hB⟩
      go_wp2_with fail
      refine (valid_any _ _ _ _ _ _ ((gb.out.below hA).below hB) hn).mono ?_
      rintro e wC ⟨rfl, hC⟩
      rw [h1]
      go_wp2_with fail
      refine (works_any _).mono ?_
      rintro e wD ⟨rfl, hD⟩
      go_wp2_with fail
      go_ret
      exact ⟨rfl, bchain (bchain (bchain hA hB) hC) hD⟩
    · have h1 : (csum (nums len0 z0) == y) = false := by simpa using hq
      have h2 : ((y : Int) == (csum (nums len0 z0) : Int)) = false := by rw [beq_nat]; simpa using fun h => hq h.symm
      clear hq
      go_enter Try.func3, Try.ntmps3
      go_wp2_with fail
      refine (rsum_any _ _ _ _ _ gb.out hn).mono ?_
      rintro e _ ⟨rfl, rfl⟩
      go_wp2_with fail
      refine (sum_any _ _ _ _ _ gb.out hn).mono ?_
      rintro e wA ⟨rfl, hA⟩
      go_wp2_with fail
      refine (valid_any _ _ _ _ _ _ (gb.out.below hA) hn).mono ?_
      rintro e wB ⟨rfl, hB⟩
      go_wp2_with fail
      refine (valid_any _ _ _ _ _ _ ((gb.out.below hA).below hB) hn).mono ?_
      rintro e wC ⟨rfl, hC⟩
      rw [h1]
      go_wp2_with fail
      refine (works_any _).mono ?_
      rintro e wD ⟨rfl, hD⟩
      go_wp2_with fail
      go_ret
      exact ⟨rfl, bchain (bchain (bchain hA hB) hC) hD⟩
end Go.Proofs.Ytcaodblmdaifjaa
