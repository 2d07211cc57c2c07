/- The walk of CrcCombines: Combine against the reference. -/
import Derived.Test.YtcaodblmdaifjaaFrame
import Derived.Test.YtcaodblmdaifjaaWorks
namespace Go.Proofs.Ytcaodblmdaifjaa
open Go.RowKit

set_option maxRecDepth 100000 in
set_option maxHeartbeats 2000000 in
theorem crcCombines_walk (a0 a1 a2 : Int) (w : World) (w0 : (Lit.int .u32 a0).wf = true) (w1 : (Lit.int .u32 a1).wf = true) (w2 : (Lit.int .i64 a2).wf = true) :
    Calls Try.prog 5 #[.int .u32 a0, .int .u32 a1, .int .i64 a2] w fun e w' => e = .returned (.bool true) ∧ Below w.heap.size w w' := by
  obtain ⟨x, rfl, hx⟩ := nat_of_u32 w0
  obtain ⟨y, rfl, hy⟩ := nat_of_u32 w1
  have hn := bounds_i64 w2
  clear w0 w1 w2
  go_enter Try.func5, Try.ntmps5
  go_wp2_with fail
  refine (combine_any _ _ _ hx hy ⟨by omega, by omega⟩ _).mono ?_
  rintro e wA ⟨rfl, hA⟩
  go_wp2_with fail
  refine (rcombine_any _ _ _ hx hy ⟨by omega, by omega⟩ _).mono ?_
  rintro e wB ⟨rfl, hB⟩
  go_wp2_with fail
  refine (works_any _).mono ?_
  rintro e wD ⟨rfl, hD⟩
  go_wp2_with fail
  go_ret
  exact ⟨rfl, bchain (bchain hA hB) hD⟩
end Go.Proofs.Ytcaodblmdaifjaa
