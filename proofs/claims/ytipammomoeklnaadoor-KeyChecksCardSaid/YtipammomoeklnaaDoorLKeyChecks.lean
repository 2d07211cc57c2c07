/- The walk of KeyChecks. -/
import Derived.Test.YtipammomoeklnaaDoorWorks
namespace Go.Proofs.YtipammomoeklnaaDoor
open Go.RowKit Go.PlainAid
set_option maxRecDepth 100000 in
set_option maxHeartbeats 2000000 in
theorem keyChecks_walk (a0 : ByteArray) (a1 : Int) (w : World) (htab : Pow w) (w0 : a0.size ≤ maxLen) (w1 : (Lit.int .i64 a1).wf = true) :
    Calls Tryd.prog 3 #[.string a0, .int .i64 a1] w fun e w' => e = .returned (.bool true) ∧ Below w.heap.size w w' := by
  unfold maxLen at w0
  by_cases h : 1000 < a0.size
  · go_enter Tryd.func3, Tryd.ntmps3
    go_wp2_with fail
    refine (works_any _ htab).mono ?_
    rintro e W ⟨rfl, hB⟩
    go_wp2_with fail
    go_ret
    exact ⟨rfl, hB⟩
  go_enter Tryd.func3, Tryd.ntmps3
  go_wp2_with fail
  refine (check_any _ _ (by omega)).mono ?_
  rintro e W1 ⟨rfl, hB⟩
  have b1 := Lib.hid hB
  clear hB
  go_wp2_with fail
  refine (rcheck_any _ _ (by omega)).mono ?_
  rintro e _ ⟨rfl, rfl⟩
  go_wp2_with fail
  refine (fits_any _ _ _ (by omega)).mono ?_
  rintro e W2 ⟨rfl, hB⟩
  have b2 := Lib.hid (bchain b1.out hB)
  clear hB
  go_wp2_with fail
  refine (rfits_any _ _ _ (by omega)).mono ?_
  rintro e _ ⟨rfl, rfl⟩
  go_wp2_with fail
  refine (works_any _ (htab.below b2.out)).mono ?_
  rintro e W3 ⟨rfl, hB⟩
  go_wp2_with fail
  go_ret
  exact ⟨rfl, bchain b2.out hB⟩
end Go.Proofs.YtipammomoeklnaaDoor
