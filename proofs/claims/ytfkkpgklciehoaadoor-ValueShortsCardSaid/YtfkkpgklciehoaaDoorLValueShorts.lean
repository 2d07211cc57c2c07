/- The walk of ValueShorts. -/
import Derived.Test.YtfkkpgklciehoaaDoorWorks
namespace Go.Proofs.YtfkkpgklciehoaaDoor
open Go.RowKit Go.PlainAid
set_option maxRecDepth 100000 in
set_option maxHeartbeats 2000000 in
theorem valueShorts_walk (a0 : ByteArray) (w : World) (htab : Pow w) (w0 : a0.size ≤ maxLen) :
    Calls Tryd.prog 6 #[.string a0] w fun e w' => e = .returned (.bool true) ∧ Below w.heap.size w w' := by
  unfold maxLen at w0
  by_cases h : 2000 < a0.size
  · go_enter Tryd.func6, Tryd.ntmps6
    go_wp2_with fail
    refine (works_any _ htab).mono ?_
    rintro e W ⟨rfl, hB⟩
    go_wp2_with fail
    go_ret
    exact ⟨rfl, hB⟩
  go_enter Tryd.func6, Tryd.ntmps6
  go_wp2_with fail
  refine (short_any _ _ (by omega) htab).mono ?_
  rintro e W1 ⟨rfl, hB⟩
  have b1 := Lib.hid hB
  clear hB
  go_wp2_with fail
  refine (rshort_any _ _ (by omega)).mono ?_
  rintro e W2 ⟨rfl, hB⟩
  have b2 := Lib.hid (bchain b1.out hB)
  clear hB
  go_wp2_with fail
  refine (works_any _ (htab.below b2.out)).mono ?_
  rintro e W5 ⟨rfl, hB⟩
  go_wp2_with fail
  go_ret
  exact ⟨rfl, bchain b2.out hB⟩
end Go.Proofs.YtfkkpgklciehoaaDoor
