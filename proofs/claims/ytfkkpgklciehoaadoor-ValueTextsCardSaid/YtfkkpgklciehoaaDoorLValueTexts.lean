/- The walk of ValueTexts. -/
import Derived.Test.YtfkkpgklciehoaaDoorWorks
namespace Go.Proofs.YtfkkpgklciehoaaDoor
open Go.RowKit Go.PlainAid
set_option maxRecDepth 100000 in
set_option maxHeartbeats 2000000 in
theorem valueTexts_walk (a0 : ByteArray) (a1 : ByteArray) (w : World) (htab : Pow w) (w0 : a0.size ≤ maxLen) (w1 : a1.size ≤ maxLen) :
    Calls Tryd.prog 4 #[.string a0, .string a1] w fun e w' => e = .returned (.bool true) ∧ Below w.heap.size w w' := by
  unfold maxLen at w0 w1
  by_cases h : 2000 < a0.size
  · go_enter Tryd.func4, Tryd.ntmps4
    go_wp2_with fail
    refine (works_any _ htab).mono ?_
    rintro e W ⟨rfl, hB⟩
    go_wp2_with fail
    go_ret
    exact ⟨rfl, hB⟩
  by_cases h : 2000 < a1.size
  · go_enter Tryd.func4, Tryd.ntmps4
    go_wp2_with fail
    refine (works_any _ htab).mono ?_
    rintro e W ⟨rfl, hB⟩
    go_wp2_with fail
    go_ret
    exact ⟨rfl, hB⟩
  go_enter Tryd.func4, Tryd.ntmps4
  go_wp2_with fail
  refine (text_any _ _ (by omega)).mono ?_
  rintro e W1 ⟨rfl, hB⟩
  have b1 := Lib.hid hB
  clear hB
  go_wp2_with fail
  refine (rtext_any _ _ (by omega)).mono ?_
  rintro e W2 ⟨rfl, hB⟩
  have b2 := Lib.hid (bchain b1.out hB)
  clear hB
  go_wp2_with fail
  refine (parse_any _ _ (by omega)).mono ?_
  rintro e W3 ⟨rfl, hB⟩
  have b3 := Lib.hid (bchain b2.out hB)
  clear hB
  go_wp2_with fail
  refine (rparse_any _ _ (by omega)).mono ?_
  rintro e W4 ⟨rfl, hB⟩
  have b4 := Lib.hid (bchain b3.out hB)
  clear hB
  go_wp2_with fail
  refine (works_any _ (htab.below b4.out)).mono ?_
  rintro e W5 ⟨rfl, hB⟩
  go_wp2_with fail
  go_ret
  exact ⟨rfl, bchain b4.out hB⟩
end Go.Proofs.YtfkkpgklciehoaaDoor
