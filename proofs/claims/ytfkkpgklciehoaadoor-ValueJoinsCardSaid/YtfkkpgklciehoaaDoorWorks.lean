/- works(): the examples of chapter 6 hold. -/
import Derived.Test.YtfkkpgklciehoaaDoorRSho
namespace Go.Proofs.YtfkkpgklciehoaaDoor
open Go.RowKit Go.PlainAid

theorem text_is (s t : ByteArray) (p : Int) (hs : s.size ≤ 1000) (h1 : txtS s = t) (h2 : txtE s = p) (w : World) : Calls Tryd.prog 16 #[.string s] w fun e w' => e = .returned (.tuple #[.string t, .int .i64 p]) ∧ Below w.heap.size w w' := by
  rw [← h1, ← h2]; exact text_any s w (by omega)
theorem parse_is (s t : ByteArray) (p : Int) (hs : s.size ≤ 1000) (h1 : prsS s = t) (h2 : prsE s = p) (w : World) : Calls Tryd.prog 18 #[.string s] w fun e w' => e = .returned (.tuple #[.string t, .int .i64 p]) ∧ Below w.heap.size w w' := by
  rw [← h1, ← h2]; exact parse_any s w (by omega)
theorem repeat_is (s t : ByteArray) (n p : Int) (hs : s.size ≤ 1000) (h1 : repS s n = t) (h2 : repE s n = p) (w : World) : Calls Tryd.prog 20 #[.string s, .int .i64 n] w fun e w' => e = .returned (.tuple #[.string t, .int .i64 p]) ∧ Below w.heap.size w w' := by
  rw [← h1, ← h2]; exact repeat_any s n w (by omega)
theorem check_is (s : ByteArray) (m v : Int) (h : chkE s m = v) (w : World) : Calls Tryd.prog 14 #[.string s, .int .i64 m] w fun e w' => e = .returned (.int .i64 v) ∧ w = w' := by
  rw [← h]; exact check_val s m w
theorem sho9 : strOfNums (shoL ⟨#[97, 97, 97, 97, 97, 97, 97, 97, 97]⟩) = ⟨#[57, 58, 54, 49, 54, 49, 54, 49, 54, 49, 54, 49, 54, 49, 54, 49, 54, 49, 46, 46]⟩ := by
  unfold shoL
  rw [show (⟨#[97, 97, 97, 97, 97, 97, 97, 97, 97]⟩ : ByteArray).size = 9 from rfl, decN_small (by omega)]
  decide +kernel
theorem short_is (s t : ByteArray) (hs : s.size ≤ 1000) (h : strOfNums (shoL s) = t) (w : World) (htab : Pow w) : Calls Tryd.prog 22 #[.string s] w fun e w' => e = .returned (.string t) ∧ Below w.heap.size w w' := by
  rw [← h]; exact short_any s w (by omega) htab

set_option maxRecDepth 100000 in
set_option maxHeartbeats 4000000 in
theorem works_any (w : World) (htab : Pow w) : Calls Tryd.prog 13 #[] w fun e w' => e = .returned (.bool true) ∧ Below w.heap.size w w' := by
  have gB : Hid (Below w.heap.size w w) := Below.refl _ _
  have gT := Lib.hid htab
  clear htab
  go_enter Tryd.func13, Tryd.ntmps13
  go_wp2_with fail
  refine (text_is _ ⟨#[54, 49, 54, 50]⟩ 0 (by decide) (by decide +kernel) (by decide +kernel) _).mono ?_
  rintro e W1 ⟨rfl, hB⟩
  have b1 := Lib.hid hB
  clear hB
  go_wp2_with fail
  refine (text_is _ ⟨#[45]⟩ 0 (by decide) (by decide +kernel) (by decide +kernel) _).mono ?_
  rintro e W2 ⟨rfl, hB⟩
  have b2 := Lib.hid (bchain b1.out hB)
  clear hB
  go_wp2_with fail
  refine (parse_is _ ⟨#[0, 255]⟩ 0 (by decide) (by decide +kernel) (by decide +kernel) _).mono ?_
  rintro e W3 ⟨rfl, hB⟩
  have b3 := Lib.hid (bchain b2.out hB)
  clear hB
  go_wp2_with fail
  refine (parse_is _ ⟨#[]⟩ 8 (by decide) (by decide +kernel) (by decide +kernel) _).mono ?_
  rintro e W4 ⟨rfl, hB⟩
  have b4 := Lib.hid (bchain b3.out hB)
  clear hB
  go_wp2_with fail
  refine (repeat_is _ ⟨#[97, 98, 99, 97, 98, 99, 97]⟩ 7 0 (by decide) (by decide +kernel) (by decide +kernel) _).mono ?_
  rintro e W5 ⟨rfl, hB⟩
  have b5 := Lib.hid (bchain b4.out hB)
  clear hB
  go_wp2_with fail
  refine (check_is _ 1 12 (by decide +kernel) _).mono ?_
  rintro e _ ⟨rfl, rfl⟩
  go_wp2_with fail
  refine (short_is _ _ (by decide) sho9 _ (gT.out.below b5.out)).mono ?_
  rintro e W7 ⟨rfl, hB⟩
  have b7 := Lib.hid (bchain b5.out hB)
  clear hB
  go_wp2_with fail
  go_ret
  exact ⟨rfl, b7.out⟩
end Go.Proofs.YtfkkpgklciehoaaDoor
