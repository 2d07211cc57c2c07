/- What an image has. -/
import Derived.Test.YtaohlblhfmlpbaaData
namespace Go.Proofs.Ytaohlblhfmlpbaa
open Go.RowKit
section
variable {w0 w : World} {P sz d : Nat} {l : List E} {S S' : Nat → Prop}
set_option maxRecDepth 100000 in
set_option maxHeartbeats 4000000 in
theorem has_any (h : Beside w0 P sz d l S w) {A : Option Addr} {n c : Nat} (hs : SB w A n l) : Calls Try.prog 25 #[.pointer (some ⟨P, 0, none⟩), .slice A n c] w fun e w' => e = .returned (.bool true) ∧ Below w.heap.size w w' := by
  have hn := hs.1
  have hl := h.bounds
  have g := Lib.hid h
  have gs := Lib.hid hs
  have gn := Lib.hid hn
  have e1 : wrap64 ((n : Int) + 1) = (n : Int) + 1 := by unfold wrap64; omega
  clear h hs hl hn
  go_enter Try.func25, Try.ntmps25
  go_wp2_with fail
  refine (b_read g.out 0 n (by have := gn.out; omega)).mono ?_
  rintro e w1 ⟨R, rfl, g1⟩
  have h1 := Lib.hid (g.out.below g1.out.2.1)
  have gs1 := Lib.hid (gs.out.below g1.out.2.1)
  have gb1 := Lib.hid g1.out.2.1
  have gr := Lib.hid (show SB w1 (some ⟨R, 0, none⟩) n l from by
    have := row_sb g1.out.1
    rwa [List.drop_zero, List.take_of_length_le (by rw [gn.out]; exact Nat.le_refl _)] at this)
  clear g1 g gs
  go_wp2_with fail
  refine (b_read_out h1.out 0 ((n : Int) + 1) (by decide) (.inr (.inr (by rw [gn.out]; omega)))).mono ?_
  rintro e _ ⟨rfl, rfl⟩
  go_wp2_with fail
  refine (b_len h1.out).mono ?_
  rintro e _ ⟨rfl, rfl⟩
  rw [gn.out]
  go_wp2_with fail
  refine (equal_any (c := n) (c' := c) gr.out gs1.out).mono ?_
  rintro e _ ⟨rfl, rfl⟩
  rw [beq_self_eq_true]
  go_wp2_with fail
  go_ret
  exact ⟨rfl, gb1.out⟩
end
end Go.Proofs.Ytaohlblhfmlpbaa
