/- The reference's queue: Pop, New. -/
import Derived.Test.YtepgdeokjgjapaaQJLoop
namespace Go.Proofs.Ytepgdeokjgjapaa.QJ
open Go.RowKit
theorem best_unique {L : List Mk} {k : Nat} {b c : Option (Nat × Int)} (h : Best L k b) (h' : Best L k c) : b = c := by
  cases b with
  | none =>
    cases c with
    | none => rfl
    | some y => exact absurd h'.2.1 (h _ _ h'.1)
  | some x =>
    cases c with
    | none => exact absurd h.2.1 (h' _ _ h.1)
    | some y =>
      obtain ⟨i, p⟩ := x
      obtain ⟨j, q⟩ := y
      have a1 := h.2.2 j q h'.1 h'.2.1
      have a2 := h'.2.2 i p h.1 h.2.1
      have e : p = q := Int.le_antisymm a1.1 a2.1
      have e2 : i = j := by
        rcases Nat.lt_trichotomy i j with h1 | h1 | h1
        · have := a2.2 h1; omega
        · exact h1
        · have := a1.2 h1; omega
      rw [e, e2]
section
variable {w : World} {B R n bI cI bP cP : Nat} {L : List Mk}
theorem RC.of_below {w' : World} (h : Below w.heap.size w w') : RC w w' bI bP := But.of_below h
theorem rpop_none (h : ROwn w B R n bI cI bP cP L) (hb : Best L n none) : Calls Try.prog 21 #[.pointer (some ⟨R, 0, none⟩)] w fun e w' => e = .returned (.tuple #[.int .i64 0, .int .i64 0, .bool false]) ∧ Below w.heap.size w w' := by
  have gh := Lib.hid h
  obtain ⟨x, hx⟩ : ∃ x, L[0]? = some x := ⟨_, List.getElem?_eq_getElem (by rw [h.len]; exact h.pos)⟩
  obtain ⟨m, q⟩ := x
  have hm : m = false := by
    cases m with
    | false => rfl
    | true => exact absurd hx (hb 0 q h.pos)
  subst hm
  have gx := Lib.hid hx
  have gb := Lib.hid hb
  clear h hx hb
  go_enter Try.func21, Try.ntmps21
  go_wp2_with fail
  refine (rpeek gh.out).mono ?_
  rintro e w1 ⟨⟨b, hb, rfl⟩, hB1⟩
  obtain rfl := best_unique gb.out hb
  have gB := Lib.hid hB1
  have gr := Lib.hid (rremove_none (gh.out.below hB1) 0 q gx.out)
  clear hb hB1
  go_wp2_with fail
  refine gr.out.mono ?_
  rintro e w2 ⟨rfl, rfl⟩
  go_wp2
  go_ret3
  exact ⟨rfl, gB.out⟩
theorem rpop (h : ROwn w B R n bI cI bP cP L) {i : Nat} {p : Int} (hb : Best L n (some (i, p))) : Calls Try.prog 21 #[.pointer (some ⟨R, 0, none⟩)] w fun e w' => e = .returned (.tuple #[.int .i64 (i : Nat), .int .i64 p, .bool true]) ∧ ROwn w' B R n bI cI bP cP (L.set i (false, p)) ∧ RC w w' bI bP := by
  have gh := Lib.hid h
  have gb := Lib.hid hb
  clear h hb
  go_enter Try.func21, Try.ntmps21
  go_wp2_with fail
  refine (rpeek gh.out).mono ?_
  rintro e w1 ⟨⟨b, hb, rfl⟩, hB1⟩
  obtain rfl := best_unique gb.out hb
  have gB := Lib.hid hB1
  have gr := Lib.hid (rremove (gh.out.below hB1) i p gb.out.2.1)
  clear hb hB1
  go_wp2_with fail
  refine gr.out.mono ?_
  rintro e w2 ⟨rfl, h2, h3⟩
  have g2 := Lib.hid (And.intro h2 (But.trans (But.of_below gB.out) h3))
  clear h2 h3
  go_wp2
  go_ret3
  exact ⟨rfl, g2.out.1, g2.out.2⟩
end
end Go.Proofs.Ytepgdeokjgjapaa.QJ
