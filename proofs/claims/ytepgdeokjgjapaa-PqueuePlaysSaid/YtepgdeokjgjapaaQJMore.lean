/- More of what a queue of int64 does: Priority, Copy, Peek at none. -/
import Derived.Test.YtepgdeokjgjapaaQJCopied
import Derived.Test.YtepgdeokjgjapaaSort
namespace Go.Proofs.Ytepgdeokjgjapaa.QJ
open Go.RowKit
section
variable {w0 w : World} {P n : Nat} {S : List It}
theorem has_priority (h : QHas w0 w P n S) (y : It) (hy : y ∈ S) : Calls Try.prog 28 #[.pointer (some ⟨P, 0, none⟩), .int .i64 (y.1 : Nat)] w fun e w' => e = .returned (.tuple #[.int .i64 y.2, .bool true]) ∧ w = w' := by
  obtain ⟨v, G, pl, hO, hp, _⟩ := h
  obtain ⟨k, hk⟩ := mem_at (hp.mem_iff.2 hy)
  have hyn := hO.ids y (List.mem_of_getElem? hk)
  have hk4 : k < 1024 := by have := lt_of_some hk; have := hO.len; have := hO.hn; omega
  have hl := lt_of_some hk
  obtain ⟨g, c, rfl, hc, _⟩ := hO.qs.shape (by omega)
  obtain ⟨u0, u1⟩ := hO.qs.item hk
  have c2 := hO.qs.c2
  have gO := Lib.hid hO
  have gp := Lib.hid ((hO.plc y.1 (by rw [hO.qs.len]; have := hO.hn; omega) (by simp)).1 k y hk rfl)
  have hkl : (k : Int) < (G.length : Int) := by omega
  have hk0 : (0 : Int) ≤ (k : Int) := by omega
  have gk := Lib.hid hk
  clear hO hk hp
  go_enter Try.func28, Try.ntmps28
  go_wp2_with (go_at_call 58; refine (find_at gO.out.qs y.1 k hyn gO.out.hn hk4 gp.out).mono ?_; rintro e w' ⟨rfl, rfl⟩)
  go_ret2
  have e2 : G[k]'hl = y := (List.getElem?_eq_some_iff.1 gk.out).2
  exact ⟨by simp only [e2]; rfl, rfl⟩
theorem has_priority_none (h : QHas w0 w P n S) (i : Nat) (hi : i < n) (hno : ∀ y ∈ S, y.1 ≠ i) : Calls Try.prog 28 #[.pointer (some ⟨P, 0, none⟩), .int .i64 (i : Nat)] w fun e w' => e = .returned (.tuple #[.int .i64 0, .bool false]) ∧ w = w' := by
  obtain ⟨v, G, pl, h, hG, _⟩ := h
  have hp0 : pl[i]? = some 0 := by
    rcases h.place hi with ⟨k, x, hx, e, _⟩ | ⟨_, h0⟩
    · exact absurd e (hno x (hG.mem_iff.1 (List.mem_of_getElem? hx)))
    · exact h0
  have g := Lib.hid h
  have gp := Lib.hid hp0
  clear h hno hp0 hG
  go_enter Try.func28, Try.ntmps28
  go_wp2_with (go_at_call 58; refine (find_none g.out.qs i hi g.out.hn gp.out).mono ?_; rintro e w' ⟨rfl, rfl⟩)
  go_ret2
  exact ⟨rfl, rfl⟩
theorem QHas.nodup (h : QHas w0 w P n S) : S.Nodup := by
  obtain ⟨v, G, pl, hO, hp, _⟩ := h
  exact hp.nodup_iff.1 (List.Pairwise.imp (fun hne e => hne (by rw [e])) (List.pairwise_map.1 hO.nd))
theorem has_copy (h : QHas w0 w P n S) : Calls Try.prog 22 #[.pointer (some ⟨P, 0, none⟩)] w fun e w' => e = .returned (.pointer (some ⟨w.heap.size, 0, none⟩)) ∧ Hid (QHas w w' w.heap.size n S) := by
  obtain ⟨v, G, pl, hO, hp, _⟩ := h
  refine (copy_any hO).mono ?_
  rintro e w' ⟨rfl, g⟩
  obtain ⟨v', h1, h2⟩ := g.out
  exact ⟨rfl, v', G, pl, h1, hp, h2⟩
end
theorem has_peek_none {w0 w : World} {P n : Nat} (h : QHas w0 w P n []) : Calls Try.prog 29 #[.pointer (some ⟨P, 0, none⟩)] w fun e w' => e = .returned (.tuple #[.int .i64 0, .int .i64 0, .bool false]) ∧ w = w' := by
  obtain ⟨v, pl, hO⟩ := has_none h
  exact peek_none hO.qs
theorem has_peek_at {w0 w : World} {P n : Nat} {S : List It} (h : QHas w0 w P n S) {x : It} {t : List It} (hs : Rising lt (x :: t)) (hp : (x :: t).Perm S) : Calls Try.prog 29 #[.pointer (some ⟨P, 0, none⟩)] w fun e w' => e = .returned (.tuple #[.int .i64 (x.1 : Nat), .int .i64 x.2, .bool true]) ∧ Below w.heap.size w w' := by
  obtain ⟨v, G, pl, hO, _, _, hx⟩ := has_first h hs hp
  exact peek_any hO.qs x hx
end Go.Proofs.Ytepgdeokjgjapaa.QJ
