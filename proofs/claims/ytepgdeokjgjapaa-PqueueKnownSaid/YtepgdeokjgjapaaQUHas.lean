/- A queue by its ids and priorities alone. -/
import Derived.Test.YtepgdeokjgjapaaQUEnd
import Derived.Test.YtepgdeokjgjapaaQUNew
namespace Go.Proofs.Ytepgdeokjgjapaa.QU
open Go.RowKit

/-- The queue at block P, made behind w0, has the items S, in whatever order they lie. -/
def QHas (w0 w : World) (P n : Nat) (S : List It) : Prop := ∃ v G pl, QOwn w w0.heap.size P n v G pl ∧ G.Perm S ∧ Below w0.heap.size w0 w
theorem QHas.below {w0 w w' : World} {P n : Nat} {S : List It} (h : QHas w0 w P n S) (hb : Below w.heap.size w w') : QHas w0 w' P n S := by
  obtain ⟨v, G, pl, h1, h2, h3⟩ := h
  exact ⟨v, G, pl, h1.below hb, h2, h3.trans (hb.mono h3.size)⟩
theorem chg_below {w0 w w' : World} {P n : Nat} {v v' : Value} {l : List It} {pl : List Nat} (h : QOwn w w0.heap.size P n v l pl) (hb : Below w0.heap.size w0 w) (hc : Chg w w' P v v') : Below w0.heap.size w0 w' :=
  ⟨hc.but.os.trans hb.os, hc.but.tape.trans hb.tape, hc.but.output.trans hb.output, Nat.le_trans hb.size hc.but.size, fun k hk => (hc.but.block k (Nat.lt_of_lt_of_le hk hb.size) (by
    have := h.qs.hP
    rintro (e | e)
    · omega
    · have := (h.qs.row.lt k e).1; omega)).trans (hb.block k hk)⟩
theorem mem_at {α : Type} {l : List α} {x : α} (h : x ∈ l) : ∃ k : Nat, l[k]? = some x := by
  obtain ⟨k, hk, rfl⟩ := List.mem_iff_getElem.1 h
  exact ⟨k, List.getElem?_eq_getElem hk⟩
section
variable {w0 w : World} {P n : Nat} {S : List It}
theorem has_new (n : Nat) (w : World) (h1 : 1 ≤ n) (h2 : n ≤ 1024) : Calls Try.prog 45 #[.int .i64 (n : Nat)] w fun e w' => e = .returned (.tuple #[.pointer (some ⟨w.heap.size, 0, none⟩), .int .i64 0]) ∧ Hid (QHas w w' w.heap.size n []) := by
  refine (new_any n w h1 h2).mono ?_
  rintro e w' ⟨rfl, h, hb⟩
  exact ⟨rfl, _, _, _, h, List.Perm.refl _, hb⟩
theorem has_push (h : QHas w0 w P n S) (i : Nat) (p : Pr) (hi : i < n) (hno : ∀ y ∈ S, y.1 ≠ i) : Calls Try.prog 47 #[.pointer (some ⟨P, 0, none⟩), .int .i64 (i : Nat), .int .u8 p] w fun e w' => e = .returned (.int .i64 0) ∧ Hid (QHas w0 w' P n ((i, p) :: S)) := by
  obtain ⟨v, G, pl, hO, hp, hb⟩ := h
  refine (push_any w _ P n i v G pl p hO hi (fun y hy => hno y (hp.mem_iff.1 hy))).mono ?_
  rintro e w' ⟨rfl, v', G', pl', h1, h2, h3⟩
  exact ⟨rfl, v', G', pl', h1, h2.trans ((hp.append_right _).trans List.perm_append_comm), chg_below hO hb h3⟩
theorem has_push_have (h : QHas w0 w P n S) (y : It) (p : Pr) (hy : y ∈ S) : Calls Try.prog 47 #[.pointer (some ⟨P, 0, none⟩), .int .i64 (y.1 : Nat), .int .u8 p] w fun e w' => e = .returned (.int .i64 6) ∧ w = w' := by
  obtain ⟨v, G, pl, hO, hp, hb⟩ := h
  obtain ⟨k, hk⟩ := mem_at (hp.mem_iff.2 hy)
  exact push_have hO k y p hk
theorem has_push_out (h : QHas w0 w P n S) (id : Int) (p : Pr) (hi : id < 0 ∨ (n : Int) ≤ id) : Calls Try.prog 47 #[.pointer (some ⟨P, 0, none⟩), .int .i64 id, .int .u8 p] w fun e w' => e = .returned (.int .i64 3) ∧ w = w' := by
  obtain ⟨v, G, pl, hO, hp, hb⟩ := h
  exact push_out hO.qs id p hi
theorem has_first (h : QHas w0 w P n S) {x : It} {t : List It} (hs : Rising lt (x :: t)) (hp : (x :: t).Perm S) : ∃ v G pl, QOwn w w0.heap.size P n v G pl ∧ G.Perm S ∧ Below w0.heap.size w0 w ∧ G[0]? = some x := by
  obtain ⟨v, G, pl, hO, hG, hb⟩ := h
  have hpG := hp.trans hG.symm
  have hl := hpG.length_eq
  obtain ⟨m, hm⟩ : ∃ m, G[0]? = some m := ⟨_, List.getElem?_eq_getElem (by rw [← hl]; simp)⟩
  obtain ⟨t', e⟩ := head_first iord hO.heap hm hs hpG
  obtain ⟨rfl, rfl⟩ : x = m ∧ t = t' := by simpa using e
  exact ⟨v, G, pl, hO, hG, hb, hm⟩
theorem has_peek (h : QHas w0 w P n S) {x : It} {t : List It} (hs : Rising lt (x :: t)) (hp : (x :: t).Perm S) : Calls Try.prog 83 #[.pointer (some ⟨P, 0, none⟩)] w fun e w' => e = .returned (.tuple #[.int .i64 (x.1 : Nat), .int .u8 x.2, .bool true]) ∧ Hid (QHas w0 w' P n S) := by
  have h' := h
  obtain ⟨v, G, pl, hO, hG, hb, hx⟩ := has_first h hs hp
  refine (peek_any hO.qs x hx).mono ?_
  rintro e w' ⟨rfl, hb'⟩
  exact ⟨rfl, h'.below hb'⟩
theorem has_pop (h : QHas w0 w P n S) {x : It} {t : List It} (hs : Rising lt (x :: t)) (hp : (x :: t).Perm S) : Calls Try.prog 49 #[.pointer (some ⟨P, 0, none⟩)] w fun e w' => e = .returned (.tuple #[.int .i64 (x.1 : Nat), .int .u8 x.2, .bool true]) ∧ Hid (QHas w0 w' P n t) := by
  obtain ⟨v, G, pl, hO, hG, hb, hx⟩ := has_first h hs hp
  refine (pop_any hO x hx).mono ?_
  rintro e w' ⟨rfl, v', G', pl', h1, h2, h3⟩
  exact ⟨rfl, v', G', pl', h1, ((h2.symm.trans hG).trans hp.symm).cons_inv, chg_below hO hb h3⟩
theorem has_none (h : QHas w0 w P n []) : ∃ v pl, QOwn w w0.heap.size P n v [] pl := by
  obtain ⟨v, G, pl, hO, hp, hb⟩ := h
  obtain rfl := hp.eq_nil
  exact ⟨v, pl, hO⟩
theorem has_pop_none (h : QHas w0 w P n []) : Calls Try.prog 49 #[.pointer (some ⟨P, 0, none⟩)] w fun e w' => e = .returned (.tuple #[.int .i64 0, .int .u8 0, .bool false]) ∧ w = w' := by
  obtain ⟨v, pl, hO⟩ := has_none h
  exact pop_none hO.qs
theorem has_len (h : QHas w0 w P n S) : Calls Try.prog 107 #[.pointer (some ⟨P, 0, none⟩)] w fun e w' => e = .returned (.int .i64 (S.length : Nat)) ∧ w = w' := by
  obtain ⟨v, G, pl, hO, hp, hb⟩ := h
  rw [← hp.length_eq]
  exact len_any hO.qs
end
end Go.Proofs.Ytepgdeokjgjapaa.QU
