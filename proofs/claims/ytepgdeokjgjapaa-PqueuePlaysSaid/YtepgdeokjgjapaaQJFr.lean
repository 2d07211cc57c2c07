/- A queue of int64 and the reference's queue beside each other: what an operation on one leaves of the other. -/
import Derived.Test.YtepgdeokjgjapaaQJTie
import Derived.Test.YtepgdeokjgjapaaQJAll
namespace Go.Proofs.Ytepgdeokjgjapaa.QJ
open Go.RowKit
section
variable {w0 w : World} {P n : Nat} {S : List It}
theorem QHas.perm {S' : List It} (h : QHas w0 w P n S) (hp : S.Perm S') : QHas w0 w P n S' := by
  obtain ⟨v, G, pl, h1, h2, h3⟩ := h
  exact ⟨v, G, pl, h1, h2.trans hp, h3⟩
theorem QHas.rebase {w1 : World} (h : QHas w1 w P n S) (hb : Below w0.heap.size w0 w1) : QHas w0 w P n S := by
  obtain ⟨v, G, pl, h1, h2, h3⟩ := h
  have hs := hb.size
  exact ⟨v, G, pl, ⟨⟨Nat.le_trans hs h1.qs.hP, h1.qs.blk, World.ownsRow.mono h1.qs.row hs, h1.qs.len⟩, h1.heap, h1.plc, h1.nd, h1.ids, h1.hn⟩, h2, hb.trans (h3.mono hs)⟩
/-- What an operation on the queue leaves. -/
def Did (w0 w w' : World) (P n : Nat) (S : List It) : Prop := QHas w0 w' P n S ∧ Turned w0.heap.size w w'
theorem Did.same (h : QHas w0 w P n S) : Did w0 w w P n S := ⟨h, Turned.refl _ _⟩
theorem Did.below {w' : World} (h : QHas w0 w P n S) (hb : Below w.heap.size w w') : Did w0 w w' P n S := by
  refine ⟨h.below hb, ?_⟩
  exact ⟨hb.os, hb.tape, hb.output, hb.size, fun k hk _ => hb.block k hk⟩
theorem did_push (h : QHas w0 w P n S) (i : Nat) (p : Pr) (hi : i < n) (hno : ∀ y ∈ S, y.1 ≠ i) : Calls Try.prog 14 #[.pointer (some ⟨P, 0, none⟩), .int .i64 (i : Nat), .int .i64 p] w fun e w' => e = .returned (.int .i64 0) ∧ Did w0 w w' P n ((i, p) :: S) := by
  obtain ⟨v, G, pl, hO, hp, hb⟩ := h
  refine (push_any w _ P n i v G pl p hO hi (fun y hy => hno y (hp.mem_iff.1 hy))).mono ?_
  rintro e w' ⟨rfl, v', G', pl', h1, h2, h3⟩
  exact ⟨rfl, ⟨v', G', pl', h1, h2.trans ((hp.append_right _).trans List.perm_append_comm), chg_below hO hb h3⟩, turned_chg hO h3⟩
theorem did_change (h : QHas w0 w P n S) {y : It} {t : List It} (p : Pr) (hp : S.Perm (y :: t)) : Calls Try.prog 16 #[.pointer (some ⟨P, 0, none⟩), .int .i64 (y.1 : Nat), .int .i64 p] w fun e w' => e = .returned (.int .i64 0) ∧ Did w0 w w' P n ((y.1, p) :: t) := by
  obtain ⟨v, G, pl, hO, hG, hb⟩ := h
  obtain ⟨k, hk⟩ := mem_at (hG.mem_iff.2 (hp.mem_iff.2 (List.mem_cons_self ..)))
  refine (change_any hO k y p hk).mono ?_
  rintro e w' ⟨rfl, v', G', pl', h1, h2, h3⟩
  have h4 := set_swap G k y (y.1, p) hk
  have h5 : (y :: G.set k (y.1, p)).Perm (y :: (y.1, p) :: t) := h4.trans (((hG.trans hp).cons _).trans (List.Perm.swap _ _ _))
  exact ⟨rfl, ⟨v', G', pl', h1, h2.trans h5.cons_inv, chg_below hO hb h3⟩, turned_chg hO h3⟩
theorem did_remove (h : QHas w0 w P n S) {y : It} {t : List It} (hp : S.Perm (y :: t)) : Calls Try.prog 18 #[.pointer (some ⟨P, 0, none⟩), .int .i64 (y.1 : Nat)] w fun e w' => e = .returned (.tuple #[.int .i64 y.2, .bool true]) ∧ Did w0 w w' P n t := by
  obtain ⟨v, G, pl, hO, hG, hb⟩ := h
  obtain ⟨k, hk⟩ := mem_at (hG.mem_iff.2 (hp.mem_iff.2 (List.mem_cons_self ..)))
  refine (remove_any hO k y hk).mono ?_
  rintro e w' ⟨rfl, v', G', pl', h1, h2, h3⟩
  exact ⟨rfl, ⟨v', G', pl', h1, (h2.symm.trans (hG.trans hp)).cons_inv, chg_below hO hb h3⟩, turned_chg hO h3⟩
theorem did_pop (h : QHas w0 w P n S) {x : It} {t : List It} (hs : Rising lt (x :: t)) (hp : (x :: t).Perm S) : Calls Try.prog 20 #[.pointer (some ⟨P, 0, none⟩)] w fun e w' => e = .returned (.tuple #[.int .i64 (x.1 : Nat), .int .i64 x.2, .bool true]) ∧ Did w0 w w' P n t := by
  obtain ⟨v, G, pl, hO, hG, hb, hx⟩ := has_first h hs hp
  refine (pop_any hO x hx).mono ?_
  rintro e w' ⟨rfl, v', G', pl', h1, h2, h3⟩
  exact ⟨rfl, ⟨v', G', pl', h1, ((h2.symm.trans hG).trans hp.symm).cons_inv, chg_below hO hb h3⟩, turned_chg hO h3⟩
theorem has_out_push (h : QHas w0 w P n S) (id : Int) (p : Pr) (hi : id < 0 ∨ (n : Int) ≤ id) : Calls Try.prog 14 #[.pointer (some ⟨P, 0, none⟩), .int .i64 id, .int .i64 p] w fun e w' => e = .returned (.int .i64 3) ∧ w = w' := has_push_out h id p hi
theorem has_out_change (h : QHas w0 w P n S) (id : Int) (p : Pr) (hi : id < 0 ∨ (n : Int) ≤ id) : Calls Try.prog 16 #[.pointer (some ⟨P, 0, none⟩), .int .i64 id, .int .i64 p] w fun e w' => e = .returned (.int .i64 3) ∧ w = w' := by
  obtain ⟨v, G, pl, hO, _, _⟩ := h
  exact change_out hO.qs id p hi
theorem has_out_remove (h : QHas w0 w P n S) (id : Int) (hi : id < 0 ∨ (n : Int) ≤ id) : Calls Try.prog 18 #[.pointer (some ⟨P, 0, none⟩), .int .i64 id] w fun e w' => e = .returned (.tuple #[.int .i64 0, .bool false]) ∧ w = w' := by
  obtain ⟨v, G, pl, hO, _, _⟩ := h
  exact remove_out hO.qs id hi
theorem has_off_remove (h : QHas w0 w P n S) (i : Nat) (hi : i < n) (hno : ∀ y ∈ S, y.1 ≠ i) : Calls Try.prog 18 #[.pointer (some ⟨P, 0, none⟩), .int .i64 (i : Nat)] w fun e w' => e = .returned (.tuple #[.int .i64 0, .bool false]) ∧ w = w' := by
  obtain ⟨v, G, pl, hO, hp, _⟩ := h
  exact remove_none hO i hi (fun y hy => hno y (hp.mem_iff.1 hy))
theorem has_priority_out (h : QHas w0 w P n S) (id : Int) (hi : id < 0 ∨ (n : Int) ≤ id) : Calls Try.prog 28 #[.pointer (some ⟨P, 0, none⟩), .int .i64 id] w fun e w' => e = .returned (.tuple #[.int .i64 0, .bool false]) ∧ w = w' := by
  obtain ⟨v, G, pl, h, hG, _⟩ := h
  have g := Lib.hid h
  clear h hG
  go_enter Try.func28, Try.ntmps28
  go_wp2_with (go_at_call 58; refine (find_out g.out.qs id hi).mono ?_; rintro e w' ⟨rfl, rfl⟩)
  go_ret2
  exact ⟨rfl, rfl⟩
end
theorem row_type {w : World} {B e sz m c g : Nat} {xs : List Value} (h : w.ownsRow B e sz (.slice (some ⟨g, 0, none⟩) m c) m xs) : ∃ cur, w.heap[g]? = some (.cells cur e (0, 0)) := by
  rcases h.2 with ⟨hv, _⟩ | ⟨g', cap, cur, hv, hg, hh, _⟩
  · cases hv
  · injection hv with h1 _ _
    injection h1 with h1
    injection h1 with h1
    subst h1
    exact ⟨cur, hh⟩
theorem not_mine_type {w : World} {k : Nat} {cs : Array Value} {t : TypeId} {fr : Nat × Nat} (h : w.heap[k]? = some (.cells cs t fr)) (ht : t ≠ 53 ∧ t ≠ 104) : ¬ Mine w k := by
  rintro ⟨cs', t', fr', h1, h2⟩
  rw [h] at h1
  cases h1
  rcases h2 with h2 | h2
  · exact ht.1 h2
  · exact ht.2 h2
section
variable {w0 w w' : World} {P R n B bI cI bP cP : Nat} {S : List It} {L : List Mk}
theorem ROwn.turned (h : ROwn w B R n bI cI bP cP L) {B' : Nat} (ht : Turned B' w w') : ROwn w' B R n bI cI bP cP L := by
  obtain ⟨c1, e1⟩ := row_type h.rowI
  obtain ⟨c2, e2⟩ := row_type h.rowP
  refine ⟨h.len, h.pos, h.top, h.hR, h.ne, h.neI, h.neP, (ht.block R (lt_of_heap h.blk) (.inr (not_mine_type h.blk (by decide)))).trans h.blk, owns_of_block h.rowI fun g hg => ?_, owns_of_block h.rowP fun g hg => ?_⟩
  · cases hg; exact ht.block _ (lt_of_heap e1) (.inr (not_mine_type e1 (by decide)))
  · cases hg; exact ht.block _ (lt_of_heap e2) (.inr (not_mine_type e2 (by decide)))
theorem ROwn.rebase {B' : Nat} (h : ROwn w B R n bI cI bP cP L) (hb : B' ≤ B) : ROwn w B' R n bI cI bP cP L :=
  ⟨h.len, h.pos, h.top, Nat.le_trans hb h.hR, h.ne, h.neI, h.neP, h.blk, World.ownsRow.mono h.rowI hb, World.ownsRow.mono h.rowP hb⟩
theorem QHas.rc (h : QHas w0 w P n S) (r : ROwn w w0.heap.size R n bI cI bP cP L) (hc : RC w w' bI bP) : QHas w0 w' P n S := by
  obtain ⟨v, G, pl, h1, h2, h3⟩ := h
  obtain ⟨c1, e1⟩ := row_type r.rowI
  obtain ⟨c2, e2⟩ := row_type r.rowP
  have off : ∀ k cs t fr, w.heap[k]? = some (.cells cs t fr) → t = 53 ∨ t = 104 → ¬ (k = bI ∨ k = bP) := by
    rintro k cs t fr hk ht (rfl | rfl)
    · rw [e1] at hk; cases hk; rcases ht with ht | ht <;> exact absurd ht (by decide)
    · rw [e2] at hk; cases hk; rcases ht with ht | ht <;> exact absurd ht (by decide)
  have b1 : w0.heap.size ≤ bI := (r.rowI.lt bI rfl).1
  have b2 : w0.heap.size ≤ bP := (r.rowP.lt bP rfl).1
  refine ⟨v, G, pl, ⟨⟨h1.qs.hP, (hc.block P (lt_of_heap h1.qs.blk) (off P _ _ _ h1.qs.blk (.inl rfl))).trans h1.qs.blk, owns_of_block h1.qs.row fun g hg => ?_, h1.qs.len⟩, h1.heap, h1.plc, h1.nd, h1.ids, h1.hn⟩, h2, ?_⟩
  · rcases h1.qs.row.2 with ⟨rfl, _⟩ | ⟨g', cap, cur, rfl, _, hh, _⟩
    · cases hg
    · obtain rfl : g' = g := by simpa [Value.ownBlock] using hg
      exact hc.block _ (lt_of_heap hh) (off _ _ _ _ hh (.inr rfl))
  · exact ⟨hc.os.trans h3.os, hc.tape.trans h3.tape, hc.output.trans h3.output, Nat.le_trans h3.size hc.size, fun k hk => (hc.block k (Nat.lt_of_lt_of_le hk h3.size) (by rintro (rfl | rfl) <;> omega)).trans (h3.block k hk)⟩
/-- Both queues, each with what it holds. -/
def Two (w0 w : World) (P R n : Nat) (S : List It) (L : List Mk) : Prop := QHas w0 w P n S ∧ ∃ bI cI bP cP, ROwn w w0.heap.size R n bI cI bP cP L
theorem Two.did {S' : List It} (h : Two w0 w P R n S L) (d : Did w0 w w' P n S') : Two w0 w' P R n S' L := by
  obtain ⟨_, bI, cI, bP, cP, r⟩ := h
  exact ⟨d.1, bI, cI, bP, cP, r.turned d.2⟩
theorem Two.below (h : Two w0 w P R n S L) (hb : Below w.heap.size w w') : Two w0 w' P R n S L := by
  obtain ⟨q, bI, cI, bP, cP, r⟩ := h
  exact ⟨q.below hb, bI, cI, bP, cP, r.below hb⟩
theorem Two.perm {S' : List It} (h : Two w0 w P R n S L) (hp : S.Perm S') : Two w0 w P R n S' L := ⟨h.1.perm hp, h.2⟩
theorem Two.len (h : Two w0 w P R n S L) : L.length = n := by
  obtain ⟨_, bI, cI, bP, cP, r⟩ := h
  exact r.len
end
end Go.Proofs.Ytepgdeokjgjapaa.QJ
