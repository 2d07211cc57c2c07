/- Both queues, operation by operation: the same results. -/
import Derived.Test.YtepgdeokjgjapaaQJFr
import Derived.Test.YtepgdeokjgjapaaQLBad
namespace Go.Proofs.Ytepgdeokjgjapaa.QJ
open Go.RowKit
/-- Both are nil, or both are queues with the same ids and priorities. -/
def Pl (w0 w : World) (q r : Value) : Prop :=
  (q = .pointer none ∧ r = .pointer none ∧ Below w0.heap.size w0 w) ∨ ∃ P R n L, q = .pointer (some ⟨P, 0, none⟩) ∧ r = .pointer (some ⟨R, 0, none⟩) ∧ Two w0 w P R n (marked 0 L) L
/-- Blocks of type 32 stand as they stood. -/
def K32 (w w' : World) : Prop := ∀ (k : Nat) (cs : Array Value) (fr : Nat × Nat), w.heap[k]? = some (Obj.cells cs 32 fr) → w'.heap[k]? = some (Obj.cells cs 32 fr)
theorem K32.refl (w : World) : K32 w w := fun _ _ _ h => h
theorem K32.trans {a b c : World} (h : K32 a b) (k : K32 b c) : K32 a c := fun i cs fr hi => k i cs fr (h i cs fr hi)
theorem K32.below {a b : World} (h : Below a.heap.size a b) : K32 a b := fun k _ _ hk => (h.block k (lt_of_heap hk)).trans hk
theorem K32.turned {a b : World} {B : Nat} (h : Turned B a b) : K32 a b := fun k _ _ hk => (h.block k (lt_of_heap hk) (.inr (not_mine_type hk (by decide)))).trans hk
theorem K32.rc {w w' : World} {B R n bI cI bP cP : Nat} {L : List Mk} (r : ROwn w B R n bI cI bP cP L) (hc : RC w w' bI bP) : K32 w w' := by
  obtain ⟨c1, e1⟩ := row_type r.rowI
  obtain ⟨c2, e2⟩ := row_type r.rowP
  intro k cs fr hk
  refine (hc.block k (lt_of_heap hk) ?_).trans hk
  rintro (rfl | rfl)
  · rw [e1] at hk; cases hk
  · rw [e2] at hk; cases hk
theorem K32.same {w w' : World} (h : w = w') : K32 w w' := h ▸ K32.refl w
section
variable {w0 w w' : World} {P R n : Nat} {S : List It} {L : List Mk} {q r : Value}
theorem Pl.low (h : Pl w0 w q r) : Below w0.heap.size w0 w := by
  rcases h with ⟨_, _, h⟩ | ⟨P, R, n, L, _, _, ⟨_, _, _, _, _, h⟩, _⟩
  · exact h
  · exact h
theorem Pl.below (h : Pl w0 w q r) (hb : Below w.heap.size w w') : Pl w0 w' q r := by
  rcases h with ⟨h1, h2, h3⟩ | ⟨P, R, n, L, h1, h2, h3⟩
  · exact .inl ⟨h1, h2, h3.trans (hb.mono h3.size)⟩
  · exact .inr ⟨P, R, n, L, h1, h2, h3.below hb⟩
theorem Two.rc {bI cI bP cP : Nat} {L' : List Mk} (h : QHas w0 w P n S) (r : ROwn w w0.heap.size R n bI cI bP cP L) (r' : ROwn w' w0.heap.size R n bI cI bP cP L') (hc : RC w w' bI bP) : Two w0 w' P R n S L' := ⟨h.rc r hc, bI, cI, bP, cP, r'⟩
theorem bad_nil (w : World) : Bad w none := .inl rfl
theorem in_range (id : Int) (n : Nat) : (id < 0 ∨ (n : Int) ≤ id) ∨ ∃ i : Nat, id = (i : Nat) ∧ i < n := by
  rcases Int.lt_or_le id 0 with h | h
  · exact .inl (.inl h)
  · rcases Int.lt_or_le id n with h1 | h1
    · exact .inr ⟨id.toNat, by omega, by omega⟩
    · exact .inl (.inr h1)
theorem mark_at (hl : L.length = n) {i : Nat} (hi : i < n) : ∃ m q, L[i]? = some (m, q) := by
  have : i < L.length := by omega
  exact ⟨(L[i]).1, (L[i]).2, List.getElem?_eq_getElem this⟩
theorem set_true {i : Nat} {m : Bool} {q : Int} (h : L[i]? = some (m, q)) (p : Int) : ∃ t, (marked 0 L).Perm (one i (m, q) ++ t) ∧ (marked 0 (L.set i (true, p))).Perm ((i, p) :: t) ∧ (marked 0 (L.set i (false, p))).Perm t := by
  obtain ⟨t, h1, h2⟩ := marked_split h
  exact ⟨t, h1, h2 (true, p), h2 (false, p)⟩
theorem pl_push (h : Pl w0 w q r) (id p : Int) : ∃ (v : Int) (M : World → Prop), (Calls Try.prog 14 #[q, .int .i64 id, .int .i64 p] w fun e w1 => e = .returned (.int .i64 v) ∧ M w1 ∧ K32 w w1) ∧
    ∀ w1, M w1 → Calls Try.prog 15 #[r, .int .i64 id, .int .i64 p] w1 fun e w2 => e = .returned (.int .i64 v) ∧ Pl w0 w2 q r ∧ K32 w1 w2 := by
  rcases h with ⟨rfl, rfl, hB⟩ | ⟨P, R, n, L, rfl, rfl, hT⟩
  · refine ⟨1, fun w1 => w = w1, (QJ.push_bad none id p w (bad_nil w)).mono fun e w' h => ⟨h.1, h.2, .same h.2⟩, ?_⟩
    rintro w1 rfl
    refine (rpush_nil id p w).mono ?_
    rintro e w2 ⟨rfl, rfl⟩
    exact ⟨rfl, .inl ⟨rfl, rfl, hB⟩, .refl _⟩
  · have hT' := hT
    obtain ⟨hq, bI, cI, bP, cP, hr⟩ := hT
    rcases in_range id n with ho | ⟨i, rfl, hi⟩
    · refine ⟨3, fun w1 => w = w1, (has_out_push hq id p ho).mono fun e w' h => ⟨h.1, h.2, .same h.2⟩, ?_⟩
      rintro w1 rfl
      refine (rpush_out hr id p ho).mono ?_
      rintro e w2 ⟨rfl, rfl⟩
      exact ⟨rfl, .inr ⟨P, R, n, L, rfl, rfl, hT'⟩, .refl _⟩
    · obtain ⟨m, x, hx⟩ := mark_at hr.len hi
      cases m with
      | true =>
        refine ⟨6, fun w1 => w = w1, (has_push_have hq ((i, x) : It) p (mem_marked0.2 hx)).mono fun e w' h => ⟨h.1, h.2, .same h.2⟩, ?_⟩
        rintro w1 rfl
        refine (rpush_have hr i x p hx).mono ?_
        rintro e w2 ⟨rfl, rfl⟩
        exact ⟨rfl, .inr ⟨P, R, n, L, rfl, rfl, hT'⟩, .refl _⟩
      | false =>
        obtain ⟨t, t1, t2, _⟩ := set_true hx p
        refine ⟨0, fun w1 => Did w0 w w1 P n ((i, p) :: marked 0 L), (did_push hq i p hi (marked_off hx)).mono fun e w' h => ⟨h.1, h.2, .turned h.2.2⟩, ?_⟩
        intro w1 hD
        have hr1 := hr.turned hD.2
        refine (rpush hr1 i x p hx).mono ?_
        rintro e w2 ⟨rfl, r2, rc⟩
        exact ⟨rfl, .inr ⟨P, R, n, _, rfl, rfl, (Two.rc hD.1 hr1 r2 rc).perm ((t1.cons _).trans t2.symm)⟩, .rc hr1 rc⟩
theorem pl_change (h : Pl w0 w q r) (id p : Int) : ∃ (v : Int) (M : World → Prop), (Calls Try.prog 16 #[q, .int .i64 id, .int .i64 p] w fun e w1 => e = .returned (.int .i64 v) ∧ M w1 ∧ K32 w w1) ∧
    ∀ w1, M w1 → Calls Try.prog 17 #[r, .int .i64 id, .int .i64 p] w1 fun e w2 => e = .returned (.int .i64 v) ∧ Pl w0 w2 q r ∧ K32 w1 w2 := by
  rcases h with ⟨rfl, rfl, hB⟩ | ⟨P, R, n, L, rfl, rfl, hT⟩
  · refine ⟨1, fun w1 => w = w1, (QJ.change_bad none id p (bad_nil w)).mono fun e w' h => ⟨h.1, h.2, .same h.2⟩, ?_⟩
    rintro w1 rfl
    refine (rchange_nil id p w).mono ?_
    rintro e w2 ⟨rfl, rfl⟩
    exact ⟨rfl, .inl ⟨rfl, rfl, hB⟩, .refl _⟩
  · have hT' := hT
    obtain ⟨hq, bI, cI, bP, cP, hr⟩ := hT
    rcases in_range id n with ho | ⟨i, rfl, hi⟩
    · refine ⟨3, fun w1 => w = w1, (has_out_change hq id p ho).mono fun e w' h => ⟨h.1, h.2, .same h.2⟩, ?_⟩
      rintro w1 rfl
      refine (rchange_out hr id p ho).mono ?_
      rintro e w2 ⟨rfl, rfl⟩
      exact ⟨rfl, .inr ⟨P, R, n, L, rfl, rfl, hT'⟩, .refl _⟩
    · obtain ⟨m, x, hx⟩ := mark_at hr.len hi
      cases m with
      | false =>
        refine ⟨5, fun w1 => w = w1, (has_change_none hq i p hi (marked_off hx)).mono fun e w' h => ⟨h.1, h.2, .same h.2⟩, ?_⟩
        rintro w1 rfl
        refine (rchange_none hr i x p hx).mono ?_
        rintro e w2 ⟨rfl, rfl⟩
        exact ⟨rfl, .inr ⟨P, R, n, L, rfl, rfl, hT'⟩, .refl _⟩
      | true =>
        obtain ⟨t, t1, t2, _⟩ := set_true hx p
        refine ⟨0, fun w1 => Did w0 w w1 P n ((i, p) :: t), (did_change hq (y := ((i, x) : It)) p t1).mono fun e w' h => ⟨h.1, h.2, .turned h.2.2⟩, ?_⟩
        intro w1 hD
        have hr1 := hr.turned hD.2
        refine (rchange hr1 i x p hx).mono ?_
        rintro e w2 ⟨rfl, r2, rc⟩
        exact ⟨rfl, .inr ⟨P, R, n, _, rfl, rfl, (Two.rc hD.1 hr1 r2 rc).perm t2.symm⟩, .rc hr1 rc⟩
theorem pl_remove (h : Pl w0 w q r) (id : Int) : ∃ (v : Int) (b : Bool) (M : World → Prop), (Calls Try.prog 18 #[q, .int .i64 id] w fun e w1 => e = .returned (.tuple #[.int .i64 v, .bool b]) ∧ M w1 ∧ K32 w w1) ∧
    ∀ w1, M w1 → Calls Try.prog 19 #[r, .int .i64 id] w1 fun e w2 => e = .returned (.tuple #[.int .i64 v, .bool b]) ∧ Pl w0 w2 q r ∧ K32 w1 w2 := by
  rcases h with ⟨rfl, rfl, hB⟩ | ⟨P, R, n, L, rfl, rfl, hT⟩
  · refine ⟨0, false, fun w1 => w = w1, (QJ.remove_bad none id (bad_nil w)).mono fun e w' h => ⟨h.1, h.2, .same h.2⟩, ?_⟩
    rintro w1 rfl
    refine (rremove_nil id w).mono ?_
    rintro e w2 ⟨rfl, rfl⟩
    exact ⟨rfl, .inl ⟨rfl, rfl, hB⟩, .refl _⟩
  · have hT' := hT
    obtain ⟨hq, bI, cI, bP, cP, hr⟩ := hT
    rcases in_range id n with ho | ⟨i, rfl, hi⟩
    · refine ⟨0, false, fun w1 => w = w1, (has_out_remove hq id ho).mono fun e w' h => ⟨h.1, h.2, .same h.2⟩, ?_⟩
      rintro w1 rfl
      refine (rremove_out hr id ho).mono ?_
      rintro e w2 ⟨rfl, rfl⟩
      exact ⟨rfl, .inr ⟨P, R, n, L, rfl, rfl, hT'⟩, .refl _⟩
    · obtain ⟨m, x, hx⟩ := mark_at hr.len hi
      cases m with
      | false =>
        refine ⟨0, false, fun w1 => w = w1, (has_off_remove hq i hi (marked_off hx)).mono fun e w' h => ⟨h.1, h.2, .same h.2⟩, ?_⟩
        rintro w1 rfl
        refine (rremove_none hr i x hx).mono ?_
        rintro e w2 ⟨rfl, rfl⟩
        exact ⟨rfl, .inr ⟨P, R, n, L, rfl, rfl, hT'⟩, .refl _⟩
      | true =>
        obtain ⟨t, t1, _, t3⟩ := set_true hx x
        refine ⟨x, true, fun w1 => Did w0 w w1 P n t, (did_remove hq (y := ((i, x) : It)) t1).mono fun e w' h => ⟨h.1, h.2, .turned h.2.2⟩, ?_⟩
        intro w1 hD
        have hr1 := hr.turned hD.2
        refine (rremove hr1 i x hx).mono ?_
        rintro e w2 ⟨rfl, r2, rc⟩
        exact ⟨rfl, .inr ⟨P, R, n, _, rfl, rfl, (Two.rc hD.1 hr1 r2 rc).perm t3.symm⟩, .rc hr1 rc⟩
/-- The first item, or none. -/
theorem first_of (hq : QHas w0 w P n (marked 0 L)) (hl : L.length = n) : (marked 0 L = [] ∧ Best L n none) ∨ ∃ (x : It) (t : List It), Rising lt (x :: t) ∧ (x :: t).Perm (marked 0 L) ∧ Best L n (some (x.1, x.2)) := by
  obtain ⟨T, hT, hp⟩ := rising_of iord _ hq.nodup
  cases T with
  | nil =>
    have e := hp.symm.eq_nil
    exact .inl ⟨e, (marked_nil hl).1 e⟩
  | cons x t => exact .inr ⟨x, t, hT, hp, best_head hl hT hp⟩
theorem pl_pop (h : Pl w0 w q r) : ∃ (i v : Int) (b : Bool) (M : World → Prop), (Calls Try.prog 20 #[q] w fun e w1 => e = .returned (.tuple #[.int .i64 i, .int .i64 v, .bool b]) ∧ M w1 ∧ K32 w w1) ∧
    ∀ w1, M w1 → Calls Try.prog 21 #[r] w1 fun e w2 => e = .returned (.tuple #[.int .i64 i, .int .i64 v, .bool b]) ∧ Pl w0 w2 q r ∧ K32 w1 w2 := by
  rcases h with ⟨rfl, rfl, hB⟩ | ⟨P, R, n, L, rfl, rfl, hT⟩
  · refine ⟨0, 0, false, fun w1 => w = w1, (QJ.pop_bad none (bad_nil w)).mono fun e w' h => ⟨h.1, h.2, .same h.2⟩, ?_⟩
    rintro w1 rfl
    refine (rpop_nil w).mono ?_
    rintro e w2 ⟨rfl, rfl⟩
    exact ⟨rfl, .inl ⟨rfl, rfl, hB⟩, .refl _⟩
  · have hT' := hT
    obtain ⟨hq, bI, cI, bP, cP, hr⟩ := hT
    rcases first_of hq hr.len with ⟨e, hb⟩ | ⟨x, t, hs, hp, hb⟩
    · refine ⟨0, 0, false, fun w1 => w = w1, (has_pop_none (by rw [← e]; exact hq)).mono fun e w' h => ⟨h.1, h.2, .same h.2⟩, ?_⟩
      rintro w1 rfl
      refine (rpop_none hr hb).mono ?_
      rintro e w2 ⟨rfl, hB⟩
      exact ⟨rfl, .inr ⟨P, R, n, L, rfl, rfl, hT'.below hB⟩, .below hB⟩
    · refine ⟨x.1, x.2, true, fun w1 => Did w0 w w1 P n t, (did_pop hq hs hp).mono fun e w' h => ⟨h.1, h.2, .turned h.2.2⟩, ?_⟩
      intro w1 hD
      have hr1 := hr.turned hD.2
      refine (rpop hr1 hb).mono ?_
      rintro e w2 ⟨rfl, r2, rc⟩
      obtain ⟨t', t1, _, t3⟩ := set_true (mem_marked0.1 (hp.mem_iff.1 (List.mem_cons_self ..))) x.2
      have t4 : t.Perm t' := (hp.trans t1).cons_inv
      exact ⟨rfl, .inr ⟨P, R, n, _, rfl, rfl, (Two.rc hD.1 hr1 r2 rc).perm (t4.trans t3.symm)⟩, .rc hr1 rc⟩
theorem pl_peek (h : Pl w0 w q r) : ∃ (i v : Int) (b : Bool), (Calls Try.prog 29 #[q] w fun e w1 => e = .returned (.tuple #[.int .i64 i, .int .i64 v, .bool b]) ∧ Below w.heap.size w w1) ∧
    ∀ w1, Below w.heap.size w w1 → Calls Try.prog 63 #[r] w1 fun e w2 => e = .returned (.tuple #[.int .i64 i, .int .i64 v, .bool b]) ∧ Below w1.heap.size w1 w2 := by
  rcases h with ⟨rfl, rfl, hB⟩ | ⟨P, R, n, L, rfl, rfl, hT⟩
  · refine ⟨0, 0, false, (QJ.peek_bad none w (bad_nil w)).mono ?_, fun w1 _ => (rpeek_nil w1).mono ?_⟩
    · rintro e w2 ⟨rfl, rfl⟩; exact ⟨rfl, Below.refl _ _⟩
    · rintro e w2 ⟨rfl, rfl⟩; exact ⟨rfl, Below.refl _ _⟩
  · obtain ⟨hq, bI, cI, bP, cP, hr⟩ := hT
    rcases first_of hq hr.len with ⟨e, hb⟩ | ⟨x, t, hs, hp, hb⟩
    · refine ⟨0, 0, false, (has_peek_none (by rw [← e]; exact hq)).mono ?_, fun w1 h1 => (rpeek (hr.below h1)).mono ?_⟩
      · rintro e w2 ⟨rfl, rfl⟩; exact ⟨rfl, Below.refl _ _⟩
      · rintro e w2 ⟨⟨b, hb2, rfl⟩, hB⟩
        obtain rfl := best_unique hb hb2
        exact ⟨rfl, hB⟩
    · refine ⟨x.1, x.2, true, has_peek_at hq hs hp, fun w1 h1 => (rpeek (hr.below h1)).mono ?_⟩
      rintro e w2 ⟨⟨b, hb2, rfl⟩, hB⟩
      obtain rfl := best_unique hb hb2
      exact ⟨rfl, hB⟩
theorem pl_priority (h : Pl w0 w q r) (id : Int) : ∃ (v : Int) (b : Bool), (Calls Try.prog 28 #[q, .int .i64 id] w fun e w1 => e = .returned (.tuple #[.int .i64 v, .bool b]) ∧ w = w1) ∧
    Calls Try.prog 62 #[r, .int .i64 id] w fun e w2 => e = .returned (.tuple #[.int .i64 v, .bool b]) ∧ w = w2 := by
  rcases h with ⟨rfl, rfl, hB⟩ | ⟨P, R, n, L, rfl, rfl, hT⟩
  · exact ⟨0, false, QL.priority_bad none id w (.inl rfl), rpri_nil id w⟩
  · obtain ⟨hq, bI, cI, bP, cP, hr⟩ := hT
    rcases in_range id n with ho | ⟨i, rfl, hi⟩
    · exact ⟨0, false, has_priority_out hq id ho, rpri_out hr id ho⟩
    · obtain ⟨m, x, hx⟩ := mark_at hr.len hi
      cases m with
      | true => exact ⟨x, true, has_priority hq ((i, x) : It) (mem_marked0.2 hx), rpri_in hr i _ hx⟩
      | false => exact ⟨0, false, has_priority_none hq i hi (marked_off hx), rpri_in hr i _ hx⟩
theorem pl_len (h : Pl w0 w q r) : ∃ (v : Int), (Calls Try.prog 30 #[q] w fun e w1 => e = .returned (.int .i64 v) ∧ w = w1) ∧ Calls Try.prog 67 #[r] w fun e w2 => e = .returned (.int .i64 v) ∧ w = w2 := by
  rcases h with ⟨rfl, rfl, hB⟩ | ⟨P, R, n, L, rfl, rfl, hT⟩
  · exact ⟨0, QJ.len_bad none w (bad_nil w), rlen_nil w⟩
  · obtain ⟨hq, bI, cI, bP, cP, hr⟩ := hT
    refine ⟨((marked 0 L).length : Nat), has_len hq, ?_⟩
    rw [marked_len]
    exact rlen hr
end
end Go.Proofs.Ytepgdeokjgjapaa.QJ
