/- A queue of uint8 and one of float64 beside each other. -/
import Derived.Test.YtepgdeokjgjapaaQUHas
import Derived.Test.YtepgdeokjgjapaaQFHas
import Derived.Deep.Onto
namespace Go.Proofs.Ytepgdeokjgjapaa
open Go.RowKit
/-- Block k is of one of two types. -/
def OfT (t1 t2 : TypeId) (W : World) (k : Nat) : Prop := ∃ cs t fr, W.heap[k]? = some (.cells cs t fr) ∧ (t = t1 ∨ t = t2)
/-- Only blocks of the two types, from B on, have turned; others are new. -/
structure Off (t1 t2 : TypeId) (B : Nat) (A C : World) : Prop where
  os : C.os = A.os
  tape : C.tape = A.tape
  output : C.output = A.output
  size : A.heap.size ≤ C.heap.size
  block : ∀ k, k < A.heap.size → (k < B ∨ ¬ OfT t1 t2 A k) → C.heap[k]? = A.heap[k]?
theorem off_type {w : World} {k : Nat} {cs : Array Value} {t t1 t2 : TypeId} {fr : Nat × Nat} (h : w.heap[k]? = some (.cells cs t fr)) (ht : t ≠ t1 ∧ t ≠ t2) : ¬ OfT t1 t2 w k := by
  rintro ⟨cs', t', fr', h1, h2⟩
  rw [h] at h1
  cases h1
  rcases h2 with h2 | h2
  · exact ht.1 h2
  · exact ht.2 h2

namespace QU
section
variable {w0 w w' : World} {P n : Nat} {S : List It}
theorem off_chg {B R m : Nat} {v v' : Value} {G : List It} {pl : List Nat} (h : QOwn w B R m v G pl) (hc : Chg w w' R v v') : Off 125 130 B w w' := by
  refine ⟨hc.but.os, hc.but.tape, hc.but.output, hc.but.size, fun k hk hne => hc.but.block k hk ?_⟩
  rintro (rfl | e)
  · rcases hne with h1 | h1
    · have := h.qs.hP; omega
    · exact h1 ⟨_, 125, _, h.qs.blk, .inl rfl⟩
  · have hl := h.qs.row.lt k e
    rcases hne with h1 | h1
    · omega
    · rcases h.qs.row.2 with ⟨rfl, _⟩ | ⟨g, cap, cur, rfl, _, hh, _⟩
      · cases e
      · obtain rfl : g = k := by simpa [Value.ownBlock] using e
        exact h1 ⟨_, 130, _, hh, .inr rfl⟩
theorem QHas.off (h : QHas w0 w P n S) {B : Nat} (hB : w0.heap.size ≤ B) (o : Off 128 133 B w w') : QHas w0 w' P n S := by
  obtain ⟨v, G, pl, h1, h2, h3⟩ := h
  refine ⟨v, G, pl, ⟨⟨h1.qs.hP, (o.block P (lt_of_heap h1.qs.blk) (.inr (off_type h1.qs.blk (by decide)))).trans h1.qs.blk, owns_of_block h1.qs.row fun g hg => ?_, h1.qs.len⟩, h1.heap, h1.plc, h1.nd, h1.ids, h1.hn⟩, h2, ?_⟩
  · rcases h1.qs.row.2 with ⟨rfl, _⟩ | ⟨g', cap, cur, rfl, _, hh, _⟩
    · cases hg
    · obtain rfl : g' = g := by simpa [Value.ownBlock] using hg
      exact o.block _ (lt_of_heap hh) (.inr (off_type hh (by decide)))
  · exact ⟨o.os.trans h3.os, o.tape.trans h3.tape, o.output.trans h3.output, Nat.le_trans h3.size o.size, fun k hk => (o.block k (Nat.lt_of_lt_of_le hk h3.size) (.inl (Nat.lt_of_lt_of_le hk hB))).trans (h3.block k hk)⟩
theorem QHas.rebase {w1 : World} (h : QHas w1 w P n S) (hb : Below w0.heap.size w0 w1) : QHas w0 w P n S := by
  obtain ⟨v, G, pl, h1, h2, h3⟩ := h
  have hs := hb.size
  exact ⟨v, G, pl, ⟨⟨Nat.le_trans hs h1.qs.hP, h1.qs.blk, World.ownsRow.mono h1.qs.row hs, h1.qs.len⟩, h1.heap, h1.plc, h1.nd, h1.ids, h1.hn⟩, h2, hb.trans (h3.mono hs)⟩
def Did (w0 w w' : World) (P n : Nat) (S : List It) : Prop := QHas w0 w' P n S ∧ Off 125 130 w0.heap.size w w'
theorem did_push (h : QHas w0 w P n S) (i : Nat) (p : Pr) (hi : i < n) (hno : ∀ y ∈ S, y.1 ≠ i) : Calls Try.prog 47 #[.pointer (some ⟨P, 0, none⟩), .int .i64 (i : Nat), .int .u8 p] w fun e w' => e = .returned (.int .i64 0) ∧ Did w0 w w' P n ((i, p) :: S) := by
  obtain ⟨v, G, pl, hO, hp, hb⟩ := h
  refine (push_any w _ P n i v G pl p hO hi (fun y hy => hno y (hp.mem_iff.1 hy))).mono ?_
  rintro e w' ⟨rfl, v', G', pl', h1, h2, h3⟩
  exact ⟨rfl, ⟨v', G', pl', h1, h2.trans ((hp.append_right _).trans List.perm_append_comm), chg_below hO hb h3⟩, off_chg hO h3⟩
theorem did_pop (h : QHas w0 w P n S) {x : It} {t : List It} (hs : Rising lt (x :: t)) (hp : (x :: t).Perm S) : Calls Try.prog 49 #[.pointer (some ⟨P, 0, none⟩)] w fun e w' => e = .returned (.tuple #[.int .i64 (x.1 : Nat), .int .u8 x.2, .bool true]) ∧ Did w0 w w' P n t := by
  obtain ⟨v, G, pl, hO, hG, hb, hx⟩ := has_first h hs hp
  refine (pop_any hO x hx).mono ?_
  rintro e w' ⟨rfl, v', G', pl', h1, h2, h3⟩
  exact ⟨rfl, ⟨v', G', pl', h1, ((h2.symm.trans hG).trans hp.symm).cons_inv, chg_below hO hb h3⟩, off_chg hO h3⟩
theorem QHas.frame (h : QHas w0 w P n S) : Below w0.heap.size w0 w := by
  obtain ⟨_, _, _, _, _, hb⟩ := h
  exact hb
end
end QU
namespace QF
section
variable {w0 w w' : World} {P n : Nat} {S : List It}
theorem off_chg {B R m : Nat} {v v' : Value} {G : List It} {pl : List Nat} (h : QOwn w B R m v G pl) (hc : Chg w w' R v v') : Off 128 133 B w w' := by
  refine ⟨hc.but.os, hc.but.tape, hc.but.output, hc.but.size, fun k hk hne => hc.but.block k hk ?_⟩
  rintro (rfl | e)
  · rcases hne with h1 | h1
    · have := h.qs.hP; omega
    · exact h1 ⟨_, 128, _, h.qs.blk, .inl rfl⟩
  · have hl := h.qs.row.lt k e
    rcases hne with h1 | h1
    · omega
    · rcases h.qs.row.2 with ⟨rfl, _⟩ | ⟨g, cap, cur, rfl, _, hh, _⟩
      · cases e
      · obtain rfl : g = k := by simpa [Value.ownBlock] using e
        exact h1 ⟨_, 133, _, hh, .inr rfl⟩
theorem QHas.off (h : QHas w0 w P n S) {B : Nat} (hB : w0.heap.size ≤ B) (o : Off 125 130 B w w') : QHas w0 w' P n S := by
  obtain ⟨v, G, pl, h1, h2, h3⟩ := h
  refine ⟨v, G, pl, ⟨⟨h1.qs.hP, (o.block P (lt_of_heap h1.qs.blk) (.inr (off_type h1.qs.blk (by decide)))).trans h1.qs.blk, owns_of_block h1.qs.row fun g hg => ?_, h1.qs.len⟩, h1.heap, h1.plc, h1.nd, h1.ids, h1.hn⟩, h2, ?_⟩
  · rcases h1.qs.row.2 with ⟨rfl, _⟩ | ⟨g', cap, cur, rfl, _, hh, _⟩
    · cases hg
    · obtain rfl : g' = g := by simpa [Value.ownBlock] using hg
      exact o.block _ (lt_of_heap hh) (.inr (off_type hh (by decide)))
  · exact ⟨o.os.trans h3.os, o.tape.trans h3.tape, o.output.trans h3.output, Nat.le_trans h3.size o.size, fun k hk => (o.block k (Nat.lt_of_lt_of_le hk h3.size) (.inl (Nat.lt_of_lt_of_le hk hB))).trans (h3.block k hk)⟩
theorem QHas.rebase {w1 : World} (h : QHas w1 w P n S) (hb : Below w0.heap.size w0 w1) : QHas w0 w P n S := by
  obtain ⟨v, G, pl, h1, h2, h3⟩ := h
  have hs := hb.size
  exact ⟨v, G, pl, ⟨⟨Nat.le_trans hs h1.qs.hP, h1.qs.blk, World.ownsRow.mono h1.qs.row hs, h1.qs.len⟩, h1.heap, h1.plc, h1.nd, h1.ids, h1.hn⟩, h2, hb.trans (h3.mono hs)⟩
def Did (w0 w w' : World) (P n : Nat) (S : List It) : Prop := QHas w0 w' P n S ∧ Off 128 133 w0.heap.size w w'
theorem did_push (h : QHas w0 w P n S) (i : Nat) (p : Pr) (hi : i < n) (hno : ∀ y ∈ S, y.1 ≠ i) : Calls Try.prog 48 #[.pointer (some ⟨P, 0, none⟩), .int .i64 (i : Nat), .float .f64 (fv p)] w fun e w' => e = .returned (.int .i64 0) ∧ Did w0 w w' P n ((i, p) :: S) := by
  obtain ⟨v, G, pl, hO, hp, hb⟩ := h
  refine (push_any w _ P n i v G pl p hO hi (fun y hy => hno y (hp.mem_iff.1 hy))).mono ?_
  rintro e w' ⟨rfl, v', G', pl', h1, h2, h3⟩
  exact ⟨rfl, ⟨v', G', pl', h1, h2.trans ((hp.append_right _).trans List.perm_append_comm), chg_below hO hb h3⟩, off_chg hO h3⟩
theorem did_pop (h : QHas w0 w P n S) {x : It} {t : List It} (hs : Rising lt (x :: t)) (hp : (x :: t).Perm S) : Calls Try.prog 50 #[.pointer (some ⟨P, 0, none⟩)] w fun e w' => e = .returned (.tuple #[.int .i64 (x.1 : Nat), .float .f64 (fv x.2), .bool true]) ∧ Did w0 w w' P n t := by
  obtain ⟨v, G, pl, hO, hG, hb, hx⟩ := has_first h hs hp
  refine (pop_any hO x hx).mono ?_
  rintro e w' ⟨rfl, v', G', pl', h1, h2, h3⟩
  exact ⟨rfl, ⟨v', G', pl', h1, ((h2.symm.trans hG).trans hp.symm).cons_inv, chg_below hO hb h3⟩, off_chg hO h3⟩
theorem QHas.frame (h : QHas w0 w P n S) : Below w0.heap.size w0 w := by
  obtain ⟨_, _, _, _, _, hb⟩ := h
  exact hb
end
end QF
/-- Both queues, each with what it holds. -/
def Both (w0 w : World) (P R : Nat) (S : List QU.It) (L : List QF.It) : Prop := QU.QHas w0 w P 1024 S ∧ QF.QHas w0 w R 3 L
section
variable {w0 w : World} {P R : Nat} {S : List QU.It} {L : List QF.It}
theorem both_new (h : QU.QHas w0 w P 1024 S) : Calls Try.prog 46 #[.int .i64 3] w fun e w' => e = .returned (.tuple #[.pointer (some ⟨w.heap.size, 0, none⟩), .int .i64 0]) ∧ Hid (Both w0 w' P w.heap.size S []) := by
  refine (QF.has_new 3 w (by omega) (by omega)).mono ?_
  rintro e w' ⟨rfl, h2⟩
  exact ⟨rfl, h.below h2.out.frame, h2.out.rebase h.frame⟩
theorem both_push8 (h : Both w0 w P R S L) (i : Nat) (p : QU.Pr) (hi : i < 1024) (hno : ∀ y ∈ S, y.1 ≠ i) : Calls Try.prog 47 #[.pointer (some ⟨P, 0, none⟩), .int .i64 (i : Nat), .int .u8 p] w fun e w' => e = .returned (.int .i64 0) ∧ Hid (Both w0 w' P R ((i, p) :: S) L) := by
  refine (QU.did_push h.1 i p hi hno).mono ?_
  rintro e w' ⟨rfl, h2⟩
  exact ⟨rfl, h2.1, h.2.off (Nat.le_refl _) h2.2⟩
theorem both_pushF (h : Both w0 w P R S L) (i : Nat) (p : QF.Pr) (hi : i < 3) (hno : ∀ y ∈ L, y.1 ≠ i) : Calls Try.prog 48 #[.pointer (some ⟨R, 0, none⟩), .int .i64 (i : Nat), .float .f64 (QF.fv p)] w fun e w' => e = .returned (.int .i64 0) ∧ Hid (Both w0 w' P R S ((i, p) :: L)) := by
  refine (QF.did_push h.2 i p hi hno).mono ?_
  rintro e w' ⟨rfl, h2⟩
  exact ⟨rfl, h.1.off (Nat.le_refl _) h2.2, h2.1⟩
theorem both_pop8 (h : Both w0 w P R S L) {x : QU.It} {t : List QU.It} (hs : Rising QU.lt (x :: t)) (hp : (x :: t).Perm S) : Calls Try.prog 49 #[.pointer (some ⟨P, 0, none⟩)] w fun e w' => e = .returned (.tuple #[.int .i64 (x.1 : Nat), .int .u8 x.2, .bool true]) ∧ Hid (Both w0 w' P R t L) := by
  refine (QU.did_pop h.1 hs hp).mono ?_
  rintro e w' ⟨rfl, h2⟩
  exact ⟨rfl, h2.1, h.2.off (Nat.le_refl _) h2.2⟩
theorem both_popF (h : Both w0 w P R S L) {x : QF.It} {t : List QF.It} (hs : Rising QF.lt (x :: t)) (hp : (x :: t).Perm L) : Calls Try.prog 50 #[.pointer (some ⟨R, 0, none⟩)] w fun e w' => e = .returned (.tuple #[.int .i64 (x.1 : Nat), .float .f64 (QF.fv x.2), .bool true]) ∧ Hid (Both w0 w' P R S t) := by
  refine (QF.did_pop h.2 hs hp).mono ?_
  rintro e w' ⟨rfl, h2⟩
  exact ⟨rfl, h.1.off (Nat.le_refl _) h2.2, h2.1⟩
theorem both_out (h : Both w0 w P R S L) (p : QU.Pr) : Calls Try.prog 47 #[.pointer (some ⟨P, 0, none⟩), .int .i64 1024, .int .u8 p] w fun e w' => e = .returned (.int .i64 3) ∧ w = w' :=
  QU.has_push_out h.1 1024 p (.inr (by omega))
end
/-- What the first j pushes have laid. -/
def pushed : Nat → List QU.It
  | 0 => []
  | j + 1 => (j, ((255 - j % 256 : Nat) : Int)) :: pushed j
theorem mem_pushed : ∀ (j : Nat) (y : QU.It), y ∈ pushed j ↔ y.1 < j ∧ y.2 = ((255 - y.1 % 256 : Nat) : Int)
  | 0, y => by simp [pushed]
  | j + 1, y => by
    rw [pushed, List.mem_cons, mem_pushed j y]
    constructor
    · rintro (rfl | ⟨h1, h2⟩)
      · exact ⟨Nat.lt_succ_self _, rfl⟩
      · exact ⟨by omega, h2⟩
    · rintro ⟨h1, h2⟩
      rcases Nat.lt_or_ge y.1 j with h | h
      · exact .inr ⟨h, h2⟩
      · refine .inl (Prod.ext (by show y.1 = j; omega) ?_)
        rw [h2, show y.1 = j by omega]
theorem pushed_no (j : Nat) : ∀ y ∈ pushed j, y.1 ≠ j := fun y hy e => by
  have := ((mem_pushed j y).1 hy).1
  omega
theorem pushed_nodup : ∀ j, (pushed j).Nodup
  | 0 => List.nodup_nil
  | j + 1 => List.nodup_cons.2 ⟨fun h => pushed_no j _ h rfl, pushed_nodup j⟩
/-- The i-th item that is popped. -/
def risenAt (i : Nat) : QU.It := (256 * (i % 4) + 255 - i / 4, ((i / 4 : Nat) : Int))
/-- What is left behind i pops (k = 1024 - i of them). -/
def risen : Nat → List QU.It
  | 0 => []
  | k + 1 => risenAt (1023 - k) :: risen k
theorem mem_risen : ∀ (k : Nat) (_ : k ≤ 1024) (y : QU.It), y ∈ risen k ↔ ∃ i, 1024 - k ≤ i ∧ i < 1024 ∧ y = risenAt i
  | 0, _, y => by
    simp only [risen, List.not_mem_nil, false_iff]
    rintro ⟨i, h1, h2, _⟩
    omega
  | k + 1, hk, y => by
    rw [risen, List.mem_cons, mem_risen k (by omega) y]
    constructor
    · rintro (rfl | ⟨i, h1, h2, rfl⟩)
      · exact ⟨1023 - k, by omega, by omega, rfl⟩
      · exact ⟨i, by omega, h2, rfl⟩
    · rintro ⟨i, h1, h2, rfl⟩
      rcases Nat.lt_or_ge i (1024 - k) with h | h
      · exact .inl (by rw [show i = 1023 - k by omega])
      · exact .inr ⟨i, h, h2, rfl⟩
theorem risen_lt {i j : Nat} (hij : i < j) (hj : j < 1024) : QU.lt (risenAt i) (risenAt j) = true := by
  unfold QU.lt QU.ltP risenAt
  rcases Nat.lt_or_ge (i / 4) (j / 4) with h | h
  · have h1 : ((i / 4 : Nat) : Int) < ((j / 4 : Nat) : Int) := by omega
    simp only [h1, decide_true, Bool.true_or]
  · have e : i / 4 = j / 4 := by omega
    have h1 : i % 4 < j % 4 := by omega
    have h2 : 256 * (i % 4) + 255 - i / 4 < 256 * (j % 4) + 255 - j / 4 := by omega
    simp only [e, Int.lt_irrefl, decide_false, Bool.not_false, Bool.true_and, Bool.false_or, decide_eq_true_eq]
    omega
theorem rising_risen : ∀ (k : Nat) (_ : k ≤ 1024), Rising QU.lt (risen k)
  | 0, _ => List.Pairwise.nil
  | k + 1, hk => List.pairwise_cons.2 ⟨fun y hy => by
      obtain ⟨i, h1, h2, rfl⟩ := (mem_risen k (by omega) y).1 hy
      exact risen_lt (by omega) h2, rising_risen k (by omega)⟩
theorem risen_perm : (risen 1024).Perm (pushed 1024) := by
  have hn : (risen 1024).Nodup := (rising_risen 1024 (Nat.le_refl _)).imp fun {a b} h e => by
    rw [e, QU.iord.irrefl] at h
    cases h
  refine (List.perm_ext_iff_of_nodup hn (pushed_nodup 1024)).2 fun y => ?_
  rw [mem_risen 1024 (Nat.le_refl _), mem_pushed]
  constructor
  · rintro ⟨i, _, h2, rfl⟩
    unfold risenAt
    refine ⟨by show 256 * (i % 4) + 255 - i / 4 < 1024; omega, ?_⟩
    show ((i / 4 : Nat) : Int) = ((255 - (256 * (i % 4) + 255 - i / 4) % 256 : Nat) : Int)
    have : (256 * (i % 4) + 255 - i / 4) % 256 = 255 - i / 4 := by omega
    rw [this]
    omega
  · rintro ⟨h1, h2⟩
    have e1 : (4 * (255 - y.1 % 256) + y.1 / 256) % 4 = y.1 / 256 := by omega
    have e2 : (4 * (255 - y.1 % 256) + y.1 / 256) / 4 = 255 - y.1 % 256 := by omega
    refine ⟨4 * (255 - y.1 % 256) + y.1 / 256, by omega, by omega, Prod.ext ?_ ?_⟩
    · show y.1 = 256 * ((4 * (255 - y.1 % 256) + y.1 / 256) % 4) + 255 - (4 * (255 - y.1 % 256) + y.1 / 256) / 4
      rw [e1, e2]
      omega
    · show y.2 = (((4 * (255 - y.1 % 256) + y.1 / 256) / 4 : Nat) : Int)
      rw [h2, e2]
theorem float_rising : Rising QF.lt [((1 : Nat), (0 : QF.Pr)), (2, 2), (0, 3)] := by
  unfold Rising
  decide
theorem float_perm : [((1 : Nat), (0 : QF.Pr)), (2, 2), (0, 3)].Perm [((2 : Nat), (2 : QF.Pr)), (1, 0), (0, 3)] := by decide
end Go.Proofs.Ytepgdeokjgjapaa
