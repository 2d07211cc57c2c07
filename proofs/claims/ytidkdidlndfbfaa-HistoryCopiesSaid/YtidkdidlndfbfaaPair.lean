/- Three lists of integers beside each other, and two. -/
import Derived.Test.YtidkdidlndfbfaaBeside
namespace Go.Proofs.Ytidkdidlndfbfaa.HI
open Go.RowKit
theorem HOwn.base {w : World} {B B' P lim mk : Nat} {v : Value} {l : List E} (h : HOwn w B P lim mk v l) (hB : B' ≤ B) : HOwn w B' P lim mk v l := ⟨Nat.le_trans hB h.hP, h.blk, owns_le h.row hB, h.mkle, h.le, h.lim_le⟩
/-- Another list, while one is turned. -/
theorem HOwn.while {w w' : World} {B Q lim mk : Nat} {u : Value} {l : List E} {F F' : Nat → Prop} (h : HOwn w B Q lim mk u l) (hT : Turn F F' w w') (hA : Apart F (Foot Q u)) : HOwn w' B Q lim mk u l ∧ Apart F' (Foot Q u) :=
  ⟨h.turned hT hA, hT.apart hA h.foot_lt⟩
theorem apart_new {w : World} {B Q lim mk C lim' mk' B' : Nat} {u v : Value} {l l' : List E} {w' : World} (h : HOwn w B Q lim mk u l) (k : HOwn w' B' C lim' mk' v l') (hB : w.heap.size ≤ B') : Apart (Foot C v) (Foot Q u) := fun b hc hq => by
  have h1 := h.foot_lt b hq
  have h2 := k.foot_le b hc
  omega
/-- A list, its two copies; one of them has been changed. -/
def Trio (w0 : World) (q P C D mk : Nat) (l : List E) (w : World) : Prop := ∃ vl vc vd mkc lc, HOwn w w0.heap.size P q mk vl l ∧ HOwn w w0.heap.size C q mkc vc lc ∧ HOwn w w0.heap.size D q mk vd l ∧ Apart (Foot C vc) (Foot P vl) ∧ Apart (Foot C vc) (Foot D vd) ∧ Apart (Foot D vd) (Foot P vl) ∧ Below w0.heap.size w0 w
/-- Two lists of one limit, and blocks that are none of theirs. -/
def Pair (w0 : World) (q P D mkl : Nat) (l : List E) (mkd : Nat) (ld : List E) (S : Nat → Prop) (w : World) : Prop := ∃ vl vd, HOwn w w0.heap.size P q mkl vl l ∧ HOwn w w0.heap.size D q mkd vd ld ∧ Apart (Foot D vd) (Foot P vl) ∧ (∀ b, S b → ¬ Foot P vl b ∧ ¬ Foot D vd b ∧ b < w.heap.size) ∧ Below w0.heap.size w0 w
section
variable {w0 w : World} {q P C D mk mkl mkd : Nat} {l ld : List E} {S : Nat → Prop}
theorem h_copy (h : Has w0 P q mk l w) : Calls Try.prog 34 #[.pointer (some ⟨P, 0, none⟩)] w fun e w' => e = .returned (.pointer (some ⟨w.heap.size, 0, none⟩)) ∧ Hid (∃ v', HOwn w' w.heap.size w.heap.size q mk v' l ∧ Below w.heap.size w w') := by
  obtain ⟨v, h1, _⟩ := h
  exact copy_any h1
theorem trio_start {w1 w2 : World} {vc vd : Value} (h : Has w0 P q mk l w) (hc : HOwn w1 w.heap.size w.heap.size q mk vc l) (b1 : Below w.heap.size w w1) (hd : HOwn w2 w1.heap.size w1.heap.size q mk vd l) (b2 : Below w1.heap.size w1 w2) : Trio w0 q P w.heap.size w1.heap.size mk l w2 := by
  obtain ⟨v, h1, h2⟩ := h
  have b12 := b1.trans (b2.mono b1.size)
  refine ⟨v, vc, vd, mk, l, h1.below b12, (hc.below b2).base h2.size, hd.base (Nat.le_trans h2.size b1.size), apart_new h1 hc (Nat.le_refl _), (apart_new hc hd (Nat.le_refl _)).symm, apart_new h1 hd b1.size, h2.trans (b12.mono h2.size)⟩
theorem trio_moved (h : Trio w0 q P C D mk l w) (k n : Nat) (hk : k < 256) (hn : n < 65536) : Calls Try.prog 25 #[.agg #[.int .u8 (k : Nat), .int .u16 (n : Nat)], .pointer (some ⟨C, 0, none⟩), .int .i64 (q : Nat)] w fun e w' => e = .returned (.bool true) ∧ Trio w0 q P C D mk l w' := by
  obtain ⟨vl, vc, vd, mkc, lc, h1, h2, h3, a1, a2, a3, hb⟩ := h
  refine (moved_any h2 k n hk hn).mono ?_
  rintro e w' ⟨rfl, vc', k1, k2⟩
  obtain ⟨p1, p2⟩ := h1.while k2 a1
  obtain ⟨p3, p4⟩ := h3.while k2 a2
  exact ⟨rfl, vl, vc', vd, _, _, p1, k1, p3, p2, p4, a3, hb.trans (k2.below hb.size h2.foot_le).1⟩
theorem Trio.below {w' : World} (h : Trio w0 q P C D mk l w) (hb : Below w.heap.size w w') : Trio w0 q P C D mk l w' := by
  obtain ⟨vl, vc, vd, mkc, lc, h1, h2, h3, a1, a2, a3, h4⟩ := h
  exact ⟨vl, vc, vd, mkc, lc, h1.below hb, h2.below hb, h3.below hb, a1, a2, a3, h4.trans (hb.mono h4.size)⟩
theorem Trio.low (h : Trio w0 q P C D mk l w) : Below w0.heap.size w0 w := by
  obtain ⟨vl, vc, vd, mkc, lc, h1, h2, h3, a1, a2, a3, hb⟩ := h
  exact hb
theorem Trio.pair (h : Trio w0 q P C D mk l w) : Pair w0 q P D mk l mk l (fun _ => False) w := by
  obtain ⟨vl, vc, vd, mkc, lc, h1, h2, h3, a1, a2, a3, hb⟩ := h
  exact ⟨vl, vd, h1, h3, a3, fun _ h => h.elim, hb⟩
theorem Pair.hasL (h : Pair w0 q P D mkl l mkd ld S w) : Has w0 P q mkl l w := by
  obtain ⟨vl, vd, h1, h2, _, _, hb⟩ := h
  exact ⟨vl, h1, hb⟩
theorem Pair.hasD (h : Pair w0 q P D mkl l mkd ld S w) : Has w0 D q mkd ld w := by
  obtain ⟨vl, vd, h1, h2, _, _, hb⟩ := h
  exact ⟨vd, h2, hb⟩
theorem Pair.lt (h : Pair w0 q P D mkl l mkd ld S w) {b : Nat} (hb : S b) : b < w.heap.size := by
  obtain ⟨vl, vd, h1, h2, _, hS, _⟩ := h
  exact (hS b hb).2.2
theorem Pair.below {w' : World} (h : Pair w0 q P D mkl l mkd ld S w) (hb : Below w.heap.size w w') : Pair w0 q P D mkl l mkd ld S w' := by
  obtain ⟨vl, vd, h1, h2, a, hS, h4⟩ := h
  exact ⟨vl, vd, h1.below hb, h2.below hb, a, fun b hs => ⟨(hS b hs).1, (hS b hs).2.1, Nat.lt_of_lt_of_le (hS b hs).2.2 hb.size⟩, h4.trans (hb.mono h4.size)⟩
theorem Pair.fresh {S' : Nat → Prop} {w' : World} (h : Pair w0 q P D mkl l mkd ld S w) (hb : Below w.heap.size w w') (hS : ∀ b, S' b → w.heap.size ≤ b ∧ b < w'.heap.size) : Pair w0 q P D mkl l mkd ld S' w' := by
  obtain ⟨vl, vd, h1, h2, a, _, h4⟩ := h
  exact ⟨vl, vd, h1.below hb, h2.below hb, a, fun b hs => ⟨fun hF => by have := h1.foot_lt b hF; have := (hS b hs).1; omega, fun hF => by have := h2.foot_lt b hF; have := (hS b hs).1; omega, (hS b hs).2⟩, h4.trans (hb.mono h4.size)⟩
/-- What is said of the blocks S: they stand as they stood. -/
theorem pair_add (h : Pair w0 q P D mkl l mkd ld S w) (hl : ld.length < q) (x : E) : Calls Try.prog 35 #[.pointer (some ⟨D, 0, none⟩), .int .i64 x] w fun e w' => e = .returned (.int .i64 0) ∧ Hid (Pair w0 q P D mkl l mkd (ld ++ [x]) S w' ∧ ∀ b, S b → w'.heap[b]? = w.heap[b]?) := by
  obtain ⟨vl, vd, h1, h2, a, hS, h4⟩ := h
  refine (add_any h2 hl x).mono ?_
  rintro e w' ⟨rfl, vd', k1, k2⟩
  obtain ⟨p1, p2⟩ := h1.while k2 a
  refine ⟨rfl, ⟨vl, vd', p1, k1, p2, fun b hs => ⟨(hS b hs).1, fun hF => ?_, Nat.lt_of_lt_of_le (hS b hs).2.2 k2.but.size⟩, h4.trans (k2.below h4.size h2.foot_le).1⟩, fun b hs => k2.but.block b (hS b hs).2.2 (hS b hs).2.1⟩
  rcases k2.own b hF with h5 | h5
  · exact (hS b hs).2.1 h5
  · have := (hS b hs).2.2
    omega
theorem pair_full (h : Pair w0 q P D mkl l mkd ld S w) (hl : ld.length = q) (x : E) : Calls Try.prog 35 #[.pointer (some ⟨D, 0, none⟩), .int .i64 x] w fun e w' => e = .returned (.int .i64 4) ∧ Hid (Pair w0 q P D mkl l mkd ld S w' ∧ ∀ b, S b → w'.heap[b]? = w.heap[b]?) := by
  have h0 := h
  obtain ⟨vl, vd, h1, h2, a, hS, h4⟩ := h
  refine (add_full h2 hl x).mono ?_
  rintro e w' ⟨rfl, hb⟩
  exact ⟨rfl, h0.below hb, fun b hs => hb.block b (hS b hs).2.2⟩
theorem pair_clear (h : Pair w0 q P D mkl l mkd ld S w) : Calls Try.prog 36 #[.pointer (some ⟨P, 0, none⟩)] w fun e w' => e = .returned (.tuple #[]) ∧ Hid (Pair w0 q P D 0 [] mkd ld S w' ∧ ∀ b, S b → w'.heap[b]? = w.heap[b]?) := by
  obtain ⟨vl, vd, h1, h2, a, hS, h4⟩ := h
  refine (clear_any h1).mono ?_
  rintro e w' ⟨rfl, k1, k2⟩
  obtain ⟨p1, p2⟩ := h2.while k2 a.symm
  refine ⟨rfl, ⟨_, vd, k1, p1, p2.symm, fun b hs => ⟨fun hF => ?_, (hS b hs).2.1, Nat.lt_of_lt_of_le (hS b hs).2.2 k2.but.size⟩, h4.trans (k2.below h4.size h1.foot_le).1⟩, fun b hs => k2.but.block b (hS b hs).2.2 (hS b hs).1⟩
  rcases k2.own b hF with h5 | h5
  · exact (hS b hs).1 h5
  · have := (hS b hs).2.2
    omega
end
end Go.Proofs.Ytidkdidlndfbfaa.HI
