/- List and reference, and those from which they were copied. -/
import Derived.Test.YtidkdidlndfbfaaNodeOps
namespace Go.Proofs.Ytidkdidlndfbfaa.HS
open Go.RowKit
/-- List and reference, and those from which they were copied, apart. -/
def St (w0 w : World) (p q p2 q2 : Option Addr) (n : Nat) : Prop := ∃ F G, Node w0 w p q F n ∧ Node w0 w p2 q2 G n ∧ Apart F G ∧ Below w0.heap.size w0 w
section
variable {w0 w V : World} {p q p2 q2 : Option Addr} {n : Nat}
theorem St.below {w' : World} (h : St w0 w p q p2 q2 n) (hb : Below w.heap.size w w') : St w0 w' p q p2 q2 n := by
  obtain ⟨F, G, h1, h2, h3, h4⟩ := h
  exact ⟨F, G, h1.below hb, h2.below hb, h3, h4.trans (hb.mono h4.size)⟩
theorem St.low (h : St w0 w p q p2 q2 n) : Below w0.heap.size w0 w := by
  obtain ⟨F, G, h1, h2, h3, h4⟩ := h
  exact h4
theorem St.more {m : Nat} (h : St w0 w p q p2 q2 n) (hm : n ≤ m) : St w0 w p q p2 q2 m := by
  obtain ⟨F, G, h1, h2, h3, h4⟩ := h
  exact ⟨F, G, h1.more hm, h2.more hm, h3, h4⟩
theorem St.shows (h : St w0 w p q p2 q2 n) (hn : n ≤ 1000) (i : Int) : Calls Try.prog 23 #[.pointer p, .pointer q, .int .i64 i] w fun e w' => e = .returned (.bool true) ∧ Below w.heap.size w w' := by
  obtain ⟨F, G, h1, h2, h3, h4⟩ := h
  exact h1.shows hn i
theorem St.shows2 (h : St w0 w p q p2 q2 n) (hn : n ≤ 1000) (i : Int) : Calls Try.prog 23 #[.pointer p2, .pointer q2, .int .i64 i] w fun e w' => e = .returned (.bool true) ∧ Below w.heap.size w w' := by
  obtain ⟨F, G, h1, h2, h3, h4⟩ := h
  exact h2.shows hn i
theorem st_start {w1 : World} (h : Fresh w0 w0 p q 0 w1) : St w0 w1 p q none none 0 := by
  obtain ⟨F, h1, h2, h3⟩ := h
  exact ⟨F, _, h1, .inl ⟨rfl, rfl, rfl⟩, fun _ _ h => h, h2⟩
theorem st_next {w' : World} {F G : Nat → Prop} (h1 : Node w0 w p q F n) (h2 : Node w0 w p2 q2 G n) (h3 : Apart F G) (h4 : Below w0.heap.size w0 w) (hN : Next w0 w p q F (n + 1) w') : St w0 w' p q p2 q2 (n + 1) := by
  obtain ⟨F', k1, k2⟩ := hN
  exact ⟨F', G, k1, (h2.turned k2 h3).more (Nat.le_succ _), k2.apart h3 h2.lt, h4.trans (k2.below h4.size h1.le).1⟩
theorem st_copy {w' : World} {p' q' : Option Addr} (h : St w0 w p q p2 q2 n) (hN : Fresh w0 w p' q' (n + 1) w') : St w0 w' p' q' p q (n + 1) := by
  obtain ⟨F, G, h1, h2, h3, h4⟩ := h
  obtain ⟨F', k1, k2, k3⟩ := hN
  refine ⟨F', F, k1, (h1.below k2).more (Nat.le_succ _), fun b ha hb => ?_, h4.trans (k2.mono h4.size)⟩
  have := k3 b ha
  have := h1.lt b hb
  omega
/-- What is no list's own keeps. -/
theorem node_keep {F : Nat → Prop} {w' : World} (hb : But F w w') {z : Nat} {o : Obj} (hz : w.heap[z]? = some o) (hF : ¬ F z) : w'.heap[z]? = some o := (hb.block z (lt_of_heap hz) hF).trans hz
theorem st_add {z : Nat} {o : Obj} (h : St w0 w p q p2 q2 n) (hV : Below w.heap.size w V) (hz : V.heap[z]? = some o) (hzw : w.heap.size ≤ z) (x : ByteArray) : ∃ (c : Int) (Mid : World → Prop), (Calls Try.prog 13 #[.pointer p, .string x] V fun e w1 => e = .returned (.int .i64 c) ∧ Hid (Mid w1 ∧ w1.heap[z]? = some o)) ∧
    ∀ w1, Mid w1 → Calls Try.prog 14 #[.pointer q, .string x] w1 fun e w2 => e = .returned (.int .i64 c) ∧ Hid (St w0 w2 p q p2 q2 (n + 1) ∧ w2.heap[z]? = some o) := by
  obtain ⟨F, G, h1, h2, h3, h4⟩ := h
  obtain ⟨c, Mid, k1, k2⟩ := node_add (h1.below hV) x
  have hz' : ¬ F z := fun hb => by have := h1.lt z hb; omega
  refine ⟨c, Mid, k1.mono fun e w1 hw => ⟨hw.1, hw.2.out.1, node_keep hw.2.out.2 hz hz'⟩, fun w1 hm => (k2 w1 hm).mono fun e w2 hw => ⟨hw.1, st_next (h1.below hV) (h2.below hV) h3 (h4.trans (hV.mono h4.size)) hw.2.out, ?_⟩⟩
  obtain ⟨F', _, hT⟩ := hw.2.out
  exact node_keep hT.but hz hz'
theorem st_cut {z : Nat} {o : Obj} (h : St w0 w p q p2 q2 n) (hV : Below w.heap.size w V) (hz : V.heap[z]? = some o) (hzw : w.heap.size ≤ z) (i : Int) : ∃ (c : Int) (Mid : World → Prop), (Calls Try.prog 17 #[.pointer p, .int .i64 i] V fun e w1 => e = .returned (.int .i64 c) ∧ Hid (Mid w1 ∧ w1.heap[z]? = some o)) ∧
    ∀ w1, Mid w1 → Calls Try.prog 18 #[.pointer q, .int .i64 i] w1 fun e w2 => e = .returned (.int .i64 c) ∧ Hid (St w0 w2 p q p2 q2 (n + 1) ∧ w2.heap[z]? = some o) := by
  obtain ⟨F, G, h1, h2, h3, h4⟩ := h
  obtain ⟨c, Mid, k1, k2⟩ := node_cut (h1.below hV) i
  have hz' : ¬ F z := fun hb => by have := h1.lt z hb; omega
  refine ⟨c, Mid, k1.mono fun e w1 hw => ⟨hw.1, hw.2.out.1, node_keep hw.2.out.2 hz hz'⟩, fun w1 hm => (k2 w1 hm).mono fun e w2 hw => ⟨hw.1, st_next (h1.below hV) (h2.below hV) h3 (h4.trans (hV.mono h4.size)) hw.2.out, ?_⟩⟩
  obtain ⟨F', _, hT⟩ := hw.2.out
  exact node_keep hT.but hz hz'
theorem st_mark {z : Nat} {o : Obj} (h : St w0 w p q p2 q2 n) (hV : Below w.heap.size w V) (hz : V.heap[z]? = some o) (hzw : w.heap.size ≤ z) : ∃ (Mid : World → Prop), (Calls Try.prog 15 #[.pointer p] V fun e w1 => e = .returned (.tuple #[]) ∧ Hid (Mid w1)) ∧
    ∀ w1, Mid w1 → Calls Try.prog 16 #[.pointer q] w1 fun e w2 => e = .returned (.tuple #[]) ∧ Hid (St w0 w2 p q p2 q2 (n + 1) ∧ w2.heap[z]? = some o) := by
  obtain ⟨F, G, h1, h2, h3, h4⟩ := h
  obtain ⟨Mid, k1, k2⟩ := node_mark (h1.below hV)
  have hz' : ¬ F z := fun hb => by have := h1.lt z hb; omega
  refine ⟨Mid, k1, fun w1 hm => (k2 w1 hm).mono fun e w2 hw => ⟨hw.1, st_next (h1.below hV) (h2.below hV) h3 (h4.trans (hV.mono h4.size)) hw.2.out, ?_⟩⟩
  obtain ⟨F', _, hT⟩ := hw.2.out
  exact node_keep hT.but hz hz'
theorem st_clear {z : Nat} {o : Obj} (h : St w0 w p q p2 q2 n) (hV : Below w.heap.size w V) (hz : V.heap[z]? = some o) (hzw : w.heap.size ≤ z) : ∃ (Mid : World → Prop), (Calls Try.prog 19 #[.pointer p] V fun e w1 => e = .returned (.tuple #[]) ∧ Hid (Mid w1)) ∧
    ∀ w1, Mid w1 → Calls Try.prog 20 #[.pointer q] w1 fun e w2 => e = .returned (.tuple #[]) ∧ Hid (St w0 w2 p q p2 q2 (n + 1) ∧ w2.heap[z]? = some o) := by
  obtain ⟨F, G, h1, h2, h3, h4⟩ := h
  obtain ⟨Mid, k1, k2⟩ := node_clear (h1.below hV)
  have hz' : ¬ F z := fun hb => by have := h1.lt z hb; omega
  refine ⟨Mid, k1, fun w1 hm => (k2 w1 hm).mono fun e w2 hw => ⟨hw.1, st_next (h1.below hV) (h2.below hV) h3 (h4.trans (hV.mono h4.size)) hw.2.out, ?_⟩⟩
  obtain ⟨F', _, hT⟩ := hw.2.out
  exact node_keep hT.but hz hz'
theorem st_copied {z : Nat} {o : Obj} (h : St w0 w p q p2 q2 n) (hz : w.heap[z]? = some o) : ∃ (p' : Option Addr) (Mid : World → Prop), (Calls Try.prog 21 #[.pointer p] w fun e w1 => e = .returned (.pointer p') ∧ Hid (Mid w1)) ∧
    ∀ w1, Mid w1 → Calls Try.prog 22 #[.pointer q] w1 fun e w2 => ∃ q', e = .returned (.pointer q') ∧ Hid (St w0 w2 p' q' p q (n + 1) ∧ w2.heap[z]? = some o) := by
  obtain ⟨F, G, h1, h2, h3, h4⟩ := id h
  obtain ⟨p', Mid, k1, k2⟩ := node_copy h1 h4.size
  refine ⟨p', Mid, k1, fun w1 hm => (k2 w1 hm).mono fun e w2 hw => ?_⟩
  obtain ⟨q', he, hf⟩ := hw
  refine ⟨q', he, st_copy h hf.out, ?_⟩
  obtain ⟨F', _, hb, _⟩ := hf.out
  exact (hb.block z (lt_of_heap hz)).trans hz
end
end Go.Proofs.Ytidkdidlndfbfaa.HS
