/- A queue in memory; put. -/
import Derived.Test.YtepgdeokjgjapaaQUBase
import Derived.Test.YtepgdeokjgjapaaHeap
import Derived.Test.YtepgdeokjgjapaaBut
namespace Go.Proofs.Ytepgdeokjgjapaa.QU
open Go.RowKit

def z0 : It := (0, 0)
def flat (l : List It) : List Value := l.flatMap fun x => (.int .i64 (x.1 : Nat)) :: [.int .u8 x.2]
theorem length_flat (l : List It) : (flat l).length = l.length * 2 := by
  induction l with
  | nil => rfl
  | cons x l ih => simp only [flat, List.flatMap_cons, List.length_append, List.length_cons, List.length_nil] at *; omega
theorem flat_append (a b : List It) : flat (a ++ b) = flat a ++ flat b := by simp [flat]
theorem flat_one (l : List It) : ∀ v ∈ flat l, v.oneCell' = true := by
  intro v h
  obtain ⟨x, _, hv⟩ := List.mem_flatMap.1 h
  simp at hv
  rcases hv with rfl | rfl <;> rfl
theorem flat_get : ∀ (l : List It) (i : Nat) (x : It), l[i]? = some x → (flat l)[i * 2]? = some (.int .i64 (x.1 : Nat)) ∧ (flat l)[i * 2 + 1]? = some (.int .u8 x.2)
  | [], i, x, h => by simp at h
  | y :: l, 0, x, h => by
    obtain rfl : y = x := by simpa using h
    simp [flat]
  | y :: l, i + 1, x, h => by
    have ih := flat_get l i x (by simpa using h)
    have e : flat (y :: l) = ((.int .i64 (y.1 : Nat)) :: [.int .u8 y.2]) ++ flat l := by simp [flat]
    have e1 : (i + 1) * 2 = 2 + i * 2 := by omega
    have e2 : (i + 1) * 2 + 1 = 2 + (i * 2 + 1) := by omega
    rw [e, e2, e1, List.getElem?_append_right (by simp), List.getElem?_append_right (by simp)]
    simp only [List.length_cons, List.length_nil]
    rw [show 2 + i * 2 - (0 + 1 + 1) = i * 2 by omega, show 2 + (i * 2 + 1) - (0 + 1 + 1) = i * 2 + 1 by omega]
    exact ih
theorem flat_set : ∀ (l : List It) (r : Nat) (x : It), r < l.length → flat (l.set r x) = ((flat l).set (r * 2) (.int .i64 (x.1 : Nat))).set (r * 2 + 1) (.int .u8 x.2)
  | [], r, x, h => by simp at h
  | y :: l, 0, x, _ => by simp [flat]
  | y :: l, r + 1, x, h => by
    have ih := flat_set l r x (by simpa using h)
    have e : ∀ (a : It) (m : List It), flat (a :: m) = (.int .i64 (a.1 : Nat)) :: (.int .u8 a.2) :: flat m := fun a m => by simp [flat]
    rw [List.set_cons_succ, e, e, ih, show (r + 1) * 2 = r * 2 + 1 + 1 by omega]
    simp
/-- The cells of a queue: itself, its size, its heap, the places of the ids. -/
def qcells (P n : Nat) (v : Value) (pl : List Nat) : Array Value := ((.pointer (some ⟨P, 0, none⟩)) :: (.int .i64 (n : Nat)) :: v :: pl.map fun i => Value.int .i64 (i : Nat)).toArray
theorem qcells_get {P n : Nat} {v : Value} {pl : List Nat} {i k : Nat} (h : pl[i]? = some k) : (qcells P n v pl)[3 + i]? = some (.int .i64 (k : Nat)) := by
  rw [Nat.add_comm]
  simp [qcells, h]
theorem qcells_set {P n : Nat} {v : Value} {pl : List Nat} (i k : Nat) : (qcells P n v pl).setIfInBounds (3 + i) (.int .i64 (k : Nat)) = qcells P n v (pl.set i k) := by
  rw [Nat.add_comm]
  simp [qcells, List.map_set]
/-- A queue's memory: its block, the row of its heap. -/
structure QS (w : World) (B P n : Nat) (v : Value) (l : List It) (pl : List Nat) : Prop where
  hP : B ≤ P
  blk : w.heap[P]? = some (.cells (qcells P n v pl) 125 (0, 0))
  row : w.ownsRow B 130 2 v l.length (flat l)
  len : pl.length = 1024
theorem lt_of_heap {w : World} {b : Nat} {o : Obj} (h : w.heap[b]? = some o) : b < w.heap.size := (Array.getElem?_eq_some_iff.1 h).1
theorem lt_of_cell {w : World} {b o : Nat} {v : Value} (h : w.cell? ⟨b, o, none⟩ = some v) : b < w.heap.size := by
  rcases Nat.lt_or_ge b w.heap.size with hlt | hge
  · exact hlt
  · simp [World.cell?, Array.getElem?_eq_none hge] at h
theorem add_plain (b o j : Nat) : (⟨b, o, none⟩ : Addr).add j = ⟨b, o + j, none⟩ := by unfold Addr.add; split <;> simp_all
section
variable {w : World} {B P n : Nat} {v : Value} {l : List It} {pl : List Nat}
theorem QS.c0 (h : QS w B P n v l pl) : w.cell? ⟨P, 0, none⟩ = some (.pointer (some ⟨P, 0, none⟩)) := (cell_of_row w P 0 _ _ (0, 0) h.blk).trans rfl
theorem QS.c1 (h : QS w B P n v l pl) : w.cell? ⟨P, 1, none⟩ = some (.int .i64 (n : Nat)) := (cell_of_row w P 1 _ _ (0, 0) h.blk).trans rfl
theorem QS.c2 (h : QS w B P n v l pl) : w.cell? ⟨P, 2, none⟩ = some v := (cell_of_row w P 2 _ _ (0, 0) h.blk).trans rfl
theorem QS.cp (h : QS w B P n v l pl) {i k : Nat} (hi : pl[i]? = some k) : w.cell? ⟨P, 3 + i, none⟩ = some (.int .i64 (k : Nat)) := (cell_of_row w P (3 + i) _ _ (0, 0) h.blk).trans (qcells_get hi)
theorem QS.fz (h : QS w B P n v l pl) (i : Nat) : w.frozen? ⟨P, i, none⟩ = false := frozen_of_row w P i _ _ h.blk
theorem QS.below {w' : World} (h : QS w B P n v l pl) (hb : Below w.heap.size w w') : QS w' B P n v l pl :=
  ⟨h.hP, (hb.block P (lt_of_heap h.blk)).trans h.blk, owns_of_block h.row fun g hg => hb.block g (h.row.lt g hg).2, h.len⟩
theorem QS.ne (h : QS w B P n v l pl) : v.ownBlock ≠ some P := by
  intro he
  rcases h.row.2 with ⟨h0, _⟩ | ⟨g, cap, cur, hv, _, hh, _⟩
  · rw [h0] at he; cases he
  · rw [hv] at he
    obtain rfl : g = P := by simpa [Value.ownBlock] using he
    rw [h.blk] at hh
    cases hh
theorem QS.item {g m c : Nat} (h : QS w B P n (.slice (some ⟨g, 0, none⟩) m c) l pl) {i : Nat} {x : It} (hx : l[i]? = some x) : w.cell? ⟨g, i * 2, none⟩ = some (.int .i64 (x.1 : Nat)) ∧ w.cell? ⟨g, i * 2 + 1, none⟩ = some (.int .u8 x.2) := by
  have hf := flat_get l i x hx
  have e1 := h.row.cells (g := g) rfl _ _ hf.1
  have e2 := h.row.cells (g := g) rfl _ _ hf.2
  rw [add_plain, Nat.zero_add] at e1 e2
  exact ⟨e1, e2⟩
/-- The heap's slice, where it has items. -/
theorem QS.shape (h : QS w B P n v l pl) (hl : 0 < l.length) : ∃ g c, v = .slice (some ⟨g, 0, none⟩) l.length c ∧ l.length ≤ c ∧ c ≤ 9223372036854775807 ∧ (∀ i x, l[i]? = some x → w.cell? ⟨g, i * 2, none⟩ = some (.int .i64 (x.1 : Nat)) ∧ w.cell? ⟨g, i * 2 + 1, none⟩ = some (.int .u8 x.2)) ∧
    (∀ i, w.frozen? ⟨g, i, none⟩ = false) ∧ g ≠ P := by
  have hn := h.ne
  rcases h.row.2 with ⟨_, h0⟩ | ⟨g, cap, cur, hv, _, hh, hc, hm, _⟩
  · omega
  · subst hv
    refine ⟨g, cap, rfl, hc, by unfold maxLen at hm; omega, fun i x hx => ?_, fun i => frozen_of_row w g i _ _ hh, fun e => hn (by rw [← e]; rfl)⟩
    have hf := flat_get l i x hx
    have e1 := h.row.cells (g := g) rfl _ _ hf.1
    have e2 := h.row.cells (g := g) rfl _ _ hf.2
    rw [add_plain, Nat.zero_add] at e1 e2
    exact ⟨e1, e2⟩
end
theorem row_set {w : World} {B g c n : Nat} {xs : List Value} (h : w.ownsRow B 130 2 (.slice (some ⟨g, 0, none⟩) n c) n xs) (j : Nat) (u : Value) :
    (w.setCell ⟨g, j, none⟩ u).ownsRow B 130 2 (.slice (some ⟨g, 0, none⟩) n c) n (xs.set j u) := by
  refine ⟨by rw [List.length_set]; exact h.1, ?_⟩
  rcases h.2 with ⟨h0, _⟩ | ⟨g', cap, cur, hv, hg, hh, h1, h2, h3, h4⟩
  · cases h0
  · injection hv with e1 _ e3
    injection e1 with e1
    injection e1 with e1
    subst e1 e3
    refine Or.inr ⟨g, c, cur.setIfInBounds j u, rfl, hg, heap_setCell_same w g _ cur _ _ hh, h1, h2, by simpa using h3, ?_⟩
    rw [Array.toList_setIfInBounds, List.take_set, h4]
theorem put_ends {w : World} {B P n k g c : Nat} {l : List It} {pl : List Nat} {x : It} (h : QS w B P n (.slice (some ⟨g, 0, none⟩) l.length c) l pl) (hk : k < l.length) (hgP : g ≠ P) :
    QS (((w.setCell ⟨g, k * 2, none⟩ (.int .i64 (x.1 : Nat))).setCell ⟨g, k * 2 + 1, none⟩ (.int .u8 x.2)).setCell ⟨P, 3 + x.1, none⟩ (.int .i64 ((k : Int) + 1))) B P n (.slice (some ⟨g, 0, none⟩) l.length c) (l.set k x) (pl.set x.1 (k + 1)) ∧
      But (fun b => b = P ∨ (Value.slice (some ⟨g, 0, none⟩) l.length c).ownBlock = some b) w (((w.setCell ⟨g, k * 2, none⟩ (.int .i64 (x.1 : Nat))).setCell ⟨g, k * 2 + 1, none⟩ (.int .u8 x.2)).setCell ⟨P, 3 + x.1, none⟩ (.int .i64 ((k : Int) + 1))) := by
  have hb2 := ((Below.heap_setCell (w.setCell ⟨g, k * 2, none⟩ (.int .i64 (x.1 : Nat))) ⟨g, k * 2 + 1, none⟩ (.int .u8 x.2) P (Ne.symm hgP)).trans (Below.heap_setCell w ⟨g, k * 2, none⟩ (.int .i64 (x.1 : Nat)) P (Ne.symm hgP))).trans h.blk
  refine ⟨⟨h.hP, ?_, ?_, by rw [List.length_set]; exact h.len⟩, ?_⟩
  · rw [← qcells_set]
    exact heap_setCell_same _ P (3 + x.1) _ _ _ hb2
  · rw [List.length_set, flat_set l k x hk]
    exact owns_of_block (row_set (row_set h.row (k * 2) _) (k * 2 + 1) _) fun g' hg' => Below.heap_setCell _ _ _ g' (fun e => by
      have : g = g' := by simpa [Value.ownBlock] using hg'
      exact hgP (this.trans e))
  · refine ((But.setCell (a := w) (w := w) (But.of_below (Below.refl _ _)) (Or.inl (Or.inr rfl)) _).setCell (Or.inl (Or.inr rfl)) _).setCell (Or.inl (Or.inl rfl)) _
set_option maxHeartbeats 1000000 in
theorem put_any (w : World) (B P n k : Nat) (v : Value) (l : List It) (pl : List Nat) (x : It) (h : QS w B P n v l pl) (hk : k < l.length) (hx : x.1 < 1024) :
    Calls Try.prog 101 #[.pointer (some ⟨P, 0, none⟩), .int .i64 (k : Nat), .agg (cells x)] w fun e w' => (∃ u, e = .returned u) ∧ Hid (QS w' B P n v (l.set k x) (pl.set x.1 (k + 1)) ∧ But (fun b => b = P ∨ v.ownBlock = some b) w w') := by
  obtain ⟨g, c, rfl, hc, hcm, hit, hfz, hgP⟩ := h.shape (by omega)
  obtain ⟨m, hm⟩ : ∃ m, m = l.length := ⟨_, rfl⟩
  have gS := Lib.hid h
  have k2 := h.c2
  obtain ⟨e0, e1⟩ := hit k l[k] (List.getElem?_eq_getElem hk)
  have hg := lt_of_cell e0
  have f0 := hfz (k * 2)
  have f1 := hfz (k * 2 + 1)
  have hP := lt_of_heap h.blk
  have hi0 : (0 : Int) ≤ (k : Int) := by omega
  have hi1 : (k : Int) < (m : Int) := by omega
  have hx1 : ((x.1 : Nat) : Int) < 1024 := by omega
  obtain ⟨p0, hp0⟩ : ∃ p0, pl[x.1]? = some p0 := ⟨_, List.getElem?_eq_getElem (by rw [h.len]; exact hx)⟩
  have q0 := h.cp hp0
  have q1 := h.fz (3 + x.1)
  rw [← hm] at k2 hc
  unfold cells
  clear h hit hfz
  go_enter Try.func101, Try.ntmps101
  go_wp2_with fail
  go_region
  go_wp2_with fail
  go_region
  go_end0
  have hE := put_ends (x := x) gS.out hk hgP
  have hB : ∀ W : World, Below W.heap.size W (W.alloc (.cells #[.int .i64 (x.1 : Nat), .int .u8 x.2] 130)).drew.drew := fun W => (((Below.refl W.heap.size W).alloc (Nat.le_refl _) _).drew).drew
  exact ⟨⟨_, rfl⟩, hE.1.below (hB _), hE.2.trans (But.of_below (hB _))⟩
end Go.Proofs.Ytepgdeokjgjapaa.QU
