/- takeOut: an item is taken out of the heap. -/
import Derived.Test.YtepgdeokjgjapaaQIPush
namespace Go.Proofs.Ytepgdeokjgjapaa.QI
open Go.RowKit

theorem row_cut {w : World} {B g c n n' : Nat} {xs : List Value} (h : w.ownsRow B 138 2 (.slice (some ⟨g, 0, none⟩) n c) n xs) (hn : n' ≤ n) : w.ownsRow B 138 2 (.slice (some ⟨g, 0, none⟩) n' c) n' (xs.take (n' * 2)) := by
  refine ⟨by rw [List.length_take, h.1]; omega, ?_⟩
  rcases h.2 with ⟨h0, _⟩ | ⟨g', cap, cur, hv, hg, hh, h1, h2, h3, h4⟩
  · cases h0
  · injection hv with e1 _ e3
    injection e1 with e1
    injection e1 with e1
    subst e1 e3
    refine Or.inr ⟨g, c, cur, rfl, hg, hh, by omega, h2, h3, ?_⟩
    rw [← h4, List.take_take, Nat.min_eq_left (by omega)]
theorem flat_take : ∀ (l : List It) (m : Nat), flat (l.take m) = (flat l).take (m * 2)
  | [], m => by simp [flat]
  | x :: l, 0 => by simp [flat]
  | x :: l, m + 1 => by
    have ih := flat_take l m
    have e : ∀ (a : It) (t : List It), flat (a :: t) = (.int .i64 (a.1 : Nat)) :: (.int .i64 a.2) :: flat t := fun a t => by simp [flat]
    rw [List.take_succ_cons, e, e, ih, show (m + 1) * 2 = m * 2 + 1 + 1 by omega, List.take_succ_cons, List.take_succ_cons]
theorem cut_ends {w : World} {B P n m g c : Nat} {l : List It} {pl : List Nat} (h : QS w B P n (.slice (some ⟨g, 0, none⟩) (m + 1) c) l pl) (hl : l.length = m + 1) :
    QS (((w.setCell ⟨g, m * 2, none⟩ (.int .i64 0)).setCell ⟨g, m * 2 + 1, none⟩ (.int .i64 0)).setCell ⟨P, 2, none⟩ (.slice (some ⟨g, 0, none⟩) m c)) B P n (.slice (some ⟨g, 0, none⟩) m c) (l.take m) pl ∧
      But (fun b => b = P ∨ (Value.slice (some ⟨g, 0, none⟩) (m + 1) c).ownBlock = some b) w (((w.setCell ⟨g, m * 2, none⟩ (.int .i64 0)).setCell ⟨g, m * 2 + 1, none⟩ (.int .i64 0)).setCell ⟨P, 2, none⟩ (.slice (some ⟨g, 0, none⟩) m c)) := by
  have hgP : g ≠ P := fun e => h.ne (by rw [← e]; rfl)
  have hb2 := ((Below.heap_setCell (w.setCell ⟨g, m * 2, none⟩ (.int .i64 0)) ⟨g, m * 2 + 1, none⟩ (.int .i64 0) P (Ne.symm hgP)).trans (Below.heap_setCell w ⟨g, m * 2, none⟩ (.int .i64 0) P (Ne.symm hgP))).trans h.blk
  have hrow : w.ownsRow B 138 2 (.slice (some ⟨g, 0, none⟩) (m + 1) c) (m + 1) (flat l) := hl ▸ h.row
  have hlt : (l.take m).length = m := by rw [List.length_take, hl]; omega
  refine ⟨⟨h.hP, ?_, ?_, h.len⟩, ?_⟩
  · have := heap_setCell_same _ P 2 _ _ (.slice (some ⟨g, 0, none⟩) m c) hb2
    rw [this]
    rfl
  · rw [hlt]
    refine owns_of_block (w := (w.setCell ⟨g, m * 2, none⟩ (.int .i64 0)).setCell ⟨g, m * 2 + 1, none⟩ (.int .i64 0)) ?_ fun g' hg' => Below.heap_setCell _ _ _ g' (fun e => by
      have : g = g' := by simpa [Value.ownBlock] using hg'
      exact hgP (this.trans e))
    have h2 := row_cut (row_set (row_set hrow (m * 2) (.int .i64 0)) (m * 2 + 1) (.int .i64 0)) (n' := m) (by omega)
    rw [List.take_set_of_le (by omega), List.take_set_of_le (by omega), ← flat_take] at h2
    exact h2
  · exact ((But.setCell (a := w) (w := w) (But.of_below (Below.refl _ _)) (Or.inl (Or.inr rfl)) _).setCell (Or.inl (Or.inr rfl)) _).setCell (Or.inl (Or.inl rfl)) _
theorem placed_clear {l : List It} {pl : List Nat} {o : Nat} (h : Placed Prod.fst pl l (fun i => i = o)) (hno : ∀ y ∈ l, y.1 ≠ o) : Placed Prod.fst (pl.set o 0) l (fun _ => False) := by
  intro i hi _
  rw [List.length_set] at hi
  by_cases e : i = o
  · subst e
    exact ⟨fun j y hy ey => absurd ey (hno y (List.mem_of_getElem? hy)), fun _ => set_same hi _⟩
  · rw [set_other e]
    exact h i hi e
theorem placed_out {l : List It} {pl : List Nat} {k m : Nat} {x y : It} (h : Placed Prod.fst pl l (fun _ => False)) (hl : l.length = m + 1) (hx : l[k]? = some x) (hy : l[m]? = some y) (hkm : k < m) : Placed Prod.fst pl ((l.take m).set k y) (fun i => i = y.1 ∨ i = x.1) := by
  intro i hi hE
  have hp := h i hi (by simp)
  have hk : k < (l.take m).length := by rw [List.length_take, hl]; omega
  refine ⟨fun j z hz ez => ?_, fun hno => hp.2 fun z hz ez => ?_⟩
  · by_cases hjk : j = k
    · subst hjk
      rw [set_same hk] at hz
      obtain rfl : y = z := by injection hz
      exact absurd (Or.inl ez.symm) hE
    · rw [set_other hjk] at hz
      have hjm := lt_of_some hz
      rw [List.length_take, hl] at hjm
      rw [List.getElem?_take_of_lt (by omega)] at hz
      exact hp.1 j z hz ez
  · obtain ⟨j, hj, rfl⟩ := List.mem_iff_getElem.1 hz
    have e1 : l[j]? = some l[j] := List.getElem?_eq_getElem hj
    by_cases hjk : j = k
    · subst hjk
      rw [e1] at hx
      obtain rfl : l[j] = x := by injection hx
      exact hE (Or.inr ez.symm)
    · by_cases hjm : j = m
      · subst hjm
        rw [e1] at hy
        obtain rfl : l[j] = y := by injection hy
        exact hE (Or.inl ez.symm)
      · exact hno l[j] (List.mem_of_getElem? (i := j) (by rw [set_other hjk, List.getElem?_take_of_lt (by omega)]; exact e1)) ez
theorem placed_last {l : List It} {pl : List Nat} {m : Nat} {x : It} (h : Placed Prod.fst pl l (fun _ => False)) (hl : l.length = m + 1) (hx : l[m]? = some x) : Placed Prod.fst pl (l.take m) (fun i => i = x.1) := by
  intro i hi hE
  have hp := h i hi (by simp)
  refine ⟨fun j z hz ez => ?_, fun hno => hp.2 fun z hz ez => ?_⟩
  · have hjm := lt_of_some hz
    rw [List.length_take, hl] at hjm
    rw [List.getElem?_take_of_lt (by omega)] at hz
    exact hp.1 j z hz ez
  · obtain ⟨j, hj, rfl⟩ := List.mem_iff_getElem.1 hz
    have e1 : l[j]? = some l[j] := List.getElem?_eq_getElem hj
    by_cases hjm : j = m
    · subst hjm
      rw [e1] at hx
      obtain rfl : l[j] = x := by injection hx
      exact hE ez.symm
    · exact hno l[j] (List.mem_of_getElem? (i := j) (by rw [List.getElem?_take_of_lt (by omega)]; exact e1)) ez
/-- What takeOut leaves. -/
def TakeOf (w : World) (B P n : Nat) (v : Value) (l : List It) (x : It) (e : Ending) (w' : World) : Prop :=
  e = .returned (.agg #[.int .i64 (x.1 : Nat), .int .i64 x.2]) ∧ Hid (∃ v' G pl', QOwn w' B P n v' G pl' ∧ l.Perm (x :: G) ∧ Chg w w' P v v')
/-- The item is out, but the place of its id is not cleared. -/
structure MidT (w w6 : World) (B P n : Nat) (v v' : Value) (l G : List It) (pl : List Nat) (x : It) : Prop where
  qs : QS w6 B P n v' G pl
  heap : Heaped lt G
  plc : Placed Prod.fst pl G (fun i => i = x.1)
  perm : l.Perm (x :: G)
  but : But (fun b => b = P ∨ v.ownBlock = some b) w w6
  own : v'.ownBlock = v.ownBlock
  b4 : w6.heap[w.heap.size]? = some (.cells #[.int .i64 0, .int .i64 0] 138 (0, 0))
  b5 : w6.heap[w.heap.size + 1]? = some (.cells #[.int .i64 (x.1 : Nat), .int .i64 x.2] 138 (0, 0))
/-- The world behind the cut. -/
def cutW (w : World) (P g m c : Nat) (x y : It) : World :=
  (((((w.setCell ⟨g, m * 2, none⟩ (.int .i64 0)).setCell ⟨g, m * 2 + 1, none⟩ (.int .i64 0)).setCell ⟨P, 2, none⟩ (.slice (some ⟨g, 0, none⟩) m c)).alloc (.cells #[.int .i64 0, .int .i64 0] 138)).alloc (.cells #[.int .i64 (x.1 : Nat), .int .i64 x.2] 138)).alloc (.cells #[.int .i64 (y.1 : Nat), .int .i64 y.2] 138)
theorem cutW_ends {w : World} {B P n m g c : Nat} {l : List It} {pl : List Nat} {x y : It} (h : QS w B P n (.slice (some ⟨g, 0, none⟩) (m + 1) c) l pl) (hl : l.length = m + 1) :
    QS (cutW w P g m c x y) B P n (.slice (some ⟨g, 0, none⟩) m c) (l.take m) pl ∧ But (fun b => b = P ∨ (Value.slice (some ⟨g, 0, none⟩) (m + 1) c).ownBlock = some b) w (cutW w P g m c x y) ∧
      (cutW w P g m c x y).heap[w.heap.size]? = some (.cells #[.int .i64 0, .int .i64 0] 138 (0, 0)) ∧ (cutW w P g m c x y).heap[w.heap.size + 1]? = some (.cells #[.int .i64 (x.1 : Nat), .int .i64 x.2] 138 (0, 0)) := by
  have hE := cut_ends h hl
  unfold cutW
  generalize hW : ((w.setCell ⟨g, m * 2, none⟩ (.int .i64 0)).setCell ⟨g, m * 2 + 1, none⟩ (.int .i64 0)).setCell ⟨P, 2, none⟩ (.slice (some ⟨g, 0, none⟩) m c) = W at hE
  have hz : W.heap.size = w.heap.size := by rw [← hW]; simp [World.setCell]
  have hB : Below W.heap.size W (((W.alloc (.cells #[.int .i64 0, .int .i64 0] 138)).alloc (.cells #[.int .i64 (x.1 : Nat), .int .i64 x.2] 138)).alloc (.cells #[.int .i64 (y.1 : Nat), .int .i64 y.2] 138)) := (((Below.refl _ W).alloc (Nat.le_refl _) _).alloc (by simp) _).alloc (by simp; omega) _
  refine ⟨hE.1.below hB, hE.2.trans (But.of_below hB), ?_, ?_⟩
  · rw [← hz]
    exact ((Below.heap_alloc _ _ _ (by simp; omega)).trans (Below.heap_alloc _ _ _ (by simp))).trans (World.alloc_heap_new W _)
  · rw [← hz]
    have := World.alloc_heap_new (W.alloc (.cells #[.int .i64 0, .int .i64 0] 138)) (.cells #[.int .i64 (x.1 : Nat), .int .i64 x.2] 138)
    rw [World.size_alloc] at this
    exact (Below.heap_alloc _ _ _ (by simp)).trans this
/-- What takeOut leaves. -/
theorem take_ends {w w6 w7 : World} {B P n : Nat} {v v' : Value} {l G : List It} {pl pl0 : List Nat} {x : It} (hO : QOwn w B P n v l pl0) (h : MidT w w6 B P n v v' l G pl x) (hq : QS w7 B P n v' G (pl.set x.1 0)) (hb : But (fun b => b = P ∨ v.ownBlock = some b) w w7) :
    ∃ v' G pl', QOwn w7 B P n v' G pl' ∧ l.Perm (x :: G) ∧ Chg w w7 P v v' := by
  have hnd := (h.perm.map Prod.fst).nodup_iff.1 hO.nd
  rw [List.map_cons, List.nodup_cons] at hnd
  exact ⟨_, _, _, ⟨hq, h.heap, placed_clear h.plc (fun y hy e => hnd.1 (e ▸ List.mem_map.2 ⟨y, hy, rfl⟩)), hnd.2, fun y hy => hO.ids y (h.perm.mem_iff.2 (List.mem_cons_of_mem _ hy)), hO.hn⟩, h.perm, hb, fun g hg => Or.inl (h.own ▸ hg)⟩
theorem set_place {w : World} {B P n i k : Nat} {v : Value} {l : List It} {pl : List Nat} (h : QS w B P n v l pl) : QS (w.setCell ⟨P, 3 + i, none⟩ (.int .i64 (k : Nat))) B P n v l (pl.set i k) := by
  refine ⟨h.hP, ?_, owns_of_block h.row fun g hg => Below.heap_setCell _ _ _ g (fun e => h.ne (by rw [hg]; exact congrArg some e)), by rw [List.length_set]; exact h.len⟩
  rw [← qcells_set]
  exact heap_setCell_same _ P (3 + i) _ _ _ h.blk
theorem mid_of {w w5 w6 : World} {B P n m g c k : Nat} {l : List It} {pl : List Nat} {x y : It} (hg : g < w.heap.size) (hP : P < w.heap.size) (hC : QS w5 B P n (.slice (some ⟨g, 0, none⟩) m c) (l.take m) pl ∧ But (fun b => b = P ∨ (Value.slice (some ⟨g, 0, none⟩) (m + 1) c).ownBlock = some b) w w5 ∧
      w5.heap[w.heap.size]? = some (.cells #[.int .i64 0, .int .i64 0] 138 (0, 0)) ∧ w5.heap[w.heap.size + 1]? = some (.cells #[.int .i64 (x.1 : Nat), .int .i64 x.2] 138 (0, 0)))
    (hm : l.length = m + 1) (hx : l[k]? = some x) (hy : l[m]? = some y) (hkm : k < m)
    (hF : ∃ G pl', QS w6 B P n (.slice (some ⟨g, 0, none⟩) m c) G pl' ∧ Heaped lt G ∧ Placed Prod.fst pl' G (fun i => i = x.1) ∧ G.Perm ((l.take m).set k y) ∧ But (fun b => b = P ∨ (Value.slice (some ⟨g, 0, none⟩) m c).ownBlock = some b) w5 w6) :
    ∃ G pl', MidT w w6 B P n (.slice (some ⟨g, 0, none⟩) l.length c) (.slice (some ⟨g, 0, none⟩) m c) l G pl' x := by
  obtain ⟨G, pl', hq, hh, hpl, hpm, hbut⟩ := hF
  have hF : ∀ j, w.heap.size ≤ j → ¬ (j = P ∨ (Value.slice (some ⟨g, 0, none⟩) m c).ownBlock = some j) := by
    rintro j hj (e | e)
    · omega
    · have : g = j := by simpa [Value.ownBlock] using e
      omega
  exact ⟨G, pl', hq, hh, hpl, (take_out hm hx hy hkm).trans (hpm.symm.cons x), hC.2.1.trans hbut, rfl, (hbut.block _ (lt_of_heap hC.2.2.1) (hF _ (Nat.le_refl _))).trans hC.2.2.1, (hbut.block _ (lt_of_heap hC.2.2.2) (hF _ (Nat.le_succ _))).trans hC.2.2.2⟩
theorem take_cells {w : World} {b P i : Nat} {u a c : Value} (h : w.heap[b]? = some (.cells #[.int .i64 0, .int .i64 0] 138 (0, 0))) (hne : b ≠ P) :
    (((w.setCell ⟨P, i, none⟩ u).setCell ⟨b, 0, none⟩ a).setCell ⟨b, 1, none⟩ c).heap[b]? = some (.cells #[a, c] 138 (0, 0)) := by
  have h1 := (Below.heap_setCell w ⟨P, i, none⟩ u b hne).trans h
  have h2 := heap_setCell_same _ b 0 _ _ a h1
  have h3 := heap_setCell_same _ b 1 _ _ c h2
  rw [h3]
  rfl
theorem QS.set_other {w : World} {B P n : Nat} {v : Value} {l : List It} {pl : List Nat} (h : QS w B P n v l pl) {b : Nat} (h1 : b ≠ P) (h2 : v.ownBlock ≠ some b) (j : Nat) (u : Value) : QS (w.setCell ⟨b, j, none⟩ u) B P n v l pl :=
  ⟨h.hP, (Below.heap_setCell w ⟨b, j, none⟩ u P (Ne.symm h1)).trans h.blk, owns_of_block h.row fun g hg => Below.heap_setCell w ⟨b, j, none⟩ u g (fun e => h2 (by rw [hg]; exact congrArg some e)), h.len⟩
/-- The place of the id is cleared, the result written. -/
theorem take_fin {w w6 : World} {B P n : Nat} {v v' : Value} {l G : List It} {pl pl0 : List Nat} {x : It} (hO : QOwn w B P n v l pl0) (h : MidT w w6 B P n v v' l G pl x) (hP : P < w.heap.size) (hv : v.ownBlock ≠ some w.heap.size) :
    ∃ v' G pl', QOwn (((w6.setCell ⟨P, 3 + x.1, none⟩ (.int .i64 0)).setCell ⟨w.heap.size, 0, none⟩ (.int .i64 (x.1 : Nat))).setCell ⟨w.heap.size, 1, none⟩ (.int .i64 x.2)).drew B P n v' G pl' ∧ l.Perm (x :: G) ∧
      Chg w (((w6.setCell ⟨P, 3 + x.1, none⟩ (.int .i64 0)).setCell ⟨w.heap.size, 0, none⟩ (.int .i64 (x.1 : Nat))).setCell ⟨w.heap.size, 1, none⟩ (.int .i64 x.2)).drew P v v' := by
  have hS := set_place (i := x.1) (k := 0) h.qs
  have hne : w.heap.size ≠ P := by omega
  have hv' : v'.ownBlock ≠ some w.heap.size := by rw [h.own]; exact hv
  have hQ := (hS.set_other hne hv' 0 (.int .i64 (x.1 : Nat))).set_other hne hv' 1 (.int .i64 x.2)
  refine take_ends hO h (hQ.below (Below.refl _ _).drew) ?_
  exact (((h.but.setCell (Or.inl (Or.inl rfl)) _).setCell (Or.inr (Nat.le_refl _)) _).setCell (Or.inr (Nat.le_refl _)) _).drew
set_option maxHeartbeats 4000000 in
set_option maxRecDepth 100000 in
theorem take_any (w : World) (B P n k : Nat) (v : Value) (l : List It) (pl : List Nat) (x : It) (h : QOwn w B P n v l pl) (hx : l[k]? = some x) :
    Calls Try.prog 90 #[.pointer (some ⟨P, 0, none⟩), .int .i64 (k : Nat)] w (TakeOf w B P n v l x) := by
  have hk := lt_of_some hx
  obtain ⟨m, hm⟩ : ∃ m, l.length = m + 1 := ⟨l.length - 1, by omega⟩
  obtain ⟨y, hy⟩ : ∃ y, l[m]? = some y := ⟨_, List.getElem?_eq_getElem (by omega)⟩
  obtain ⟨g, c, rfl, hc, hcm, -, hfz, hgP⟩ := h.qs.shape (by omega)
  obtain ⟨x0, x1⟩ := h.qs.item hx
  obtain ⟨y0, y1⟩ := h.qs.item hy
  have fz0 := hfz (m * 2)
  have fz1 := hfz (m * 2 + 1)
  have hg := lt_of_cell x0
  have c2 := h.qs.c2
  have hP := lt_of_cell c2
  have fP := h.qs.fz 2
  have hln := h.len
  have hn := h.hn
  have gO := Lib.hid h
  have gx := Lib.hid hx
  have gy := Lib.hid hy
  have gm := Lib.hid hm
  rw [hm] at c2 hc
  have hsl : ∀ w' : World, (Instr.slice 120 (.slice (some ⟨g, 0, none⟩) (m + 1) c) none (some (.int .i64 (m : Int))) none).run Try.prog w' = .ok (.slice (some ⟨g, 0, none⟩) m c) w' := by
    intro w'
    have i1 : m ≤ c := by omega
    simp [Instr.slice, run_underlying Try.underlying120, Instr.sliceBounds, Instr.sliceBound, asIntOf, i1, Addr.add]
  have hP1 : P < w.heap.size + 1 := by omega
  have hP2 : P < w.heap.size + 1 + 1 := by omega
  have hg1 : g < w.heap.size + 1 := by omega
  have hg2 : g < w.heap.size + 1 + 1 := by omega
  have hm0 : (0 : Int) ≤ (m : Int) := by omega
  have hk0 : (0 : Int) ≤ (k : Int) := by omega
  have hkm1 : (k : Int) < (m : Int) + 1 := by omega
  have hm1 : (m : Int) ≤ 1024 := by omega
  clear h hx hy hm hfz
  have hxid : x.1 < 1024 := by have := gO.out.ids x (List.mem_of_getElem? gx.out); omega
  have hx1 : ((x.1 : Nat) : Int) < 1024 := by omega
  have hne4 : ¬ (w.heap.size = P) := by omega
  have hne5 : ¬ (w.heap.size + 1 = P) := by omega
  have gC := Lib.hid (cutW_ends (x := x) (y := y) (show QS w B P n (.slice (some ⟨g, 0, none⟩) (m + 1) c) l pl from gm.out ▸ gO.out.qs) gm.out)
  by_cases hkm : k < m
  · have gS : Hid (Calls Try.prog 89 #[.pointer (some ⟨P, 0, none⟩), .int .i64 (k : Nat), .agg #[.int .i64 (y.1 : Nat), .int .i64 y.2]] (cutW w P g m c x y) (SettleOf (cutW w P g m c x y) B P n (.slice (some ⟨g, 0, none⟩) m c) (fun i => i = x.1) ((l.take m).set k y))) := by
      have hpm := take_out gm.out gx.out gy.out hkm
      have hnd := (hpm.map Prod.fst).nodup_iff.1 gO.out.nd
      rw [List.map_cons, List.nodup_cons] at hnd
      exact settle_any _ B P n k _ (l.take m) pl y _ gC.out.1 (by rw [List.length_take, gm.out]; omega) (by rw [List.length_take]; omega) (heap_hole iord (heap_take gO.out.heap m) k) (placed_out gO.out.plc gm.out gx.out gy.out hkm) hnd.2
        (fun z hz => by have := gO.out.ids z (hpm.mem_iff.2 (List.mem_cons_of_mem _ hz)); omega)
    unfold cutW at gS
    go_enter Try.func90, Try.ntmps90
    go_wp2_with (go_at_call 89; refine gS.out.mono ?_; rintro e w6 ⟨⟨u, rfl⟩, gF⟩
                 have gM : Hid (∃ G pl', MidT w w6 B P n (.slice (some ⟨g, 0, none⟩) l.length c) (.slice (some ⟨g, 0, none⟩) m c) l G pl' x) := mid_of hg (by omega) gC.out gm.out gx.out gy.out hkm gF.out
                 obtain ⟨G, plG, hM⟩ := gM.out
                 have gM := Lib.hid hM
                 obtain ⟨p0, hp0⟩ : ∃ p0, plG[x.1]? = some p0 := ⟨_, List.getElem?_eq_getElem (by rw [hM.qs.len]; exact hxid)⟩
                 have q0 := hM.qs.cp hp0
                 have q1 := hM.qs.fz (3 + x.1)
                 have e0 := (cell_of_row w6 (w.heap.size + 1) 0 _ _ (0, 0) hM.b5).trans rfl
                 have e1 := (cell_of_row w6 (w.heap.size + 1) 1 _ _ (0, 0) hM.b5).trans rfl
                 have e2 := (cell_of_row w6 w.heap.size 0 _ _ (0, 0) hM.b4).trans rfl
                 have e3 := (cell_of_row w6 w.heap.size 1 _ _ (0, 0) hM.b4).trans rfl
                 have e4 := frozen_of_row w6 w.heap.size 0 _ _ hM.b4
                 have e5 := frozen_of_row w6 w.heap.size 1 _ _ hM.b4
                 clear hM hp0 gF)
    go_region
    go_wp2_with fail
    have hR := take_cells (i := 3 + x.1) (u := .int .i64 0) (a := .int .i64 (x.1 : Nat)) (c := .int .i64 x.2) gM.out.b4 hne4
    have hfin := take_fin gO.out gM.out hP (fun e => by have : g = w.heap.size := by simpa [Value.ownBlock] using e
                                                        omega)
    generalize hWF : ((w6.setCell ⟨P, 3 + x.1, none⟩ (.int .i64 0)).setCell ⟨w.heap.size, 0, none⟩ (.int .i64 (x.1 : Nat))).setCell ⟨w.heap.size, 1, none⟩ (.int .i64 x.2) = WF at hR hfin ⊢
    have r0 := (cell_of_row WF w.heap.size 0 _ _ (0, 0) hR).trans rfl
    have r1 := (cell_of_row WF w.heap.size 1 _ _ (0, 0) hR).trans rfl
    refine bodyPost_ret (v := .agg #[.int .i64 (x.1 : Nat), .int .i64 x.2]) ?_ rfl ?_
    · simp [results, Try.results90, go_sem, r0, r1]
    · exact ⟨rfl, hfin⟩
  · obtain rfl : k = m := by omega
    obtain rfl : x = y := by
      have := gx.out.symm.trans gy.out
      injection this
    have gM := Lib.hid (show MidT w (cutW w P g k c x x) B P n (.slice (some ⟨g, 0, none⟩) l.length c) (.slice (some ⟨g, 0, none⟩) k c) l (l.take k) pl x from
      ⟨gC.out.1, heap_take gO.out.heap k, placed_last gO.out.plc gm.out gx.out, take_last gm.out gx.out, gC.out.2.1, rfl, gC.out.2.2.1, gC.out.2.2.2⟩)
    obtain ⟨w6, hw6⟩ : ∃ w6, w6 = cutW w P g k c x x := ⟨_, rfl⟩
    rw [← hw6] at gM
    unfold cutW at hw6
    have hdk : decide (k < k) = false := decide_eq_false (by omega)
    clear gC
    go_enter Try.func90, Try.ntmps90
    go_wp2_with fail
    rw [← hw6]
    clear hw6 c2 x0 x1 y0 y1 fz0 fz1 hsl fP
    obtain ⟨p0, hp0⟩ : ∃ p0, pl[x.1]? = some p0 := ⟨_, List.getElem?_eq_getElem (by rw [gM.out.qs.len]; exact hxid)⟩
    have q0 := gM.out.qs.cp hp0
    have q1 := gM.out.qs.fz (3 + x.1)
    have e0 := (cell_of_row w6 (w.heap.size + 1) 0 _ _ (0, 0) gM.out.b5).trans rfl
    have e1 := (cell_of_row w6 (w.heap.size + 1) 1 _ _ (0, 0) gM.out.b5).trans rfl
    have e2 := (cell_of_row w6 w.heap.size 0 _ _ (0, 0) gM.out.b4).trans rfl
    have e3 := (cell_of_row w6 w.heap.size 1 _ _ (0, 0) gM.out.b4).trans rfl
    have e4 := frozen_of_row w6 w.heap.size 0 _ _ gM.out.b4
    have e5 := frozen_of_row w6 w.heap.size 1 _ _ gM.out.b4
    go_region
    go_wp2_with fail
    have hR := take_cells (i := 3 + x.1) (u := .int .i64 0) (a := .int .i64 (x.1 : Nat)) (c := .int .i64 x.2) gM.out.b4 hne4
    have hfin := take_fin gO.out gM.out hP (fun e => by have : g = w.heap.size := by simpa [Value.ownBlock] using e
                                                        omega)
    generalize hWF : ((w6.setCell ⟨P, 3 + x.1, none⟩ (.int .i64 0)).setCell ⟨w.heap.size, 0, none⟩ (.int .i64 (x.1 : Nat))).setCell ⟨w.heap.size, 1, none⟩ (.int .i64 x.2) = WF at hR hfin ⊢
    have r0 := (cell_of_row WF w.heap.size 0 _ _ (0, 0) hR).trans rfl
    have r1 := (cell_of_row WF w.heap.size 1 _ _ (0, 0) hR).trans rfl
    refine bodyPost_ret (v := .agg #[.int .i64 (x.1 : Nat), .int .i64 x.2]) ?_ rfl ?_
    · simp [results, Try.results90, go_sem, r0, r1]
    · exact ⟨rfl, hfin⟩
end Go.Proofs.Ytepgdeokjgjapaa.QI
