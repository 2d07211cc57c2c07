/- Set, where the value is a struct (BP): four boxes more. -/
import Derived.Test.YtmjdkmdpegcalaaBPRead
import Derived.Test.YtmjdkmdpegcalaaBPIns
import Derived.Test.YtmjdkmdpegcalaaBut
import Derived.Laws.ResultCell
namespace Go.Proofs.Ytmjdkmdpegcalaa.BP
open Go.RowKit Go.Shelf Go.Lib

/-- What Set leaves. -/
def SetOf (w : World) (B P : Nat) (v : Value) (l : List (K × V)) (k : K) (x : V) (e : Ending) (w' : World) : Prop :=
  ∃ v', e = .returned (.tuple #[(.agg #[.int .i64 (getL lt l k z0).1, .string (getL lt l k z0).2]), .bool (hasB lt (keysOf l) k), .int .i64 0]) ∧ Own w' B P v' (putL lt l k x) ∧ Chg w w' P v v'
theorem own_ne {w : World} {B P : Nat} {v : Value} {l : List (K × V)} (h : Own w B P v l) : v.ownBlock ≠ some P := by
  intro he
  rcases h.own.2 with ⟨h0, _⟩ | ⟨g, cap, cur, hv', _, hh, _⟩
  · rw [h0] at he; cases he
  · rw [hv'] at he
    obtain rfl : g = P := by simpa [Value.ownBlock] using he
    rw [h.blk] at hh
    injection hh with hh
    injection hh with _ hT _
    exact absurd hT (by decide)
theorem flat_set : ∀ (l : List (K × V)) (r : Nat) (x : V), r < l.length → flat (l.set r ((l.getD r z0).1, x)) =
    ((flat l).set (r * 3 + 1) (.int .i64 x.1)).set (r * 3 + 1 + 1) (.string x.2)
  | [], r, x, h => by simp at h
  | y :: l, 0, x, _ => by simp [flat]
  | y :: l, r + 1, x, h => by
    have ih := flat_set l r x (by simpa using h)
    have e : ∀ (a : K × V) (m : List (K × V)), flat (a :: m) = ((.int .u8 (a.1)) :: [.int .i64 (a.2).1, .string (a.2).2]) ++ flat m := fun a m => by simp [flat]
    have e1 : (y :: l).set (r + 1) (((y :: l).getD (r + 1) z0).1, x) = y :: l.set r ((l.getD r z0).1, x) := by simp
    rw [e1, e, e, ih]
    have s : ((.int .u8 (y.1)) :: [.int .i64 (y.2).1, .string (y.2).2] : List Value).length = 3 := rfl
    have k1 : (r + 1) * 3 + 1 = 3 + (r * 3 + 1) := by omega
    rw [k1, List.set_append_right _ _ (by rw [s]; omega), s, Nat.add_sub_cancel_left]
    rw [show 3 + (r * 3 + 1) + 1 = 3 + (r * 3 + 1 + 1) by omega, List.set_append_right _ _ (by rw [s]; omega), s, Nat.add_sub_cancel_left]
/-- A value of an own row is written. -/
theorem own_set {w : World} {B g c : Nat} {l : List (K × V)} (h : w.ownsRow B 164 3 (.slice (some ⟨g, 0, none⟩) l.length c) l.length (flat l)) {r : Nat} (hr : r < l.length) (x : V) :
    ((w.setCell ⟨g, r * 3 + 1, none⟩ (.int .i64 x.1)).setCell ⟨g, r * 3 + 1 + 1, none⟩ (.string x.2)).ownsRow
      B 164 3 (.slice (some ⟨g, 0, none⟩) l.length c) l.length (flat (l.set r ((l.getD r z0).1, x))) := by
  refine ⟨by rw [length_flat, List.length_set], ?_⟩
  rcases h.2 with ⟨h0, _⟩ | ⟨g', cap, cur, hv, hg, hh, h1, h2, h3, h4⟩
  · cases h0
  · injection hv with e1 _ e3
    injection e1 with e1
    injection e1 with e1
    subst e1 e3
    refine Or.inr ⟨g, c, (cur.setIfInBounds (r * 3 + 1) (.int .i64 x.1)).setIfInBounds (r * 3 + 1 + 1) (.string x.2), rfl, hg, heap_setCell_same _ g _ _ _ _ (heap_setCell_same w g _ cur _ _ hh), h1, h2, by simpa using h3, ?_⟩
    rw [Array.toList_setIfInBounds, Array.toList_setIfInBounds, List.take_set, List.take_set, h4, flat_set l r x hr]
theorem set_len {l : List (K × V)} {k : K} {x : V} : (putL lt l k x).length = if hasB lt (keysOf l) k then l.length else l.length + 1 := by
  unfold putL
  split
  · rw [List.length_set]
  · exact length_ins _ _ _ (by have := rkB_le (lt := lt) (keysOf l) k; simpa using this)

theorem results_cell_tmp2 {fn : Func} {p u v : Tmp} {ty : TypeId} (h : fn.results = #[.cell p ty, .tmp u, .tmp v]) (tmps : Array Value) (P : Program) (w : World) :
    (results fn tmps).run P w =
      ((asAddr (tmps.getD p undef)).run P w).andThen fun a w₁ => ((loadVar ty a).run P w₁).andThen fun x w₂ => .ok (.tuple #[x, tmps.getD u undef, tmps.getD v undef]) w₂ := by
  simp only [results, h]
  simp [Sem.run_bind, Result.andThen]
theorem box_block {w : World} {b : Nat} {a c : Value} (h : w.heap[b]? = some (.cells #[a, c] 87 (0, 0))) (u1 u2 : Value) :
    ((w.setCell ⟨b, 0, none⟩ u1).setCell ⟨b, 1, none⟩ u2).heap[b]? = some (.cells #[u1, u2] 87 (0, 0)) := by
  rw [heap_setCell_same _ b 1 _ _ u2 (heap_setCell_same w b 0 _ _ u1 h)]
  rfl
theorem own_keeps {w w' : World} {B P : Nat} {v : Value} {l : List (K × V)} (h : Own w B P v l) (hP : w'.heap[P]? = w.heap[P]?) (hg : ∀ g, v.ownBlock = some g → w'.heap[g]? = w.heap[g]?) : Own w' B P v l :=
  ⟨h.hP, hP.trans h.blk, owns_of_block h.own hg, h.asc, h.len⟩
/-- Also after the result's box was written. -/
theorem box_keeps {w w1 : World} {B P : Nat} {v v' : Value} {l : List (K × V)} (h : Own w1 B P v' l ∧ Chg w w1 P v v') (hP : P < w.heap.size) {b : Nat} (hb : w.heap.size ≤ b) (hne : v'.ownBlock ≠ some b) (o : Nat) (u : Value) :
    Own (w1.setCell ⟨b, o, none⟩ u) B P v' l ∧ Chg w (w1.setCell ⟨b, o, none⟩ u) P v v' :=
  ⟨own_keeps h.1 (Below.heap_setCell _ _ _ _ (by show P ≠ b; omega)) (fun g hg => Below.heap_setCell _ _ _ _ (fun e => hne (by rw [hg]; exact congrArg some e))), ⟨h.2.but.setCell (Or.inr hb) _, h.2.row⟩⟩
theorem last_keeps {w w1 w2 : World} {B P : Nat} {v v' : Value} {l : List (K × V)} (h : Own w1 B P v' l ∧ Chg w w1 P v v') (hb : Below w1.heap.size w1 w2) : Own w2 B P v' l ∧ Chg w w2 P v v' :=
  ⟨h.1.below hb, ⟨but_below h.2.but (hb.mono h.2.but.size), h.2.row⟩⟩
theorem set_has_ends {w w1 : World} {B P g c : Nat} {l : List (K × V)} {k : K} {x : V} (h : Own w B P (.slice (some ⟨g, 0, none⟩) l.length c) l) (hB : Below w.heap.size w w1) (hh : hasB lt (keysOf l) k = true) :
    Own ((w1.setCell ⟨g, rkB lt (keysOf l) k * 3 + 1, none⟩ (.int .i64 x.1)).setCell ⟨g, rkB lt (keysOf l) k * 3 + 1 + 1, none⟩ (.string x.2)) B P (.slice (some ⟨g, 0, none⟩) l.length c) (putL lt l k x) ∧
    Chg w ((w1.setCell ⟨g, rkB lt (keysOf l) k * 3 + 1, none⟩ (.int .i64 x.1)).setCell ⟨g, rkB lt (keysOf l) k * 3 + 1 + 1, none⟩ (.string x.2)) P (.slice (some ⟨g, 0, none⟩) l.length c) (.slice (some ⟨g, 0, none⟩) l.length c) := by
  have hlt := has_lt hh
  have h1 := h.below hB
  have hgP : g ≠ P := fun e => own_ne h (by rw [e]; rfl)
  have hgw : g < w.heap.size := (h.own.lt g rfl).2
  have he : (l.getD (rkB lt (keysOf l) k) z0).1 = k := by
    have := eq_of_beq ((hasB_eq (hasB_lt hh)).symm.trans hh)
    simpa [hlt] using this
  refine ⟨⟨h.hP, ?_, ?_, asc_put kord h.asc k x, ?_⟩, ⟨?_, fun g' hg' => Or.inl hg'⟩⟩
  · exact (Below.heap_setCell _ _ _ P (fun e => hgP e.symm)).trans ((Below.heap_setCell w1 _ _ P (fun e => hgP e.symm)).trans h1.blk)
  · have := own_set h1.own hlt x
    rw [he] at this
    have e : putL lt l k x = l.set (rkB lt (keysOf l) k) (k, x) := by unfold putL; rw [hh]; rfl
    rw [e, List.length_set]
    exact this
  · rw [set_len, hh]; exact h.len
  · exact ((But.of_below hB).setCell (Or.inl (Or.inr rfl)) _).setCell (Or.inl (Or.inr rfl)) _

set_option maxRecDepth 100000 in
set_option maxHeartbeats 2000000 in
theorem set_has (B P : Nat) (v : Value) (l : List (K × V)) (k : K) (x : V) (w : World) (h : Own w B P v l) (hh : hasB lt (keysOf l) k = true) :
    Calls Try.prog 44 #[.pointer (some ⟨P, 0, none⟩), (.int .u8 (k)), (.agg #[.int .i64 (x).1, .string (x).2])] w (SetOf w B P v l k x) := by
  have hlt := has_lt hh
  have hb := ((Below.refl w.heap.size w).alloc (Nat.le_refl _) (.cells #[.int .i64 x.1, .string x.2] 87)).alloc (by simp) (.cells #[.int .i64 0, .string ⟨#[]⟩] 87) |>.alloc (by simp; omega) (.cells #[.int .i64 0, .string ⟨#[]⟩] 87)
  obtain ⟨W, hW⟩ : ∃ W, W = ((w.alloc (.cells #[.int .i64 x.1, .string x.2] 87)).alloc (.cells #[.int .i64 0, .string ⟨#[]⟩] 87)).alloc (.cells #[.int .i64 0, .string ⟨#[]⟩] 87) := ⟨_, rfl⟩
  rw [← hW] at hb
  have h' := h.below hb
  obtain ⟨g, c, cur, rfl, hg⟩ : ∃ g c cur, v = .slice (some ⟨g, 0, none⟩) l.length c ∧ W.heap[g]? = some (.cells cur 164 (0, 0)) := by
    rcases h'.own.2 with ⟨_, h0⟩ | ⟨g, c, cur, hv, _, hh, _⟩
    · omega
    · exact ⟨g, c, cur, hv, hh⟩
  have hgw : g < w.heap.size := (h.own.lt g rfl).2
  have hPw : P < w.heap.size := lt_of_heap h.blk
  obtain ⟨A, c', e, hHas⟩ := h'.has
  injection e with e1 _ e3
  subst e1 e3
  have g0 := Lib.hid hHas
  have gO := Lib.hid h
  have gh := Lib.hid hh
  have hc := hHas.cap
  obtain ⟨P', eP, hv0, hv1⟩ := hHas.lives (by omega)
  obtain rfl : P = P' := by simpa using eP
  obtain ⟨b, o, eA, hbw, _, h1, h2⟩ := hHas.it.at hlt
  obtain ⟨rfl, rfl⟩ : g = b ∧ 0 = o := by simpa using eA
  rw [Nat.zero_add] at h1 h2
  have hf := frozen_of_row W g (rkB lt (keysOf l) k * 3 + 1) _ _ hg
  have hf2 := frozen_of_row W g (rkB lt (keysOf l) k * 3 + 1 + 1) _ _ hg
  obtain ⟨y, hy⟩ : ∃ y, y = (l.getD (rkB lt (keysOf l) k) z0).2 := ⟨_, rfl⟩
  have gy := Lib.hid hy
  rw [← hy] at h1 h2
  obtain ⟨r, hr⟩ : ∃ r, r = rkB lt (keysOf l) k := ⟨_, rfl⟩
  have gr := Lib.hid hr
  rw [← hr] at hlt h1 h2 hf hf2
  obtain ⟨n, hn⟩ : ∃ n, n = l.length := ⟨_, rfl⟩
  have gn := Lib.hid hn
  rw [← hn] at hlt hc hv1
  have gb := Lib.hid hb
  have hPW := lt_of_cell hv0
  have gW := Lib.hid hW
  have gs := Lib.hid (show W.heap.size = w.heap.size + 3 by rw [hW]; simp)
  have x0 : W.cell? ⟨w.heap.size, 0, none⟩ = some (.int .i64 x.1) := by rw [hW]; exact (World.cell?_alloc_lt _ _ ⟨w.heap.size, 0, none⟩ (by simp; omega)).trans (World.cell?_alloc2_first _ _ _ 0)
  have x1 : W.cell? ⟨w.heap.size, 1, none⟩ = some (.string x.2) := by rw [hW]; exact (World.cell?_alloc_lt _ _ ⟨w.heap.size, 1, none⟩ (by simp; omega)).trans (World.cell?_alloc2_first _ _ _ 1)
  have gz := Lib.hid (show W.heap[w.heap.size + 1]? = some (.cells #[.int .i64 0, .string ⟨#[]⟩] 87 (0, 0)) by
    have e := heap_alloc_new (w.alloc (.cells #[.int .i64 x.1, .string x.2] 87)) (.cells #[.int .i64 0, .string ⟨#[]⟩] 87)
    rw [World.size_alloc] at e
    rw [hW]; exact (((Below.refl _ _).alloc (Nat.le_refl _) _).block _ (by simp)).trans e)
  have hs1 : w.heap.size + 1 < W.heap.size := by rw [gs.out]; omega
  have hs0 : w.heap.size < W.heap.size := by rw [gs.out]; omega
  have i0 : (0 : Int) ≤ (r : Int) := by omega
  have i1 : (r : Int) < (n : Int) := by omega
  clear h h' hh hHas eP eA hg hy hr hn hb
  go_enter Try.func44, Try.ntmps44
  go_wp2_with (first
    | (go_at_call 109; rw [← gW.out]; refine (valid_any P _ hv0).mono ?_; rintro e w' ⟨rfl, rfl⟩)
    | (go_at_call 110; rw [← gW.out]; refine (find_any _ _ c l k _ g0.out).mono ?_; rintro e w' ⟨rfl, hB⟩; rw [← gr.out, gh.out]; have k1 := (hB.cell hbw).trans h1; have k4 := (hB.cell hbw).trans h2; have k2 := (hB.cell hPW).trans hv1; have k3 := (hB.frozen (p := ⟨g, r * 3 + 1, none⟩) hbw).trans hf; have k6 := (hB.frozen (p := ⟨g, r * 3 + 1 + 1, none⟩) hbw).trans hf2; have j0 := (hB.cell (p := ⟨w.heap.size, 0, none⟩) hs0).trans x0; have j1 := (hB.cell (p := ⟨w.heap.size, 1, none⟩) hs0).trans x1; have gz' := (hB.block _ hs1).trans gz.out; have zz0 := (cell_of_row _ _ 0 _ _ (0, 0) gz').trans (show _ = some (Value.int .i64 0) from rfl); have zz1 := (cell_of_row _ _ 1 _ _ (0, 0) gz').trans (show _ = some (Value.string ⟨#[]⟩) from rfl); have zz2 := frozen_of_row _ _ 0 _ _ gz'; have zz3 := frozen_of_row _ _ 1 _ _ gz'; have hsz := hB.size; have gB := Lib.hid hB; clear hB))
  go_wp2_with fail
  have n0 : w.heap.size < w'.heap.size := by omega
  have n3 : w.heap.size + 1 < w'.heap.size := by omega
  have n4 : w.heap.size + 1 ≠ g := by omega
  have n5 : g ≠ w.heap.size + 1 := by omega
  have n1 : g < w'.heap.size := by omega
  have n2 : P < w'.heap.size := by omega
  go_region
  go_wp2_with fail
  have hE := set_has_ends gO.out (x := x) ((gb.out).trans (gB.out.mono gb.out.size)) gh.out
  rw [← gr.out] at hE
  have hne : (Value.slice (some ⟨g, 0, none⟩) l.length c).ownBlock ≠ some (w.heap.size + 1) := by simp [Value.ownBlock]; omega
  have hF := last_keeps (box_keeps (box_keeps hE hPw (Nat.le_succ w.heap.size) hne 0 (.int .i64 y.1)) hPw (Nat.le_succ w.heap.size) hne 1 (.string y.2)) (((Below.refl _ _).alloc (Nat.le_refl _) (.cells #[.int .i64 y.1, .string y.2] 87)).drew)
  clear hE
  obtain ⟨V, hV⟩ : ∃ V, V = (((((w'.setCell ⟨g, r * 3 + 1, none⟩ (.int .i64 x.1)).setCell ⟨g, r * 3 + 1 + 1, none⟩ (.string x.2)).setCell ⟨w.heap.size + 1, 0, none⟩ (.int .i64 y.1)).setCell ⟨w.heap.size + 1, 1, none⟩ (.string y.2)).alloc (.cells #[.int .i64 y.1, .string y.2] 87)).drew := ⟨_, rfl⟩
  have b1 : V.heap[w.heap.size + 1]? = some (.cells #[.int .i64 y.1, .string y.2] 87 (0, 0)) := by
    rw [hV]
    have e : ((w'.setCell ⟨g, r * 3 + 1, none⟩ (.int .i64 x.1)).setCell ⟨g, r * 3 + 1 + 1, none⟩ (.string x.2)).heap[w.heap.size + 1]? = some (.cells #[.int .i64 0, .string ⟨#[]⟩] 87 (0, 0)) :=
      (Below.heap_setCell _ _ _ _ (by show w.heap.size + 1 ≠ g; omega)).trans ((Below.heap_setCell _ _ _ _ (by show w.heap.size + 1 ≠ g; omega)).trans gz')
    have e2 := box_block e (.int .i64 y.1) (.string y.2)
    exact (Below.heap_alloc _ _ _ (lt_of_heap e2)).trans e2
  rw [← hV] at hF ⊢
  have r0 := (cell_of_row _ _ 0 _ _ (0, 0) b1).trans (show _ = some (Value.int .i64 y.1) from rfl)
  have r1 := (cell_of_row _ _ 1 _ _ (0, 0) b1).trans (show _ = some (Value.string y.2) from rfl)
  have gF := Lib.hid hF
  clear hF hV
  refine bodyPost_ret (v := .tuple #[.agg #[.int .i64 y.1, .string y.2], .bool true, .int .i64 0]) ?_ rfl ⟨_, ?_, gF.out⟩
  · rw [results_cell_tmp2 rfl]
    go_simp
  · rw [gh.out]; unfold getL; rw [gh.out, gy.out]; rfl
theorem set_new_ends {w w2 w3 : World} {B P : Nat} {v v' : Value} {l : List (K × V)} {k : K} {x : V} (h : Own w B P v l) (hB : Below w.heap.size w w2) (hh : hasB lt (keysOf l) k = false) (hlen : l.length < 1000000)
    (ho : w3.ownsRow B 164 3 v' (l.length + 1) (flat (l.take (rkB lt (keysOf l) k) ++ (k, x) :: l.drop (rkB lt (keysOf l) k)))) (hg : w2.grownBy w3 v.ownBlock) (hat : v'.ownBlock = v.ownBlock ∨ v'.ownBlock = some w2.heap.size) :
    Own (w3.setCell ⟨P, 1, none⟩ v') B P v' (putL lt l k x) ∧ Chg w (w3.setCell ⟨P, 1, none⟩ v') P v v' := by
  have h2 := h.below hB
  have hP2 := lt_of_heap h2.blk
  have b3 : w3.heap[P]? = some (.cells #[.pointer (some ⟨P, 0, none⟩), v] 158 (0, 0)) := (hg.block P hP2 (fun e => own_ne h e.symm)).trans h2.blk
  have hne : ∀ g, v'.ownBlock = some g → g ≠ P := fun g hg' e => by
    rcases hat with h4 | h4
    · exact own_ne h (by rw [← h4, hg', e])
    · rw [hg'] at h4; have := Option.some.inj h4; omega
  have e : putL lt l k x = l.take (rkB lt (keysOf l) k) ++ (k, x) :: l.drop (rkB lt (keysOf l) k) := by unfold putL; rw [hh]; rfl
  refine ⟨⟨h.hP, ?_, ?_, asc_put kord h.asc k x, ?_⟩, ⟨?_, fun g hg' => ?_⟩⟩
  · rw [heap_setCell_same w3 P 1 _ _ v' b3]; rfl
  · rw [set_len, hh, e]
    exact owns_of_block ho fun g hg' => Below.heap_setCell w3 _ _ g (hne g hg')
  · rw [set_len, hh]; simp; omega
  · exact ((But.of_below (F := fun b => b = P ∨ v.ownBlock = some b) hB).trans ((But.of_grown hg (fun b hb => Or.inr hb)))).setCell (Or.inl (Or.inl rfl)) _
  · rcases hat with h4 | h4
    · exact Or.inl (by rw [← h4, hg'])
    · rw [hg'] at h4; have := Option.some.inj h4; have := hB.size; exact Or.inr (by omega)

abbrev cellsOf (k : K) (x : V) : Obj := .cells #[(.int .u8 (k)), .int .i64 x.1, .string x.2] 164
/-- Insert as Set calls it. -/
theorem set_ins {w w1 : World} {B P r n c : Nat} {A : Option Addr} {l : List (K × V)} (k : K) (x : V) (h : Own w B P (.slice A l.length c) l) (hn : n = l.length) (hB : Below w.heap.size w w1) (hr : r ≤ n) :
    Calls Try.prog 111 #[.slice A n c, .int .i64 (r : Nat), .slice (some ⟨w1.heap.size, 0, none⟩) 1 1] (w1.alloc (cellsOf k x)) fun e w3 => ∃ A' c', e = .returned (.slice A' (n + 1) c') ∧
      Hid (w3.ownsRow B 164 3 (.slice A' (n + 1) c') (l.length + 1) (flat (l.take r ++ (k, x) :: l.drop r)) ∧ (w1.alloc (cellsOf k x)).grownBy w3 (Value.slice A l.length c).ownBlock ∧ ((Value.slice A' (n + 1) c').ownBlock = (Value.slice A l.length c).ownBlock ∨ (Value.slice A' (n + 1) c').ownBlock = some (w1.alloc (cellsOf k x)).heap.size)) ∧
      w3.cell? ⟨P, 1, none⟩ = some (.slice A n c) ∧ w3.frozen? ⟨P, 1, none⟩ = false ∧ w1.heap.size < w3.heap.size ∧ ∀ b, w.heap.size ≤ b → b < w1.heap.size → w3.heap[b]? = w1.heap[b]? := by
  subst hn
  have hB2 := hB.alloc hB.size (cellsOf k x)
  have h2 := h.below hB2
  have hBw : B ≤ w.heap.size := by have := h.hP; have := lt_of_heap h.blk; omega
  refine (ins_any B w1.heap.size r _ l (k, x) _ h2.own (Nat.le_trans hBw hB2.size) hr (heap_alloc_new w1 _) (fun e => by have := (h.own.lt _ e).2; have := hB.size; omega) h.len).mono ?_
  rintro e w3 ⟨v', rfl, ho, hg, hat⟩
  have b3 := (hg.block P (lt_of_heap h2.blk) (fun e => own_ne h e.symm)).trans h2.blk
  obtain ⟨A', c', rfl, _⟩ := owns_it (length_ins _ _ _ hr) ho
  exact ⟨A', c', rfl, ⟨ho, hg, hat⟩, (cell_of_row w3 P 1 _ _ (0, 0) b3).trans rfl, frozen_of_row w3 P 1 _ _ b3, by have := hg.size; simp at this; omega, fun b h1 h2 => (hg.block b (by simp; omega) (fun e => by have := (h.own.lt _ e.symm).2; omega)).trans (Below.heap_alloc _ _ _ h2)⟩
set_option maxRecDepth 100000 in
set_option maxHeartbeats 4000000 in
theorem set_new (B P : Nat) (v : Value) (l : List (K × V)) (k : K) (x : V) (w : World) (h : Own w B P v l) (hh : hasB lt (keysOf l) k = false) (hlen : l.length < 1000000) :
    Calls Try.prog 44 #[.pointer (some ⟨P, 0, none⟩), (.int .u8 (k)), (.agg #[.int .i64 (x).1, .string (x).2])] w (SetOf w B P v l k x) := by
  have hb := ((Below.refl w.heap.size w).alloc (Nat.le_refl _) (.cells #[.int .i64 x.1, .string x.2] 87)).alloc (by simp) (.cells #[.int .i64 0, .string ⟨#[]⟩] 87) |>.alloc (by simp; omega) (.cells #[.int .i64 0, .string ⟨#[]⟩] 87)
  obtain ⟨W, hW⟩ : ∃ W, W = ((w.alloc (.cells #[.int .i64 x.1, .string x.2] 87)).alloc (.cells #[.int .i64 0, .string ⟨#[]⟩] 87)).alloc (.cells #[.int .i64 0, .string ⟨#[]⟩] 87) := ⟨_, rfl⟩
  rw [← hW] at hb
  have h' := h.below hb
  obtain ⟨A, c, rfl, hHas⟩ := h'.has
  have g0 := Lib.hid hHas
  have gO := Lib.hid h
  have gh := Lib.hid hh
  have gl := Lib.hid hlen
  have hc := hHas.cap
  have hv0 : W.cell? ⟨P, 0, none⟩ = some (.pointer (some ⟨P, 0, none⟩)) := (cell_of_row W P 0 _ _ (0, 0) h'.blk).trans rfl
  have hv1 : W.cell? ⟨P, 1, none⟩ = some (.slice A l.length c) := (cell_of_row W P 1 _ _ (0, 0) h'.blk).trans rfl
  have hPw : P < w.heap.size := lt_of_heap h.blk
  have hPW := lt_of_cell hv0
  obtain ⟨r, hr⟩ : ∃ r, r = rkB lt (keysOf l) k := ⟨_, rfl⟩
  have hrl : r ≤ l.length := by rw [hr]; have := rkB_le (lt := lt) (keysOf l) k; simpa using this
  have gr := Lib.hid hr
  obtain ⟨n, hn⟩ : ∃ n, n = l.length := ⟨_, rfl⟩
  have gn := Lib.hid hn
  have hrn : r ≤ n := by omega
  rw [← hn] at hv1 hc
  have gb := Lib.hid hb
  have gW := Lib.hid hW
  have gs := Lib.hid (show W.heap.size = w.heap.size + 3 by rw [hW]; simp)
  have x0 : W.cell? ⟨w.heap.size, 0, none⟩ = some (.int .i64 x.1) := by rw [hW]; exact (World.cell?_alloc_lt _ _ ⟨w.heap.size, 0, none⟩ (by simp; omega)).trans (World.cell?_alloc2_first _ _ _ 0)
  have x1 : W.cell? ⟨w.heap.size, 1, none⟩ = some (.string x.2) := by rw [hW]; exact (World.cell?_alloc_lt _ _ ⟨w.heap.size, 1, none⟩ (by simp; omega)).trans (World.cell?_alloc2_first _ _ _ 1)
  have gz := Lib.hid (show W.heap[w.heap.size + 1]? = some (.cells #[.int .i64 0, .string ⟨#[]⟩] 87 (0, 0)) by
    have e := heap_alloc_new (w.alloc (.cells #[.int .i64 x.1, .string x.2] 87)) (.cells #[.int .i64 0, .string ⟨#[]⟩] 87)
    rw [World.size_alloc] at e
    rw [hW]; exact (((Below.refl _ _).alloc (Nat.le_refl _) _).block _ (by simp)).trans e)
  have gy := Lib.hid (show W.heap[w.heap.size + 1 + 1]? = some (.cells #[.int .i64 0, .string ⟨#[]⟩] 87 (0, 0)) by
    have e := heap_alloc_new ((w.alloc (.cells #[.int .i64 x.1, .string x.2] 87)).alloc (.cells #[.int .i64 0, .string ⟨#[]⟩] 87)) (.cells #[.int .i64 0, .string ⟨#[]⟩] 87)
    rw [World.size_alloc, World.size_alloc] at e
    rw [hW]; exact e)
  have hs0 : w.heap.size < W.heap.size := by rw [gs.out]; omega
  have hs1 : w.heap.size + 1 < W.heap.size := by rw [gs.out]; omega
  have hs2 : w.heap.size + 1 + 1 < W.heap.size := by rw [gs.out]; omega
  clear h h' hh hHas hr hn hlen hrl hb hW
  go_enter Try.func44, Try.ntmps44
  go_wp2_with (first
    | (go_at_call 109; rw [← gW.out]; refine (valid_any P _ hv0).mono ?_; rintro e w' ⟨rfl, rfl⟩)
    | (go_at_call 110; refine (find_any _ _ c l k _ g0.out).mono ?_; rintro e w1 ⟨rfl, hB⟩; rw [← gr.out, gh.out]
       have gB := Lib.hid hB
       have k2 := (hB.cell hPW).trans hv1
       have j0 := (hB.cell (p := ⟨w.heap.size, 0, none⟩) hs0).trans x0
       have j1 := (hB.cell (p := ⟨w.heap.size, 1, none⟩) hs0).trans x1
       have hsz := hB.size
       clear hB))
  have w0 : w.heap.size < w1.heap.size := by omega
  have w1' : P < w1.heap.size := by omega
  go_region_with (
       go_at_call 111
       refine (set_ins (w1 := w1.drew) k x gO.out gn.out (gb.out.trans (gB.out.mono gb.out.size)).drew hrn).mono ?_
       rintro e w3 ⟨A', c', rfl, gg, k3, k4, k5, k6⟩
       replace k5 : w1.heap.size < w3.heap.size := k5
       replace k6 : ∀ b, w.heap.size ≤ b → b < w1.heap.size → w3.heap[b]? = w1.heap[b]? := k6
       have b1 := (k6 (w.heap.size + 1) (by omega) (by omega)).trans ((gB.out.block _ hs1).trans gz.out)
       have b2 := (k6 (w.heap.size + 1 + 1) (by omega) (by omega)).trans ((gB.out.block _ hs2).trans gy.out)
       have zz0 := (cell_of_row _ _ 0 _ _ (0, 0) b1).trans (show _ = some (Value.int .i64 0) from rfl)
       have zz1 := (cell_of_row _ _ 1 _ _ (0, 0) b1).trans (show _ = some (Value.string ⟨#[]⟩) from rfl)
       have zz2 := frozen_of_row _ _ 0 _ _ b1
       have zz3 := frozen_of_row _ _ 1 _ _ b1
       have yy0 := (cell_of_row _ _ 0 _ _ (0, 0) b2).trans (show _ = some (Value.int .i64 0) from rfl)
       have yy1 := (cell_of_row _ _ 1 _ _ (0, 0) b2).trans (show _ = some (Value.string ⟨#[]⟩) from rfl)
       have n4 : w.heap.size + 1 ≠ P := by omega
       have n5 : P ≠ w.heap.size + 1 := by omega
       have n6 : w.heap.size + 1 + 1 ≠ P := by omega
       have n7 : P ≠ w.heap.size + 1 + 1 := by omega)
  all_goals go_wp2_with fail
  all_goals (
    have hE := set_new_ends (x := x) gO.out ((gb.out.trans (gB.out.mono gb.out.size)).drew.alloc (show w.heap.size ≤ w1.drew.heap.size by show w.heap.size ≤ w1.heap.size; omega) (cellsOf k x)) gh.out gl.out (by rw [← gr.out]; exact gg.out.1) gg.out.2.1 gg.out.2.2
    have hne : (Value.slice A' (n + 1) c').ownBlock ≠ some (w.heap.size + 1) := by
      intro e
      rcases gg.out.2.2 with h | h
      · have := (gO.out.own.lt _ (h.symm.trans e)).2; omega
      · rw [h] at e
        have e := Option.some.inj e
        rw [World.size_alloc] at e
        have e : w1.heap.size + 1 = w.heap.size + 1 := e
        omega
    have hF := box_keeps (box_keeps hE hPw (Nat.le_succ w.heap.size) hne 0 (.int .i64 0)) hPw (Nat.le_succ w.heap.size) hne 1 (.string ⟨#[]⟩)
    clear hE
    obtain ⟨V, hV⟩ : ∃ V, V = (((w3.setCell ⟨P, 1, none⟩ (.slice A' (n + 1) c')).setCell ⟨w.heap.size + 1, 0, none⟩ (.int .i64 0)).setCell ⟨w.heap.size + 1, 1, none⟩ (.string ⟨#[]⟩)) := ⟨_, rfl⟩
    have b4 : V.heap[w.heap.size + 1]? = some (.cells #[.int .i64 0, .string ⟨#[]⟩] 87 (0, 0)) := by
      rw [hV]
      exact box_block ((Below.heap_setCell _ _ _ _ (by show w.heap.size + 1 ≠ P; omega)).trans b1) _ _
    rw [← hV] at hF ⊢
    have r0 := (cell_of_row _ _ 0 _ _ (0, 0) b4).trans (show _ = some (Value.int .i64 0) from rfl)
    have r1 := (cell_of_row _ _ 1 _ _ (0, 0) b4).trans (show _ = some (Value.string ⟨#[]⟩) from rfl)
    have gF := Lib.hid hF
    clear hF hV
    refine bodyPost_ret (v := .tuple #[.agg #[.int .i64 0, .string ⟨#[]⟩], .bool false, .int .i64 0]) ?_ rfl ⟨_, ?_, gF.out⟩
    · rw [results_cell_tmp2 rfl]
      go_simp
    · rw [gh.out]; unfold getL; rw [gh.out]; rfl)
theorem set_any (B P : Nat) (v : Value) (l : List (K × V)) (k : K) (x : V) (w : World) (h : Own w B P v l) (hlen : l.length < 1000000) :
    Calls Try.prog 44 #[.pointer (some ⟨P, 0, none⟩), (.int .u8 (k)), (.agg #[.int .i64 (x).1, .string (x).2])] w (SetOf w B P v l k x) := by
  cases hh : hasB lt (keysOf l) k with
  | true => exact set_has B P v l k x w h hh
  | false => exact set_new B P v l k x w h hh hlen
end Go.Proofs.Ytmjdkmdpegcalaa.BP
