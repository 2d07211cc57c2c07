/- PqueueNil: the walk. -/
import Derived.Test.YtamhfcljicbaiaaQLAll
import Derived.Test.YtamhfcljicbaiaaWorks
namespace Go.Proofs.Ytamhfcljicbaiaa
open Go.RowKit Go.Shelf
attribute [local go_sem] Oper.semAt_some

/-- The two queues of the law. -/
def nilP (z k : Nat) : Option Addr := match k with | 0 => none | _ => some ⟨z, 0, none⟩
structure NilAt (w W : World) : Prop where
  bR : Boxed W w.heap.size 4 (.bool false)
  c0 : W.cell? ⟨w.heap.size + 1, 0, none⟩ = some (.pointer none)
  row : ∀ k, k < 2 → W.cell? ⟨w.heap.size + 1 + 1, k, none⟩ = some (.pointer (nilP (w.heap.size + 1) k))
  bel : Below w.heap.size w W
theorem NilAt.below {w W W' : World} (h : NilAt w W) (hb : Below W.heap.size W W') : NilAt w W' :=
  ⟨(hb.block _ h.bR.lt).trans h.bR, (hb.cell (QI.lt_of_cell h.c0)).trans h.c0, fun k hk => (hb.cell (QI.lt_of_cell (h.row k hk))).trans (h.row k hk), h.bel.trans (hb.mono h.bel.size)⟩
theorem NilAt.bad {w W : World} (h : NilAt w W) (k : Nat) : QL.Bad W (nilP (w.heap.size + 1) k) := by
  cases k with
  | zero => exact Or.inl rfl
  | succ k => exact Or.inr ⟨_, rfl, h.c0⟩
theorem zero53 : Try.zeroCells53[0]? = some (.pointer none) := by kernel_rfl
theorem nil_start (w : World) : NilAt w (((w.alloc (.cells #[.bool false] 4)).alloc (.cells Try.zeroCells53 53)).alloc (.cells #[.pointer none, .pointer (some ⟨w.heap.size + 1, 0, none⟩)] 24)) := by
  have h1 : (((w.alloc (.cells #[.bool false] 4)).alloc (.cells Try.zeroCells53 53)).alloc (.cells #[.pointer none, .pointer (some ⟨w.heap.size + 1, 0, none⟩)] 24)).heap[w.heap.size + 1]? = some (.cells Try.zeroCells53 53 (0, 0)) := by
    have := World.alloc_heap_new (w.alloc (.cells #[.bool false] 4)) (.cells Try.zeroCells53 53)
    rw [World.size_alloc] at this
    exact (Below.heap_alloc _ _ _ (by simp)).trans this
  have h2 : (((w.alloc (.cells #[.bool false] 4)).alloc (.cells Try.zeroCells53 53)).alloc (.cells #[.pointer none, .pointer (some ⟨w.heap.size + 1, 0, none⟩)] 24)).heap[w.heap.size + 1 + 1]? = some (.cells #[.pointer none, .pointer (some ⟨w.heap.size + 1, 0, none⟩)] 24 (0, 0)) := by
    have := World.alloc_heap_new ((w.alloc (.cells #[.bool false] 4)).alloc (.cells Try.zeroCells53 53)) (.cells #[.pointer none, .pointer (some ⟨w.heap.size + 1, 0, none⟩)] 24)
    simpa only [World.size_alloc] using this
  refine ⟨((Boxed.new w 4 (.bool false)).alloc _).alloc _, (cell_of_row _ _ 0 _ _ (0, 0) h1).trans zero53, fun k hk => ?_, (((Below.refl _ w).alloc (Nat.le_refl _) _).alloc (by simp) _).alloc (by simp; omega) _⟩
  rw [cell_of_row _ _ k _ _ (0, 0) h2]
  rcases k with _ | _ | k
  · rfl
  · rfl
  · omega
theorem split_rest {F : Fence} {n : Nat} {P : Program} {c : Code} {Q : Exit → Act → World → Prop} {a : Act} {w : World} (R : Nat → World → Prop)
    (hR : ∀ D W, R D W → Q .normal { a with defers := { target := .collected D, args := #[] } :: a.defers } W)
    (hL : (∀ D W, R D W → Q .normal { a with defers := { target := .collected D, args := #[] } :: a.defers } W) → c.wpIn F n P Q a w) : c.wpIn F n P Q a w := hL hR
theorem leaves2 {F : Fence} {n : Nat} {P : Program} {fn : Func} {tmps : Array Value} {R : Ending → World → Prop} {w W : World} {D2 D1 : Nat} (h2 : W.heap[D2]? = some (.deferred (some []))) (h1 : W.heap[D1]? = some (.deferred (some [])))
    (d12 : D1 < D2) (hw : w.heap.size < D1) (bR : Boxed W w.heap.size 4 (.bool true)) (hB : Below w.heap.size w W) (hend : ∀ WF, Below w.heap.size w WF → WF.cell? ⟨w.heap.size, 0, none⟩ = some (.bool true) → LeavesInM F n P fn tmps R [] .returning WF) :
    LeavesInM F n P fn tmps R [{ target := .collected D2, args := #[] }, { target := .collected D1, args := #[] }] .returning W := by
  have b2 : Below w.heap.size W (W.putObj D2 (.deferred none)) := belowK_b (w := w) (Nat.le_refl _) _ _ _ _ (by omega) h2 rfl rfl
  have h1' : (W.putObj D2 (.deferred none)).heap[D1]? = some (.deferred (some [])) := (World.putObj_heap_other (by omega)).trans h1
  have b1 : Below w.heap.size (W.putObj D2 (.deferred none)) ((W.putObj D2 (.deferred none)).putObj D1 (.deferred none)) := belowK_b (w := w) (Nat.le_refl _) _ _ _ _ (by omega) h1' rfl rfl
  have r1 : Boxed (W.putObj D2 (.deferred none)) w.heap.size 4 (.bool true) := (World.putObj_heap_other (by omega)).trans bR
  have r2 : Boxed ((W.putObj D2 (.deferred none)).putObj D1 (.deferred none)) w.heap.size 4 (.bool true) := (World.putObj_heap_other (by omega)).trans r1
  refine ⟨by simp, .inl ⟨_, _, rfl, run_takeDeferred h2, ?_⟩⟩
  refine ⟨by simp, .inl ⟨_, _, rfl, run_takeDeferred h1', ?_⟩⟩
  exact hend _ ((hB.trans b2).trans b1) r2.cell
set_option maxRecDepth 1000000 in
set_option maxHeartbeats 8000000 in
theorem pqueueNil_walk (a0 : Int) (a1 : Int) (w : World) (_w0 : (Lit.int .i64 a0).wf = true) (_w1 : (Lit.int .i64 a1).wf = true) :
    Calls Try.prog 4 #[.int .i64 a0, .int .i64 a1] w fun e w' => e = .returned (.bool true) ∧ Below w.heap.size w w' := by
  refine (callsIn_wide (n := 6)).1 ?_
  refine callsIn_of_wp_marks Try.func4 rfl trivial ?_ rfl
  simp only [Try.ntmps4, List.size_toArray, List.length_cons, List.length_nil, Nat.reduceAdd, Nat.reduceSub, Array.replicate_succ, Array.replicate_zero, List.push_toArray, List.append_toArray, List.nil_append, List.cons_append]
  have t1 : Fence.wide.fn 18 := trivial
  have t2 : Fence.wide.fn 28 := trivial
  have t3 : Fence.wide.fn 29 := trivial
  have t4 : Fence.wide.fn 20 := trivial
  have t5 : Fence.wide.fn 14 := trivial
  have t6 : Fence.wide.fn 16 := trivial
  have t7 : Fence.wide.fn 30 := trivial
  have t8 : Fence.wide.fn 22 := trivial
  have t9 : Fence.wide.fn 27 := trivial
  have t10 : Fence.wide.fn 11 := trivial
  gi_wp2_with fail
  have gA := Lib.hid (nil_start w)
  obtain ⟨W0, hW0⟩ : ∃ W0, W0 = (((w.alloc (.cells #[.bool false] 4)).alloc (.cells Try.zeroCells53 53)).alloc (.cells #[.pointer none, .pointer (some ⟨w.heap.size + 1, 0, none⟩)] 24)) := ⟨_, rfl⟩
  rw [← hW0] at gA
  rw [← hW0]
  clear hW0
  refine wpIn_loop_rounds 3 ?_
  rw [roundsIn_succ]
  have c0 := gA.out.row 0 (by decide)
  have gb := Lib.hid (gA.out.bad 0)
  gi_wp2_with (first
    | (gi_at_call 18; refine (callsIn_wide.2 (QL.remove_bad _ _ _ gb.out)).mono ?_; rintro e w' ⟨rfl, rfl⟩)
    | (gi_at_call 28; refine (callsIn_wide.2 (QL.priority_bad _ _ _ gb.out)).mono ?_; rintro e w' ⟨rfl, rfl⟩)
    | (gi_at_call 29; refine (callsIn_wide.2 (QL.peek_bad _ _ gb.out)).mono ?_; rintro e w' ⟨rfl, rfl⟩)
    | (gi_at_call 20; refine (callsIn_wide.2 (QL.pop_bad _ _ gb.out)).mono ?_; rintro e w' ⟨rfl, rfl⟩)
    | (gi_at_call 14; refine (callsIn_wide.2 (QL.push_bad _ _ _ _ gb.out)).mono ?_; rintro e w' ⟨rfl, rfl⟩)
    | (gi_at_call 16; refine (callsIn_wide.2 (QL.change_bad _ _ _ _ gb.out)).mono ?_; rintro e w' ⟨rfl, rfl⟩)
    | (gi_at_call 30; refine (callsIn_wide.2 (QL.len_bad _ _ gb.out)).mono ?_; rintro e w' ⟨rfl, rfl⟩)
    | (gi_at_call 22; refine (callsIn_wide.2 (QL.copy_bad _ _ gb.out)).mono ?_; rintro e w' ⟨rfl, rfl⟩)
    | (gi_at_call 27; refine (callsIn_wide.2 (QL.all_any _ _)).mono ?_; rintro e w' ⟨rfl, rfl⟩))
  rename_i K0 hK0
  refine split_rest (fun D Y => Below W0.heap.size W0 Y ∧ W0.heap.size ≤ D ∧ Y.heap[D]? = some (.deferred (some []))) ?rest0 (fun hGo => ?loop0)
  case loop0 =>
    have bA := Boxed.new W0 24 (.pointer (nilP (w.heap.size + 1) 0))
    have hBA : Below W0.heap.size W0 (W0.alloc (.cells #[.pointer (nilP (w.heap.size + 1) 0)] 24)) := (Below.refl _ _).alloc (Nat.le_refl _) _
    refine wpIn_rangeFunc_ownF rfl (by omega) (gf := 69) (lb := #[.pointer (some ⟨W0.heap.size, 0, none⟩)]) rfl trivial (enters_of Try.func69 (by kernel_rfl) rfl)
      (QL.all_stops 5 W0.heap.size W0.heap.size _ _ bA.cell (gb.out.below hBA)) belowK_t (belowK_b (by simp)) (Below.refl _ _) (fun _ => rfl)
      (fun (_ : List Unit) Y => Below W0.heap.size W0 Y)
      (fun _ _ _ => False)
      (ownFrom_below (Nat.le_refl _) (by simp))
      (fun _ _ _ _ _ hs _ _ => hs)
      hBA
      ?a0 ?assign0 ?body0 ?done0 ?stop0
    case assign0 =>
      intro l x Y K hK
      unfold QL.encs
      gi_wp2
      exact hK
    case body0 =>
      intro l pre x Y _ hlt
      exact absurd hlt (Nat.not_lt_zero _)
    case stop0 =>
      rintro D c pre Y _ _ h _
      exact h.elim
    case done0 =>
      rintro D ys Y hD _ hB hK
      exact hGo D Y ⟨hB, by simp at hD; omega, hK⟩
  case rest0 =>
    rintro D0 Y ⟨hB0, hD0, hk0⟩
    refine hK0 _ _ ?_
    have gA1 := Lib.hid (gA.out.below hB0)
    have gD0 := Lib.hid hD0
    have gk0 := Lib.hid hk0
    have gW0 := Lib.hid (show w.heap.size < W0.heap.size from gA.out.bR.lt)
    clear gA gb c0 hB0 hD0 hk0 hK0
    gi_wp2_with fail
    rw [roundsIn_succ]
    have c0 := gA1.out.row 1 (by decide)
    have gb := Lib.hid (gA1.out.bad 1)
    gi_wp2_with (first
      | (gi_at_call 18; refine (callsIn_wide.2 (QL.remove_bad _ _ _ gb.out)).mono ?_; rintro e w' ⟨rfl, rfl⟩)
      | (gi_at_call 28; refine (callsIn_wide.2 (QL.priority_bad _ _ _ gb.out)).mono ?_; rintro e w' ⟨rfl, rfl⟩)
      | (gi_at_call 29; refine (callsIn_wide.2 (QL.peek_bad _ _ gb.out)).mono ?_; rintro e w' ⟨rfl, rfl⟩)
      | (gi_at_call 20; refine (callsIn_wide.2 (QL.pop_bad _ _ gb.out)).mono ?_; rintro e w' ⟨rfl, rfl⟩)
      | (gi_at_call 14; refine (callsIn_wide.2 (QL.push_bad _ _ _ _ gb.out)).mono ?_; rintro e w' ⟨rfl, rfl⟩)
      | (gi_at_call 16; refine (callsIn_wide.2 (QL.change_bad _ _ _ _ gb.out)).mono ?_; rintro e w' ⟨rfl, rfl⟩)
      | (gi_at_call 30; refine (callsIn_wide.2 (QL.len_bad _ _ gb.out)).mono ?_; rintro e w' ⟨rfl, rfl⟩)
      | (gi_at_call 22; refine (callsIn_wide.2 (QL.copy_bad _ _ gb.out)).mono ?_; rintro e w' ⟨rfl, rfl⟩)
      | (gi_at_call 27; refine (callsIn_wide.2 (QL.all_any _ _)).mono ?_; rintro e w' ⟨rfl, rfl⟩))
    rename_i K1 hK1
    refine split_rest (fun D X => Below Y.heap.size Y X ∧ Y.heap.size ≤ D ∧ X.heap[D]? = some (.deferred (some []))) ?rest1 (fun hGo => ?loop1)
    case loop1 =>
      have bA := Boxed.new Y 24 (.pointer (nilP (w.heap.size + 1) 1))
      have hBA : Below Y.heap.size Y (Y.alloc (.cells #[.pointer (nilP (w.heap.size + 1) 1)] 24)) := (Below.refl _ _).alloc (Nat.le_refl _) _
      refine wpIn_rangeFunc_ownF rfl (by omega) (gf := 69) (lb := #[.pointer (some ⟨Y.heap.size, 0, none⟩)]) rfl trivial (enters_of Try.func69 (by kernel_rfl) rfl)
        (QL.all_stops 5 Y.heap.size Y.heap.size _ _ bA.cell (gb.out.below hBA)) belowK_t (belowK_b (by simp)) (Below.refl _ _) (fun _ => rfl)
        (fun (_ : List Unit) X => Below Y.heap.size Y X)
        (fun _ _ _ => False)
        (ownFrom_below (Nat.le_refl _) (by simp))
        (fun _ _ _ _ _ hs _ _ => hs)
        hBA
        ?a1 ?assign1 ?body1 ?done1 ?stop1
      case assign1 =>
        intro l x Y K hK
        unfold QL.encs
        gi_wp2
        exact hK
      case body1 =>
        intro l pre x Y _ hlt
        exact absurd hlt (Nat.not_lt_zero _)
      case stop1 =>
        rintro D c pre Y _ _ h _
        exact h.elim
      case done1 =>
        rintro D ys Y hD _ hB hK
        exact hGo D Y ⟨hB, by simp at hD; omega, hK⟩
    case rest1 =>
      rintro D1 Z ⟨hB1, hD1, hk1⟩
      refine hK1 _ _ ?_
      have gA2 := Lib.hid (gA1.out.below hB1)
      have gD1 := Lib.hid hD1
      have gk1 := Lib.hid hk1
      have gk0' := Lib.hid ((hB1.block D0 (QI.lt_of_heap gk0.out)).trans gk0.out)
      have gDD := Lib.hid (show D0 < D1 from Nat.lt_of_lt_of_le (QI.lt_of_heap gk0.out) hD1)
      clear gA1 gb c0 hB1 hD1 hk1 hK1 gk0
      gi_wp2_with fail
      rw [roundsIn_succ]
      gi_wp2_with (gi_at_call 11; refine (callsIn_wide.2 (works_any _)).mono ?_; rintro e w12 ⟨rfl, hBw⟩
                   have g12 := Lib.hid (gA2.out.below hBw)
                   have k1 := Lib.hid ((hBw.block D1 (QI.lt_of_heap gk1.out)).trans gk1.out)
                   have k0 := Lib.hid ((hBw.block D0 (QI.lt_of_heap gk0'.out)).trans gk0'.out)
                   have r1 := g12.out.bR.cell
                   have r2 := g12.out.bR.frozen
                   clear hBw)
      have hwD : w.heap.size < D0 := Nat.lt_of_lt_of_le gW0.out gD0.out
      have hDD := gDD.out
      refine leaves2 (D2 := D1) (D1 := D0) ((Below.heap_setCell w12 ⟨w.heap.size, 0, none⟩ _ D1 (show D1 ≠ w.heap.size by omega)).trans k1.out) ((Below.heap_setCell w12 ⟨w.heap.size, 0, none⟩ _ D0 (show D0 ≠ w.heap.size by omega)).trans k0.out)
        hDD hwD (g12.out.bR.set _) (g12.out.bel.setCell (Nat.le_refl _) _) ?_
      intro WF hb hc
      refine ⟨.bool true, ?_, rfl, hb⟩
      simp [results, Try.results4, go_sem, hc]
end Go.Proofs.Ytamhfcljicbaiaa
