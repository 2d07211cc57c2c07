/- What OrdmapStops asks, ready for the walk. -/
import Derived.Test.YtlfigdembgkkoaaOrder
import Derived.Test.YtlfigdembgkkoaaBut
import Derived.RangeFuncNested
namespace Go.Proofs.Ytlfigdembgkkoaa
open Go.RowKit Go.Maps Go.Shelf Go.Sort Go.Lib

/-- All that OrdmapStops holds at a time. -/
structure StopAt (w w0 W : World) (zM P b n : Nat) (stop : Nat) (v : Value) (l : List (II.K × II.V)) (D : DataW Unit) : Prop where
  two : II.Two w0 W P b n v l D
  bM : Boxed W zM 47 (.map (some b))
  bS : Boxed W w.heap.size 5 (.int .u8 stop)
  bel : Below w.heap.size w W
  len : l.length ≤ 100
section
variable {w w0 W : World} {zM P b n : Nat} {stop : Nat} {v : Value} {l : List (II.K × II.V)} {D : DataW Unit}
theorem StopAt.below {W' : World} (h : StopAt w w0 W zM P b n stop v l D) (hb : Below W.heap.size W W') : StopAt w w0 W' zM P b n stop v l D :=
  ⟨h.two.below hb, (hb.block _ h.bM.lt).trans h.bM, (hb.block _ h.bS.lt).trans h.bS, h.bel.trans (hb.mono h.bel.size), h.len⟩
theorem sat (h : StopAt w w0 W zM P b n stop v l D) (k : Int) (hk : k < 0 ∨ (l.length : Int) ≤ k) :
    Calls Try.prog 29 #[.pointer (some ⟨P, 0, none⟩), .int .i64 k] W fun e w' => e = .returned (.tuple #[.int .i64 0, .int .i64 0, .int .i64 3]) ∧ Hid (StopAt w w0 w' zM P b n stop v l D) ∧ Hid (Below W.heap.size W w') := by
  obtain ⟨A, c, rfl, hh, _⟩ := h.two.own.has_under
  refine (II.at_any P A c l k W hh ((cell_of_row W P 0 _ _ (0, 0) h.two.own.blk).trans rfl) ((cell_of_row W P 1 _ _ (0, 0) h.two.own.blk).trans rfl)).mono ?_
  rintro e w' ⟨rfl, hb⟩
  refine ⟨?_, h.below hb, hb⟩
  unfold II.atV
  rw [if_neg (by omega)]
theorem slen (h : StopAt w w0 W zM P b n stop v l D) : Calls Try.prog 23 #[.pointer (some ⟨P, 0, none⟩)] W fun e w' => e = .returned (.int .i64 (l.length : Nat)) ∧ W = w' := by
  obtain ⟨A, c, rfl, hh, _⟩ := h.two.own.has_under
  exact II.len_any _ A c l W hh
theorem sget (h : StopAt w w0 W zM P b n stop v l D) {x c : Int} (hx : Maps.has D (.int .i64 x) = true) (hat : ∀ zd, D.atKey (.int .i64 x) zd = .lit (.int .i64 c)) :
    Calls Try.prog 28 #[.pointer (some ⟨P, 0, none⟩), .int .i64 x] W fun e w' => e = .returned (.tuple #[.int .i64 c, .bool true]) ∧ Hid (Below W.heap.size W w') := by
  obtain ⟨A, cc, rfl, hh, _⟩ := h.two.own.has_under
  refine (II.get_any _ A cc l x W hh).mono ?_
  rintro e w' ⟨rfl, hb⟩
  refine ⟨?_, hb⟩
  have h1 := (h.two.is.has x).symm.trans hx
  have h2 := (hat _).symm.trans (h.two.is.at_ x)
  simp only [DataW.lit.injEq, Lit.int.injEq, true_and] at h2
  have e1 : hasB II.lt (keysOf l) x = true := h1
  have e2 : getL II.lt l x II.z0 = c := h2.symm
  rw [e1, e2]
end
theorem stop_start {w w1 : World} {P b n : Nat} {stop : Nat} {v : Value} {l : List (II.K × II.V)} {D : DataW Unit} (hT : II.Two (w.alloc (.cells #[.int .u8 stop] 5)) w1 P b n v l D) (hl : l.length ≤ 100) :
    StopAt w (w.alloc (.cells #[.int .u8 stop] 5)) (w1.alloc (.cells #[.map (some b)] 47)) w1.heap.size P b n stop v l D := by
  have h1 : Below w1.heap.size w1 (w1.alloc (.cells #[.map (some b)] 47)) := (Below.refl _ _).alloc (Nat.le_refl _) _
  have hR : Boxed w1 w.heap.size 5 (.int .u8 stop) := (hT.bel.block _ (by simp)).trans (Boxed.new w 5 (.int .u8 stop))
  have hw : Below w.heap.size w w1 := ((Below.refl _ w).alloc (Nat.le_refl _) _).trans (hT.bel.mono (by simp))
  exact ⟨hT.below h1, Boxed.new w1 _ _, hR.alloc _, hw.trans (h1.mono hw.size), hl⟩

/-- A row that is gathered while another one lies beside it. -/
theorem append_two {W w1 : World} {zF zG B2 k m T : Nat} {v v' vF : Value} {xs ys fs : List Value} {tmp : Obj}
    (hv : Boxed W zG 51 v) (hrow : W.ownsRow B2 3 1 v k xs) (hF : Boxed W zF 51 vF) (hFr : W.ownsRow zF 3 1 vF T fs) (hFlt : ∀ g, vF.ownBlock = some g → g < B2)
    (hz : zF < zG) (hB2 : zG < B2) (hB2W : B2 ≤ W.heap.size) (hown' : w1.ownsRow B2 3 1 v' m ys) (hgrow : (W.alloc tmp).grownBy w1 v.ownBlock) :
    Boxed w1 zG 51 v ∧ Boxed (w1.setCell ⟨zG, 0, none⟩ v') zG 51 v' ∧ (w1.setCell ⟨zG, 0, none⟩ v').ownsRow B2 3 1 v' m ys ∧
      Boxed (w1.setCell ⟨zG, 0, none⟩ v') zF 51 vF ∧ (w1.setCell ⟨zG, 0, none⟩ v').ownsRow zF 3 1 vF T fs ∧
      KeepsOthers W (w1.setCell ⟨zG, 0, none⟩ v') ∧ Below zF W (w1.setCell ⟨zG, 0, none⟩ v') := by
  have weak : ∀ {W : World} {v : Value} {k : Nat} {xs : List Value}, W.ownsRow B2 3 1 v k xs → W.ownsRow zF 3 1 v k xs := fun h => ⟨h.1, h.2.imp_right fun ⟨g, cap, cur, e, hb, r⟩ => ⟨g, cap, cur, e, by omega, r⟩⟩
  obtain ⟨h1, h2, _, h4, h5⟩ := hv.appended (by decide) (weak hrow) (by omega) (by omega) (weak hown') hgrow
  have hr2 : (w1.setCell ⟨zG, 0, none⟩ v').ownsRow B2 3 1 v' m ys := hown'.kept (grownBy_setCell' w1 zG v') (.inr (h1.not_row (by decide) hown').symm)
  have hFW : Boxed w1 zF 51 vF := (hF.alloc tmp).kept hgrow (hF.not_row (by decide) hrow)
  refine ⟨h1, h2, hr2, hFW.other (by omega) v', ?_, h4, h5⟩
  refine owns_of_block hFr fun g hg => ?_
  have hgl := (hFr.lt g hg).2
  have hne : g ≠ zG := fun e => by
    have := hv.not_row (by decide) hFr
    rw [hg, e] at this
    exact this rfl
  have e1 : (w1.setCell ⟨zG, 0, none⟩ v').heap[g]? = w1.heap[g]? := Below.heap_setCell w1 ⟨zG, 0, none⟩ v' g hne
  have e2 : w1.heap[g]? = (W.alloc tmp).heap[g]? := hgrow.block g (by simp; omega) (fun e => by have := (hrow.lt g e.symm).1; have := hFlt g hg; omega)
  exact (e1.trans e2).trans (Below.heap_alloc W tmp g hgl)
theorem own_block {β : Type} (B Dk : Nat) (o : Obj) (h : Dk < B) : OwnFrom B (fun (_ : β) X => X.heap[Dk]? = some o) := fun _ _ _ _ hs hg hr =>
  (hg.block Dk (Array.getElem?_eq_some_iff.1 hs).1 (fun e => by have := (hr Dk e.symm).1; omega)).trans hs
theorem own_block2 {β : Type} (B Dk N : Nat) (o : Obj) (h : Dk < B) : OwnFrom B (fun (_ : β) X => X.heap[Dk]? = some o ∧ N ≤ X.heap.size) := fun s X Y row hs hg hr =>
  ⟨own_block B Dk o h s X Y row hs.1 hg hr, Nat.le_trans hs.2 hg.size⟩
theorem range_take {N s : Nat} (h : s ≤ N) : (List.range N).take s = List.range s := by rw [List.take_range, Nat.min_eq_left h]
/-- What the first loop gathered is the beginning of what the second one did. -/
theorem equal_first {W : World} {zF B2 T N cF cG : Nat} {F G : Option Addr} {key : Nat → Int} (hF : W.ownsRow zF 3 1 (.slice F T cF) T ((List.range T).map fun i => Value.int .i64 (key i)))
    (hG : W.ownsRow B2 3 1 (.slice G N cG) N ((List.range N).map fun i => Value.int .i64 (key i))) (hT : T ≤ N) (hN : N ≤ 100) :
    Calls Try.prog 35 #[.slice F T cF, .slice G T cG] W fun e w' => e = .returned (.bool true) ∧ ∃ q, w' = W.drewN q := by
  rcases Nat.eq_zero_or_pos T with h0 | h0
  · subst h0
    refine (Try.slices_Equal_int_empty F G cF 0 cG W (by omega)).mono ?_
    rintro e w' ⟨rfl, rfl⟩
    exact ⟨by simp, 0, by rfl⟩
  · rcases hF.2 with ⟨_, h⟩ | ⟨gF, capF, curF, eF, _⟩
    · omega
    rcases hG.2 with ⟨_, h⟩ | ⟨g, cap, cur, e0, _⟩
    · omega
    have e1 : F = some ⟨gF, 0, none⟩ := by injection eF
    have e2 : G = some ⟨g, 0, none⟩ := by injection e0
    subst e1 e2
    have c1 : ∀ j, j < ((List.range T).map key).length → W.cell? ⟨gF, 0 + j, none⟩ = some (.int .i64 (((List.range T).map key).getD j 0)) := by
      intro j hj
      have hj' : j < T := by simpa using hj
      have := hF.cells (g := gF) rfl j (.int .i64 (key j)) (by simp [hj'])
      rw [II.add_plain, Nat.zero_add] at this
      simpa [List.getD, hj'] using this
    have c2 : ∀ j, j < ((List.range T).map key).length → W.cell? ⟨g, 0 + j, none⟩ = some (.int .i64 (((List.range T).map key).getD j 0)) := by
      intro j hj
      have hj' : j < T := by simpa using hj
      have := hG.cells (g := g) rfl j (.int .i64 (key j)) (by simp [show j < N by omega])
      rw [II.add_plain, Nat.zero_add] at this
      simpa [List.getD, hj'] using this
    refine (Try.slices_Equal_int gF 0 T cF g 0 T cG ((List.range T).map key) ((List.range T).map key) W (by simp) (by simp) (by omega) (by omega) c1 c2).mono ?_
    rintro e w' ⟨rfl, q, rfl⟩
    exact ⟨by simp, q, rfl⟩
theorem exit_to {F : Fence} {n : Nat} {P : Program} {id : Nat} {Q : Exit → Act → World → Prop} {a : Act} {w : World} (h : Exit.inBlock id Q .normal a w) : (Code.exit id).wpIn F n P (Exit.inBlock id Q) a w := by
  refine wpIn_exit ?_
  simpa [Exit.inBlock] using h
theorem put_other {w : World} {a b : Nat} {o o' : Obj} (h : w.heap[b]? = some o) (hne : a ≠ b) : (w.putObj a o').heap[b]? = some o := (World.putObj_heap_other hne.symm).trans h
theorem leaves3 {F : Fence} {n : Nat} {P : Program} {fn : Func} {tmps : Array Value} {R : Ending → World → Prop} {w w12 : World} {D3 D2 Dk : Nat} (h3 : w12.heap[D3]? = some (.deferred (some []))) (h2 : w12.heap[D2]? = some (.deferred (some []))) (h1 : w12.heap[Dk]? = some (.deferred (some [])))
    (d12 : Dk < D2) (d23 : D2 < D3) (hw : w.heap.size ≤ Dk) (hB : Below w.heap.size w w12) (hend : ∀ WF, Below w.heap.size w WF → LeavesInM F n P fn tmps R [] .returning WF) :
    LeavesInM F n P fn tmps R [{ target := .collected D3, args := #[] }, { target := .collected D2, args := #[] }, { target := .collected Dk, args := #[] }] .returning w12 := by
  have b3 : Below w.heap.size w12 (w12.putObj D3 (.deferred none)) := belowK_b (w := w) (Nat.le_refl _) _ _ _ _ (by omega) h3 rfl rfl
  have h2' := put_other (o' := .deferred none) h2 (show D3 ≠ D2 by omega)
  have h1' := put_other (o' := .deferred none) h1 (show D3 ≠ Dk by omega)
  have b2 : Below w.heap.size (w12.putObj D3 (.deferred none)) ((w12.putObj D3 (.deferred none)).putObj D2 (.deferred none)) := belowK_b (w := w) (Nat.le_refl _) _ _ _ _ (by omega) h2' rfl rfl
  have h1'' := put_other (o' := .deferred none) h1' (show D2 ≠ Dk by omega)
  have b1 : Below w.heap.size ((w12.putObj D3 (.deferred none)).putObj D2 (.deferred none)) (((w12.putObj D3 (.deferred none)).putObj D2 (.deferred none)).putObj Dk (.deferred none)) := belowK_b (w := w) (Nat.le_refl _) _ _ _ _ hw h1'' rfl rfl
  refine ⟨by simp, .inl ⟨_, _, rfl, run_takeDeferred h3, ?_⟩⟩
  refine ⟨by simp, .inl ⟨_, _, rfl, run_takeDeferred h2', ?_⟩⟩
  refine ⟨by simp, .inl ⟨_, _, rfl, run_takeDeferred h1'', ?_⟩⟩
  exact hend _ (((hB.trans b3).trans b2).trans b1)
theorem split_rest {F : Fence} {n : Nat} {P : Program} {c : Code} {Q : Exit → Act → World → Prop} {a : Act} {w : World} (R : Nat → World → Prop)
    (hR : ∀ D W, R D W → Q .normal { a with defers := { target := .collected D, args := #[] } :: a.defers } W)
    (hL : (∀ D W, R D W → Q .normal { a with defers := { target := .collected D, args := #[] } :: a.defers } W) → c.wpIn F n P Q a w) : c.wpIn F n P Q a w := hL hR
end Go.Proofs.Ytlfigdembgkkoaa
