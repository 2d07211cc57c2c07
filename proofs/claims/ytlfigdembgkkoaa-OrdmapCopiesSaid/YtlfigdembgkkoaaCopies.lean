/- What OrdmapCopies asks, ready for the walk. -/
import Derived.Test.YtlfigdembgkkoaaEqual
import Derived.Test.YtlfigdembgkkoaaIICopy
import Derived.Test.YtlfigdembgkkoaaIISorted
import Derived.Test.YtlfigdembgkkoaaIIFilled
import Derived.Test.YtlfigdembgkkoaaIIIdx
import Derived.Sort.QuietIn
namespace Go.Proofs.Ytlfigdembgkkoaa
open Go.RowKit Go.Maps Go.Shelf Go.Sort Go.Lib

/-! ### A region that draws, whose calls make memory -/
/-- A world behind X in which all that lay in X lies as it lay. -/
structure After (X : World) where
  w : World
  below : Below X.heap.size X w
instance {X : World} : Nonempty (After X) := ⟨⟨X, Below.refl _ _⟩⟩
theorem wpIn_region_after {F : Fence} {n : Nat} {P : Program} {id : Nat} {Q : Exit → Act → World → Prop} {a : Act} {X : World} {l : List Oper} (hro : F.round = none) (hm : P.follows .mixedOrders = true) (hB : Region.lexB .any l.toArray = true)
    (h : wpQuietIn F n P l.toArray (fun w' => ∃ y : After X, w' = y.w) (fun a' => ∀ w', (∃ y : After X, w' = y.w) → Q .normal a' w') l a) : (Code.region id l.toArray true).wpIn F n P Q a X :=
  wpIn_region_quiet (C := fun w' => ∃ y : After X, w' = y.w) hro hm hB ⟨⟨_, below_drewN (Below.refl _ X) 1⟩, rfl⟩ (by simpa using h)
theorem After.ends {X w' : World} {y : After X} {e : Ending} {v : Value} (h : e = .returned v ∧ Below y.w.heap.size y.w w') : e = .returned v ∧ ∃ z : After X, w' = z.w :=
  ⟨h.1, ⟨w', y.below.trans (h.2.mono y.below.size)⟩, rfl⟩

/-! ### Keys of sixteen bits -/
def Keys16 (l : List (II.K × II.V)) : Prop := ∀ x ∈ l, II.K16 x.1
theorem fills_asc : ∀ (cs : List II.C) (l : List (II.K × II.V)), Asc II.lt (keysOf l) → Asc II.lt (keysOf (II.fills l cs))
  | [], _, h => h
  | c :: cs, l, h => fills_asc cs (II.fstep l c) (by
      unfold II.fstep
      split
      · exact asc_del h _
      · exact asc_put II.kord h _ _)
theorem keys_step {l : List (II.K × II.V)} (ha : Asc II.lt (keysOf l)) (h : Keys16 l) {c : II.C} (hc : II.K16 c.2.1) : Keys16 (II.fstep l c) := by
  intro x hx
  unfold II.fstep at hx
  split at hx
  · exact h x ((mem_del II.kord ha _ x).1 hx).1
  · rcases (mem_put II.kord ha _ _ x).1 hx with rfl | ⟨h1, _⟩
    · exact hc
    · exact h x h1
theorem fills_keys : ∀ (cs : List II.C) (l : List (II.K × II.V)), Asc II.lt (keysOf l) → Keys16 l → (∀ c ∈ cs, II.K16 c.2.1) → Keys16 (II.fills l cs)
  | [], _, _, h, _ => h
  | c :: cs, l, ha, h, hc => fills_keys cs (II.fstep l c) (fills_asc [c] l ha) (keys_step ha h (hc c (List.mem_cons_self ..))) fun d hd => hc d (List.mem_cons_of_mem _ hd)
theorem fill_keys {cs : List II.C} (hc : ∀ c ∈ cs, II.K16 c.2.1 ∧ II.K16 c.2.2) : Keys16 (II.fill cs) :=
  fills_keys _ [] List.Pairwise.nil (fun _ h => by cases h) fun c h => (hc c (List.mem_of_mem_take h)).1
theorem has_far {l : List (II.K × II.V)} (ha : Asc II.lt (keysOf l)) (h : Keys16 l) : hasB II.lt (keysOf l) (70000 : Int) = false := by
  cases hh : hasB II.lt (keysOf l) (70000 : Int) with
  | false => rfl
  | true =>
    obtain ⟨v, hv⟩ := (has_iff II.kord ha _).1 hh
    have := h _ hv
    unfold II.K16 at this
    omega
/-! ### What the loop over All gathers in a Go map -/
theorem put_snoc {l : List (II.K × II.V)} {k : Int} {v : Int} (hk : ∀ x ∈ l, (x.1 : Int) < k) (ha : Asc II.lt (keysOf l)) : putL II.lt l k v = l ++ [(k, v)] := by
  have hh : hasB II.lt (keysOf l) k = false := by
    cases h : hasB II.lt (keysOf l) k with
    | false => rfl
    | true =>
      obtain ⟨u, hu⟩ := (has_iff II.kord ha _).1 h
      exact absurd (hk _ hu) (Int.lt_irrefl _)
  have hr : rkB II.lt (keysOf l) k = l.length := by
    have h1 := rkB_le (lt := II.lt) (keysOf l) k
    rcases Nat.lt_or_ge (rkB II.lt (keysOf l) k) (keysOf l).length with h2 | h2
    · have h3 := rkB_iff II.kord ha k h2
      have h4 := hk (l[rkB II.lt (keysOf l) k]'(by simpa using h2)) (List.getElem_mem _)
      simp [keysOf, II.lt] at h3
      simp only [keysOf] at h4
      exact absurd h4 (Int.not_lt.2 h3)
    · simp at h1 h2
      omega
  unfold putL
  rw [hh, hr]
  simp
theorem got_take {l : List (II.K × II.V)} (ha : Asc II.lt (keysOf l)) : ∀ k, k ≤ l.length → II.gotL l (List.range k) = l.take k := by
  intro k
  induction k with
  | zero => intro _; simp [II.gotL]
  | succ k ih =>
    intro hk
    rw [List.range_succ, II.gotL_snoc, ih (by omega), II.itemAt_eq (show k < l.length by omega)]
    have hp := II.asc_keys ha
    rw [put_snoc, ← List.take_append_getElem (by omega)]
    · intro x hx
      obtain ⟨j, hj, rfl⟩ := List.mem_iff_getElem.1 hx
      rw [List.length_take] at hj
      rw [List.getElem_take]
      have := List.pairwise_iff_getElem.1 hp j k (by simp; omega) (by simp; omega) (by omega)
      simpa [keysOf] using this
    · unfold keysOf
      rw [List.map_take]
      exact List.Pairwise.sublist (List.take_sublist _ _) ha
/-! ### maps.Equal -/
def eqdI : DataW Unit → DataW Unit → Bool
  | .lit (.int _ a), .lit (.int _ b) => a == b
  | _, _ => false
theorem equalD {w : World} {b1 n1 : Nat} {D1 D2 : DataW Unit} {l : List (Int × Int)} (h1 : w.ownsMap Try.prog 3 (plainElem Try.prog 3) b1 n1 D1) (i1 : MapIs D1 l) (i2 : MapIs D2 l) : Lib.equalFuncD eqdI D1 D2 = true := by
  unfold Lib.equalFuncD
  rw [decide_eq_true (i1.size.trans i2.size.symm), Bool.true_and]
  obtain ⟨es, rfl, hko⟩ := h1.keysOf
  obtain ⟨es', e, hap⟩ := i1.tidy
  obtain rfl : es = es' := by injection e
  refine List.all_eq_true.2 fun p hp => ?_
  obtain ⟨v, hv⟩ := hko p hp
  obtain ⟨x, _, hx, _⟩ := Go.Maps.keyOf_i64 Try.underlying3 hv
  have hk : WideAt.IsKeyLit p.1 := by rw [hx]; exact isKeyLit x
  have hhas : Maps.has (DataW.map es) p.1 = true := List.any_eq_true.2 ⟨p, hp, WideAt.sameKey_self hk⟩
  have hval : p.2 = (DataW.map es).atKey p.1 (.lit (.int .i64 0)) := (WideAt.atKey_mem _ hk hap hp).symm
  have h2 : Maps.has D2 p.1 = true := by
    rw [hx] at hhas ⊢
    rw [i2.has, ← i1.has]
    exact hhas
  unfold Lib.goodD
  rw [h2, Bool.true_and, atKey_indep h2 .nil (.lit (.int .i64 0)), hval, hx, i1.at_, i2.at_]
  simp [eqdI]
theorem equal_maps {w : World} {b1 b2 n1 n2 : Nat} {D1 D2 : DataW Unit} {l : List (Int × Int)} (h1 : w.ownsMap Try.prog 3 (plainElem Try.prog 3) b1 n1 D1) (h2 : w.ownsMap Try.prog 3 (plainElem Try.prog 3) b2 n2 D2) (i1 : MapIs D1 l) (i2 : MapIs D2 l) :
    Calls Try.prog 41 #[.map (some b1), .map (some b2)] w fun e w' => e = .returned (.bool true) ∧ Below w.heap.size w w' := by
  have h := AnyEq.maps_Equal Try.equalII II.law3 (plainElem Try.prog 3) (plainElem Try.prog 3) eqdI b1 b2 n1 n2 D1 D2 w h1 h2 (.int .i64 0) (fun w => II.zero3 w) (.lit (.int .i64 0)) [] (plainElem_int Try.underlying3 (by decide)) (fun W x y xd yd xp yp hx hy => by
    obtain ⟨c, rfl, h1, _⟩ := plainElem_int_inv Try.underlying3 hx
    obtain ⟨d, rfl, h2, _⟩ := plainElem_int_inv Try.underlying3 hy
    obtain rfl : xd = .lit (.int .i64 c) := by simpa using (congrArg Prod.fst h1)
    obtain rfl : yd = .lit (.int .i64 d) := by simpa using (congrArg Prod.fst h2)
    refine ⟨?_, fun _ _ => by rw [eqGuard_at_int]; rfl⟩
    show (binOp .neq 3 (.int .i64 c) (.int .i64 d)).run Try.prog W = _
    simp [go_sem, eqdI, binOp]
    rfl)
  refine h.mono ?_
  rintro e w' ⟨rfl, hg⟩
  rw [equalD h1 i1 i2]
  exact ⟨rfl, hg.os, hg.tape, hg.output, hg.size, fun k hk => hg.block k hk (by simp)⟩

/-! ### A copy that is changed beside the map and another copy -/
/-- c's map lies at block C, d's at block Dp: of what lay in W3, only what belongs to c may have changed. -/
structure CpAt (W3 W : World) (C Dp : Nat) (vc : Value) (lc : List (II.K × II.V)) (k : Nat) : Prop where
  bel : Below C W3 W
  mid : ∀ j, Dp ≤ j → j < W3.heap.size → W.heap[j]? = W3.heap[j]?
  own : II.Own W C C vc lc
  row : ∀ g, vc.ownBlock = some g → g < Dp ∨ W3.heap.size ≤ g
  keys : Keys16 lc
  len : lc.length ≤ 100 + k
theorem CpAt.below {W3 W W' : World} {C Dp : Nat} {vc : Value} {lc : List (II.K × II.V)} {k : Nat} (h : CpAt W3 W C Dp vc lc k) (hb : Below W.heap.size W W') : CpAt W3 W' C Dp vc lc k := by
  have hC := II.lt_of_heap h.own.blk
  exact ⟨h.bel.trans (hb.mono (Nat.le_of_lt hC)), fun j h1 h2 => (hb.block j (Nat.lt_of_lt_of_le h2 h.bel.size)).trans (h.mid j h1 h2), h.own.below hb, h.row, h.keys, h.len⟩
theorem CpAt.chg {W3 W W' : World} {C Dp : Nat} {vc v' : Value} {lc l' : List (II.K × II.V)} {k k' : Nat} (h : CpAt W3 W C Dp vc lc k) (hCD : C < Dp) (ho : II.Own W' C C v' l') (hc : Chg W W' C vc v') (hk : Keys16 l') (hl : l'.length ≤ 100 + k') :
    CpAt W3 W' C Dp v' l' k' := by
  have hs := h.bel.size
  refine ⟨⟨hc.but.os.trans h.bel.os, hc.but.tape.trans h.bel.tape, hc.but.output.trans h.bel.output, Nat.le_trans hs hc.but.size, fun j hj => ?_⟩, fun j h1 h2 => ?_, ho, fun g hg => ?_, hk, hl⟩
  · have hCW := II.lt_of_heap h.own.blk
    refine (hc.but.block j (by omega) ?_).trans (h.bel.block j hj)
    rintro (e | e)
    · omega
    · have := (owns_lt' h.own.own e).1; omega
  · refine (hc.but.block j (by omega) ?_).trans (h.mid j h1 h2)
    rintro (e | e)
    · omega
    · rcases h.row j e with h3 | h3 <;> omega
  · rcases hc.row g hg with h1 | h1
    · exact h.row g h1
    · exact Or.inr (Nat.le_trans hs h1)
/-- Delete and Set on the copy. -/
theorem cp_del {W3 W : World} {C Dp : Nat} {vc : Value} {lc : List (II.K × II.V)} {k : Nat} (h : CpAt W3 W C Dp vc lc k) (hCD : C < Dp) (x : Int) :
    Calls Try.prog 39 #[.pointer (some ⟨C, 0, none⟩), .int .i64 x] W fun e w' => ∃ u, e = .returned u ∧ Hid (∃ v' l', CpAt W3 w' C Dp v' l' (k + 1)) := by
  refine (II.del_any C C vc lc x W h.own).mono ?_
  rintro e w' ⟨v', rfl, ho, hc⟩
  refine ⟨_, rfl, v', _, h.chg hCD ho hc (fun y hy => h.keys y ((mem_del II.kord h.own.asc x y).1 hy).1) ?_⟩
  have h1 := h.len
  cases hh : hasB II.lt (keysOf lc) x with
  | true => have := II.del_len hh; omega
  | false =>
    have e : delL II.lt lc x = lc := by unfold delL; rw [hh]; rfl
    rw [e]; omega
theorem cp_set {W3 W : World} {C Dp : Nat} {vc : Value} {lc : List (II.K × II.V)} {k : Nat} (h : CpAt W3 W C Dp vc lc k) (hCD : C < Dp) (x y : Int) (hx : II.K16 x) (hk : k ≤ 50) :
    Calls Try.prog 40 #[.pointer (some ⟨C, 0, none⟩), .int .i64 x, .int .i64 y] W fun e w' => ∃ (a : Int) (b : Bool), e = .returned (.tuple #[.int .i64 a, .bool b, .int .i64 0]) ∧ Hid (∃ v' l', CpAt W3 w' C Dp v' l' (k + 1)) := by
  have h1 := h.len
  refine (II.set_any C C vc lc x y W h.own (by omega)).mono ?_
  rintro e w' ⟨v', rfl, ho, hc⟩
  refine ⟨_, _, rfl, v', _, h.chg hCD ho hc (fun z hz => ?_) ?_⟩
  · rcases (mem_put II.kord h.own.asc x y z).1 hz with rfl | ⟨h2, _⟩
    · exact hx
    · exact h.keys z h2
  · rw [II.set_len]
    split <;> omega
theorem cp_get {W : World} {p A : Option Addr} {c : Nat} {l : List (II.K × II.V)} (h : II.Has W p A c l) (ha : Asc II.lt (keysOf l)) (hk : Keys16 l) :
    Calls Try.prog 28 #[.pointer p, .int .i64 70000] W fun e w' => e = .returned (.tuple #[.int .i64 0, .bool false]) ∧ Hid (Below W.heap.size W w') := by
  refine (II.get_any _ A c l 70000 W h).mono ?_
  rintro e w' ⟨rfl, hb⟩
  have hf := has_far ha hk
  refine ⟨?_, hb⟩
  rw [hf, getL_none hf]
  rfl
theorem cop_len {W : World} {B P : Nat} {v : Value} {l : List (II.K × II.V)} (h : II.Own W B P v l) : Calls Try.prog 23 #[.pointer (some ⟨P, 0, none⟩)] W fun e w' => e = .returned (.int .i64 (l.length : Nat)) ∧ W = w' := by
  obtain ⟨A, c, rfl, hh⟩ := h.has
  exact II.len_any _ A c l W hh
theorem eql_none46 (a : Addr) (w : World) : (binOp .eql 46 (.pointer (some a)) (.pointer none)).run Try.prog w = .ok (.bool false) w := by
  have h : ∀ d : Nat, (Op.equalIn (d + 1) 46 (.pointer (some a)) (.pointer none)).run Try.prog w = .ok false w := fun d => by
    simp [Op.equalIn, run_underlying Try.underlying46]
  simp only [binOp]
  simp [Op.equal, Op.maxDepth, h 9999]
/-- The map, the Go map, and the boxes of the call. -/
structure CopAt (w w0 W : World) (zM P b n : Nat) (v : Value) (l : List (II.K × II.V)) (D : DataW Unit) : Prop where
  two : II.Two w0 W P b n v l D
  bM : Boxed W zM 47 (.map (some b))
  bR : Boxed W w.heap.size 4 (.bool false)
  bel : Below w.heap.size w W
  len : l.length ≤ 100
section
variable {w w0 W : World} {zM P b n : Nat} {v : Value} {l : List (II.K × II.V)} {D : DataW Unit}
theorem CopAt.below {W' : World} (h : CopAt w w0 W zM P b n v l D) (hb : Below W.heap.size W W') : CopAt w w0 W' zM P b n v l D :=
  ⟨h.two.below hb, (hb.block _ h.bM.lt).trans h.bM, (hb.block _ h.bR.lt).trans h.bR, h.bel.trans (hb.mono h.bel.size), h.len⟩
end
theorem cop_start {w w1 : World} {P b n : Nat} {v : Value} {l : List (II.K × II.V)} {D : DataW Unit} (hT : II.Two (w.alloc (.cells #[.bool false] 4)) w1 P b n v l D) (hl : l.length ≤ 100) :
    CopAt w (w.alloc (.cells #[.bool false] 4)) (w1.alloc (.cells #[.map (some b)] 47)) w1.heap.size P b n v l D := by
  have h1 : Below w1.heap.size w1 (w1.alloc (.cells #[.map (some b)] 47)) := (Below.refl _ _).alloc (Nat.le_refl _) _
  have hR : Boxed w1 w.heap.size 4 (.bool false) := (hT.bel.block _ (by simp)).trans (Boxed.new w 4 (.bool false))
  have hw : Below w.heap.size w w1 := ((Below.refl _ w).alloc (Nat.le_refl _) _).trans (hT.bel.mono (by simp))
  exact ⟨hT.below h1, Boxed.new w1 _ _, hR.alloc _, hw.trans (h1.mono hw.size), hl⟩
/-- Two copies, one behind the other. -/
theorem cp_start {w3 w4 : World} {C : Nat} {vc : Value} {l : List (II.K × II.V)} (h3 : II.Own w3 C C vc l) (h4 : Below w3.heap.size w3 w4) (hk : Keys16 l) (hl : l.length ≤ 100) :
    CpAt w4 w4 C w3.heap.size vc l 0 :=
  ⟨Below.refl _ _, fun _ _ _ => rfl, h3.below h4, fun _ hg => Or.inl (h3.own.lt _ hg).2, hk, hl⟩
/-! ### The Go map that the loop over All fills -/
def Got (bg : Nat) (l : List (II.K × II.V)) (pre : List Nat) (X : World) : Prop := ∃ Dg : DataW Unit, X.ownsMap Try.prog 3 (plainElem Try.prog 3) bg pre.length Dg ∧ MapIs Dg (II.gotL l pre)
theorem got_asc (l : List (II.K × II.V)) (pre : List Nat) : Asc II.lt (keysOf (II.gotL l pre)) := by
  have h : ∀ (pre : List Nat) (a : List (II.K × II.V)), Asc II.lt (keysOf a) → Asc II.lt (keysOf (pre.foldl (fun a i => putL II.lt a (II.itemAt l i).1 (II.itemAt l i).2) a)) := by
    intro pre
    induction pre with
    | nil => exact fun a h => h
    | cons i pre ih => exact fun a h => ih _ (asc_put II.kord h _ _)
  exact h pre [] List.Pairwise.nil
theorem got_own {B bg : Nat} (l : List (II.K × II.V)) (h : bg < B) : OwnFrom B (Got bg l) := fun _ _ _ _ hs hg hr => by
  obtain ⟨Dg, hm, hi⟩ := hs
  exact ⟨Dg, II.map_keep hm (hg.block bg (II.map_lt hm) (fun e => by have := (hr bg e.symm).1; omega)), hi⟩
theorem got_new (w : World) (l : List (II.K × II.V)) : Got w.heap.size l [] (w.alloc (.map #[] 0)) := ⟨_, World.ownsMap_made _ _ _ _, mapIs_nil⟩
theorem got_keep {bg : Nat} {l : List (II.K × II.V)} {pre : List Nat} {X X' : World} (h : Got bg l pre X) (hb : X'.heap[bg]? = X.heap[bg]?) : Got bg l pre X' := by
  obtain ⟨Dg, hm, hi⟩ := h
  exact ⟨Dg, II.map_keep hm hb, hi⟩
theorem got_all {bg : Nat} {l : List (II.K × II.V)} {X : World} (ha : Asc II.lt (keysOf l)) (h : Got bg l (List.range l.length) X) : ∃ (Dg : DataW Unit) (nn : Nat), X.ownsMap Try.prog 3 (plainElem Try.prog 3) bg nn Dg ∧ MapIs Dg l := by
  obtain ⟨Dg, hm, hi⟩ := h
  rw [got_take ha _ (Nat.le_refl _), List.take_length] at hi
  exact ⟨Dg, _, hm, hi⟩
theorem item_wf {w0 W : World} {P b n : Nat} {v : Value} {l : List (II.K × II.V)} {D : DataW Unit} (h : II.Two w0 W P b n v l D) {kx vx : Int} (hx : (kx, vx) ∈ l) : (Lit.int .i64 kx).wf = true ∧ (Lit.int .i64 vx).wf = true := by
  have hg := getL_mem II.kord h.own.asc hx II.z0
  have hw := (II.item_of h hx).1
  obtain ⟨c, _, hat, hc⟩ := h.map.lookup_int II.law3 Try.underlying47 Try.underlying3 (II.zero3 W) (keyOf_int_mk Try.underlying3 hw)
  have h2 := hat.symm.trans (h.is.at_ kx)
  simp only [DataW.lit.injEq, Lit.int.injEq, true_and] at h2
  have e : c = vx := h2.trans hg.2
  exact ⟨hw, e ▸ hc⟩
/-- The other copy, where it lay. -/
theorem CpAt.other {W3 W : World} {C Dp : Nat} {vc vd : Value} {lc l : List (II.K × II.V)} {k : Nat} (h : CpAt W3 W C Dp vc lc k) (hd : II.Own W3 Dp Dp vd l) : II.Own W Dp Dp vd l :=
  ⟨hd.hP, (h.mid Dp (Nat.le_refl _) (II.lt_of_heap hd.blk)).trans hd.blk, owns_of_block hd.own fun g hg => h.mid g (hd.own.lt g hg).1 (hd.own.lt g hg).2, hd.asc, hd.len⟩
/-- Behind the last Set: the two copies, the result's box, the marks of the two loops. -/
structure EndAt (w W : World) (C Dp : Nat) (vc vd : Value) (lc l : List (II.K × II.V)) (D1 D2 : Nat) : Prop where
  ownC : II.Own W C C vc lc
  ownD : II.Own W Dp Dp vd l
  bR : Boxed W w.heap.size 4 (.bool false)
  bel : Below w.heap.size w W
  k1 : W.heap[D1]? = some (.deferred (some []))
  k2 : W.heap[D2]? = some (.deferred (some []))
theorem EndAt.below {w W W' : World} {C Dp : Nat} {vc vd : Value} {lc l : List (II.K × II.V)} {D1 D2 : Nat} (h : EndAt w W C Dp vc vd lc l D1 D2) (hb : Below W.heap.size W W') : EndAt w W' C Dp vc vd lc l D1 D2 :=
  ⟨h.ownC.below hb, h.ownD.below hb, (hb.block _ h.bR.lt).trans h.bR, h.bel.trans (hb.mono h.bel.size), (hb.block _ (II.lt_of_heap h.k1)).trans h.k1, (hb.block _ (II.lt_of_heap h.k2)).trans h.k2⟩
theorem end_start {w w0 w4 W w' : World} {zM P b n C Dp k D1 D2 : Nat} {v v' vc vd : Value} {l lc : List (II.K × II.V)} {D : DataW Unit} (hA : CopAt w w0 W zM P b n v l D) (hP : CpAt w4 W C Dp vc lc k) (hD : II.Own w4 Dp Dp vd l) (hc : Chg W w' P v v')
    (hw0 : w.heap.size < w0.heap.size) (hPC : P < C) (hvC : ∀ g, v.ownBlock = some g → g < C) (hCD : C < Dp) (h1 : C ≤ D1) (h2 : C ≤ D2) (k1 : W.heap[D1]? = some (.deferred (some []))) (k2 : W.heap[D2]? = some (.deferred (some []))) :
    EndAt w w' C Dp vc vd lc l D1 D2 := by
  have keep : ∀ j, C ≤ j → j < W.heap.size → w'.heap[j]? = W.heap[j]? := fun j hj hl => hc.but.block j hl (by
    rintro (e | e)
    · omega
    · have := hvC j e; omega)
  have low : ∀ j, j ≤ w.heap.size → j < W.heap.size → w'.heap[j]? = W.heap[j]? := fun j hj hl => hc.but.block j hl (by
    have := hA.two.hP
    rintro (e | e)
    · omega
    · have := (hA.two.own.own.lt j e).1; omega)
  have hd := hP.other hD
  refine ⟨⟨hP.own.hP, (keep C (Nat.le_refl _) (II.lt_of_heap hP.own.blk)).trans hP.own.blk, owns_of_block hP.own.own fun g hg => keep g (hP.own.own.lt g hg).1 (hP.own.own.lt g hg).2, hP.own.asc, hP.own.len⟩,
    ⟨hd.hP, (keep Dp (by omega) (II.lt_of_heap hd.blk)).trans hd.blk, owns_of_block hd.own fun g hg => keep g (by have := (hd.own.lt g hg).1; omega) (hd.own.lt g hg).2, hd.asc, hd.len⟩,
    (low _ (Nat.le_refl _) hA.bR.lt).trans hA.bR, ⟨hc.but.os.trans hA.bel.os, hc.but.tape.trans hA.bel.tape, hc.but.output.trans hA.bel.output, Nat.le_trans hA.bel.size hc.but.size, fun j hj => (low j (by omega) (by have := hA.bel.size; omega)).trans (hA.bel.block j hj)⟩,
    (keep D1 h1 (II.lt_of_heap k1)).trans k1, (keep D2 h2 (II.lt_of_heap k2)).trans k2⟩
theorem get_c {w W : World} {C Dp : Nat} {vc vd : Value} {lc l : List (II.K × II.V)} {D1 D2 : Nat} (h : EndAt w W C Dp vc vd lc l D1 D2) (hk : Keys16 lc) :
    Calls Try.prog 28 #[.pointer (some ⟨C, 0, none⟩), .int .i64 70000] W fun e w' => e = .returned (.tuple #[.int .i64 0, .bool false]) ∧ Hid (EndAt w w' C Dp vc vd lc l D1 D2) := by
  obtain ⟨A, c, _, hh⟩ := h.ownC.has
  refine (cp_get hh h.ownC.asc hk).mono ?_
  rintro e w' ⟨rfl, hb⟩
  exact ⟨rfl, h.below hb.out⟩
theorem get_d {w W : World} {C Dp : Nat} {vc vd : Value} {lc l : List (II.K × II.V)} {D1 D2 : Nat} (h : EndAt w W C Dp vc vd lc l D1 D2) (hk : Keys16 l) :
    Calls Try.prog 28 #[.pointer (some ⟨Dp, 0, none⟩), .int .i64 70000] W fun e w' => e = .returned (.tuple #[.int .i64 0, .bool false]) ∧ Hid (EndAt w w' C Dp vc vd lc l D1 D2) := by
  obtain ⟨A, c, _, hh⟩ := h.ownD.has
  refine (cp_get hh h.ownD.asc hk).mono ?_
  rintro e w' ⟨rfl, hb⟩
  exact ⟨rfl, h.below hb.out⟩
theorem leaves2 {F : Fence} {n : Nat} {P : Program} {fn : Func} {tmps : Array Value} {R : Ending → World → Prop} {w W : World} {D2 D1 : Nat} (h2 : W.heap[D2]? = some (.deferred (some []))) (h1 : W.heap[D1]? = some (.deferred (some [])))
    (d12 : D1 < D2) (hw : w.heap.size < D1) (bR : Boxed W w.heap.size 4 (.bool true)) (hB : Below w.heap.size w W) (hend : ∀ WF, Below w.heap.size w WF → WF.cell? ⟨w.heap.size, 0, none⟩ = some (.bool true) → LeavesInM F n P fn tmps R [] .returning WF) :
    LeavesInM F n P fn tmps R [{ target := .collected D2, args := #[] }, { target := .collected D1, args := #[] }] .returning W := by
  have b2 : Below w.heap.size W (W.putObj D2 (.deferred none)) := belowK_b (w := w) (Nat.le_refl _) _ _ _ _ (by omega) h2 rfl rfl
  have h1' : (W.putObj D2 (.deferred none)).heap[D1]? = some (.deferred (some [])) := (World.putObj_heap_other (by omega)).trans h1
  have b1 : Below w.heap.size (W.putObj D2 (.deferred none)) ((W.putObj D2 (.deferred none)).putObj D1 (.deferred none)) := belowK_b (w := w) (Nat.le_refl _) _ _ _ _ (by omega) h1' rfl rfl
  have r1 : Boxed (W.putObj D2 (.deferred none)) w.heap.size 4 (.bool true) := (World.putObj_heap_other (by omega)).trans bR
  have r2 : Boxed ((W.putObj D2 (.deferred none)).putObj D1 (.deferred none)) w.heap.size 4 (.bool true) := (World.putObj_heap_other (by omega)).trans r1
  refine ⟨by simp, .inl ⟨_, _, rfl, run_takeDeferred h2, ?_⟩⟩
  refine ⟨by simp, .inl ⟨_, _, rfl, run_takeDeferred h1', ?_⟩⟩
  exact hend _ ((hB.trans b2).trans b1) r2.cell
end Go.Proofs.Ytlfigdembgkkoaa
