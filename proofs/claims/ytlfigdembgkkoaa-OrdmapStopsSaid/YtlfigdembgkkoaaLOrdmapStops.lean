/- OrdmapStops: the walk. -/
import Derived.Test.YtlfigdembgkkoaaStops
import Derived.Test.YtlfigdembgkkoaaLOrdmapMap
import Derived.Maps.OwnIn
namespace Go.Proofs.Ytlfigdembgkkoaa
open Go.RowKit Go.Maps Go.Shelf Go.Sort Go.Lib
attribute [local go_sem] Oper.semAt_some

set_option maxRecDepth 1000000 in
set_option maxHeartbeats 16000000 in
theorem ordmapStops_walk (A : Option Addr) (n cap : Nat) (cs : List II.C) (key stop : Int) (w : World) (h : II.CS w A n cs) (hcap : n ≤ cap ∧ cap ≤ 9223372036854775807) (_hkey : (Lit.int .i64 key).wf = true) (hstop : (Lit.int .u8 stop).wf = true) :
    Calls Try.prog 7 #[.slice A n cap, .int .i64 key, .int .u8 stop] w fun e w' => e = .returned (.bool true) ∧ Below w.heap.size w w' := by
  obtain ⟨s, rfl, hs⟩ : ∃ s : Nat, stop = (s : Int) ∧ s ≤ 255 := by
    have h := bounds_u8 hstop
    exact ⟨stop.toNat, by omega, by omega⟩
  refine (callsIn_wide (n := 6)).1 ?_
  refine callsIn_of_wp_marks Try.func7 rfl trivial ?_ rfl
  simp only [Try.ntmps7, List.size_toArray, List.length_cons, List.length_nil, Nat.reduceAdd, Nat.reduceSub, Array.replicate_succ, Array.replicate_zero, List.push_toArray, List.append_toArray, List.nil_append, List.cons_append]
  have t1 : Fence.wide.fn 22 := trivial
  have t2 : Fence.wide.fn 34 := trivial
  have t3 : Fence.wide.fn 26 := trivial
  have t4 : Fence.wide.fn 27 := trivial
  have t5 : Fence.wide.fn 29 := trivial
  have t6 : Fence.wide.fn 23 := trivial
  have t7 : Fence.wide.fn 28 := trivial
  have t8 : Fence.wide.fn 10 := trivial
  have t9 : Fence.wide.fn 35 := trivial
  have gC := Lib.hid h
  clear h _hkey hstop
  gi_wp2_with fail
  refine (callsIn_wide.2 (II.filled_any A n cap cs _ (gC.out.below (by go_grown)) hcap)).mono ?_
  rintro e w1 ⟨P, b, rfl, gF⟩
  obtain ⟨n', v, D, hn', hT⟩ := gF.out
  obtain ⟨l, hl⟩ : ∃ l, l = II.fill cs := ⟨_, rfl⟩
  have hl100 : l.length ≤ 100 := by rw [hl]; exact II.fills_len cs 100
  rw [← hl] at hT
  have gO := Lib.hid (stop_start hT hl100)
  have gl100 := Lib.hid hl100
  clear hT hl hl100 gF gC
  gi_wp2_with (first
    | (gi_at_call 34; refine (callsIn_wide.2 (II.from_any _ _ _)).mono ?_; rintro e w2 ⟨rfl, rfl⟩)
    | (gi_at_call 26; refine (callsIn_wide.2 (II.two_any _ _ _)).mono ?_; rintro e w3 ⟨rfl, rfl⟩))
  rename_i K1 hK1
  obtain ⟨i0, hi, hz0, hz1, hz2⟩ := info_parts infoInt
  obtain ⟨r, hr⟩ : ∃ r, r = rkB II.lt (keysOf l) key := ⟨_, rfl⟩
  have hO := gO.out
  obtain ⟨A', c', rfl, hHas, hU⟩ := hO.two.own.has_under
  obtain ⟨w4, hw4⟩ : ∃ w4, w4 = ((w1.alloc (.cells #[.map (some b)] 47)).alloc (.cells #[.pointer (some ⟨P, 0, none⟩)] 46)).alloc (.cells #[.int .i64 key] 3) := ⟨_, rfl⟩
  have hz4 : w4.heap.size = w1.heap.size + 1 + 1 + 1 := by rw [hw4]; simp
  have hB4 : Below (w1.heap.size + 1) (w1.alloc (.cells #[.map (some b)] 47)) w4 := by rw [hw4]; exact ((Below.refl _ _).alloc (by simp) _).alloc (by simp) _
  have gO4 := Lib.hid (hO.below (hB4.mono (by simp)))
  have bP : Boxed w4 (w1.heap.size + 1) 46 (.pointer (some ⟨P, 0, none⟩)) := by
    have h := (Boxed.new (w1.alloc (.cells #[.map (some b)] 47)) 46 (.pointer (some ⟨P, 0, none⟩))).alloc (.cells #[.int .i64 key] 3)
    rw [World.size_alloc] at h
    rw [hw4]; exact h
  have bY : Boxed w4 (w1.heap.size + 1 + 1) 3 (.int .i64 key) := by
    have h := Boxed.new ((w1.alloc (.cells #[.map (some b)] 47)).alloc (.cells #[.pointer (some ⟨P, 0, none⟩)] 46)) 3 (.int .i64 key)
    simp only [World.size_alloc] at h
    rw [hw4]; exact h
  have gbP := Lib.hid bP
  have gbY := Lib.hid bY
  have gH4 := Lib.hid (hHas.below (hB4.mono (by simp)))
  have gU4 := Lib.hid (show II.Under w4.heap.size A' from fun a h => Nat.lt_of_lt_of_le (hU a h) (by rw [hz4]; simp))
  rw [← hw4]
  obtain ⟨zF, hzF⟩ : ∃ zF, zF = w1.heap.size + 1 + 1 + 1 := ⟨_, rfl⟩
  rw [← hzF] at hz4
  rw [← hzF]
  have gr := Lib.hid hr
  clear hO hHas hU hB4 bP bY gO hr hw4
  obtain ⟨m, hm⟩ : ∃ m, m = (l.drop r).length := ⟨_, rfl⟩
  have hm100 : m ≤ 100 := by rw [hm, List.length_drop]; have := gl100.out; omega
  have hml : m ≤ l.length := by rw [hm, List.length_drop]; omega
  have gm := Lib.hid hm
  clear hm
  refine split_rest (fun Dk W => ∃ T v', T = min m s ∧ Boxed W zF 51 v' ∧ W.ownsRow zF 3 1 v' T ((List.range T).map fun i => Value.int .i64 (II.itemAt (l.drop r) i).1) ∧ Boxed W (zF + 1) 51 (.slice none 0 0) ∧ Below zF w4 W ∧ zF ≤ Dk ∧ W.heap[Dk]? = some (.deferred (some []))) ?rest1 (fun hGo => ?loop1)
  case loop1 =>
    have hB6 : Below zF w4 ((w4.alloc (.cells #[.slice none 0 0] 51)).alloc (.cells #[.slice none 0 0] 51)) := ((Below.refl _ w4).alloc (by omega) _).alloc (by simp; omega) _
    have bF := (Boxed.new w4 51 (.slice none 0 0)).alloc (.cells #[.slice none 0 0] 51)
    have bG := Boxed.new (w4.alloc (.cells #[.slice none 0 0] 51)) 51 (.slice none 0 0)
    rw [World.size_alloc, hz4] at bG
    rw [hz4] at bF
    have hseq := II.from_idx 5 zF (w1.heap.size + 1) (w1.heap.size + 1 + 1) (some ⟨P, 0, none⟩) A' c' l key _ ((hB6.cell (p := ⟨w1.heap.size + 1, 0, none⟩) (show w1.heap.size + 1 < zF by omega)).trans gbP.out.cell) ((hB6.cell (p := ⟨w1.heap.size + 1 + 1, 0, none⟩) (show w1.heap.size + 1 + 1 < zF by omega)).trans gbY.out.cell) (gH4.out.below (hB6.mono (by omega))) (hz4 ▸ gU4.out) (by simp; omega)
    rw [← gr.out, ← gm.out] at hseq
    have q0 : zF ≤ w4.heap.size := by omega
    have q2 : w4.heap.size ≤ zF := by omega
    have q1 : zF ≤ ((w4.alloc (.cells #[.slice none 0 0] 51)).alloc (.cells #[.slice none 0 0] 51)).heap.size := by simp; omega
    have gz4 := Lib.hid hz4
    have gzF := Lib.hid hzF
    clear hz4 hzF
    refine wpIn_rangeFunc_ownG rfl (by omega) (gf := 105) (lb := #[.pointer (some ⟨w1.heap.size + 1, 0, none⟩), .pointer (some ⟨w1.heap.size + 1 + 1, 0, none⟩)]) rfl trivial (enters_of Try.func105 (by kernel_rfl) rfl)
      hseq belowK_t (belowK_b q1) (Below.refl _ _) (fun _ => rfl)
      (fun (pre : List Nat) W => ((∃ v', Boxed W zF 51 v' ∧ W.ownsRow zF 3 1 v' pre.length (pre.map fun i => Value.int .i64 (II.itemAt (l.drop r) i).1) ∧ pre.length ≤ s) ∧ Boxed W (zF + 1) 51 (.slice none 0 0)) ∧ Below zF w4 W)
      (fun c (pre : List Nat) W => ((∃ v', Boxed W zF 51 v' ∧ W.ownsRow zF 3 1 v' s ((pre.take s).map fun i => Value.int .i64 (II.itemAt (l.drop r) i).1) ∧ pre.length = s + 1 ∧ c = .exit 0) ∧ Boxed W (zF + 1) 51 (.slice none 0 0)) ∧ Below zF w4 W)
      (OwnFrom.and (OwnFrom.and (Own.from (holdsRow_own zF zF 51 3 1 (fun pre : List Nat => pre.length) (fun pre : List Nat => pre.map fun i => Value.int .i64 (II.itemAt (l.drop r) i).1) (fun pre _ => pre.length ≤ s)) _) (Own.from (boxed_own (zF + 1) 51 (fun _ : List Nat => .slice none 0 0)) _)) (ownFrom_below q0 q1))
      (fun c => OwnFrom.and (OwnFrom.and (Own.from (holdsRow_own zF zF 51 3 1 (fun _ : List Nat => s) (fun pre : List Nat => (pre.take s).map fun i => Value.int .i64 (II.itemAt (l.drop r) i).1) (fun pre _ => pre.length = s + 1 ∧ c = .exit 0)) _) (Own.from (boxed_own (zF + 1) 51 (fun _ : List Nat => .slice none 0 0)) _)) (ownFrom_below q0 q1))
      ⟨⟨⟨_, bF, World.ownsRow_nil _ _ _ _, Nat.zero_le _⟩, bG⟩, hB6⟩
      ?a1 ?assign ?body ?done ?stop
    case assign =>
      intro l x W K hK
      unfold II.encAt II.encs
      gi_wp2
      exact hK
    case stop =>
      rintro Dk c pre W hD ⟨hp, hpl⟩ ⟨⟨⟨v', hv, hrow, he, rfl⟩, hG⟩, hB⟩ hK
      refine exit_to (hGo Dk W ⟨s, v', by omega, hv, ?_, hG, hB, Nat.le_trans q1 hD, hK⟩)
      rw [hp, range_take (by omega)] at hrow
      exact hrow
    case done =>
      rintro Dk ys W hD rfl ⟨⟨⟨v', hv, hrow, he⟩, hG⟩, hB⟩ hK
      rw [List.length_range] at hrow he
      exact hGo Dk W ⟨m, v', by omega, hv, hrow, hG, hB, Nat.le_trans q1 hD, hK⟩
    case body =>
      rintro l' pre i W ⟨⟨⟨v', hv, hrow, hps⟩, hG⟩, hB⟩ hlt
      have gW := gO4.out.below (hB.mono q2)
      obtain ⟨F, cF, rfl⟩ := row_shape hrow
      have hc := hv.cell
      have cS := gW.bS.cell
      have cM := gW.bM.cell
      have gv := Lib.hid hv
      have grow := Lib.hid hrow
      have gB := Lib.hid hB
      have gG := Lib.hid hG
      by_cases hst : pre.length = s
      · subst hst
        clear hlt hseq q0 q1 q2 hv hrow hB hG
        gi_wp2_with fail
        exact ⟨KeepsFrom.refl _ _, ⟨⟨_, gv.out, by simpa using grow.out, by simp, rfl⟩, gG.out⟩, gB.out⟩
      · have hlt2 : pre.length < s := by omega
        have hst' : ¬ ((pre.length : Int) = (s : Int)) := by omega
        have hgt : ¬ ((l.length : Int) < (pre.length : Int)) := by omega
        have ql := fun ty => gW.two.map.len Try.underlying47 ty
        rw [gW.two.is.size] at ql
        have hle : pre.length < 100 := by omega
        have gq0 := Lib.hid q0
        clear hlt hseq q0 q1 q2 hv hrow hB hG gW hst
        gi_wp2_with (gi_at_builtin; refine wpListIn_append_own _ rfl _ _ 51 rfl zF 3 i0 (.int .i64 0) 1 8 Try.underlying51 hi hz0 hz1 hz2 rfl (by decide) _ _ _ rfl (grow.out.alloc _) ⟨W.heap.size, 0, none⟩ 1 1 [.int .i64 (II.itemAt (l.drop r) i).1] rfl rfl (cell_one_new _ _ _) (by simp [Value.oneCell']) (by unfold maxLen; omega) (by omega) (by have := gB.out.size; have := gq0.out; simp; omega) ?_; intro v'' w10 hown' hgrow _; obtain ⟨g', cap', rfl⟩ := ownsRow_succ hown'; obtain ⟨hv1, hv2, hr2, hk2, hb2⟩ := gv.out.appended (by decide) grow.out (by have := gB.out.size; have := gq0.out; omega) (Nat.le_refl _) hown' hgrow; have hc1 := hv1.cell; have hf1 := hv1.frozen; have hG2 := ((gG.out.alloc _).kept hgrow (gG.out.not_row (by decide) grow.out)).other (show zF + 1 ≠ zF by omega) (.slice (some ⟨g', 0, none⟩) (pre.length + 1) cap'))
        exact ⟨hk2.from _, hb2, ⟨⟨_, hv2, by simpa using hr2, by simp; omega⟩, hG2⟩, gB.out.trans hb2⟩
  case rest1 =>
    rintro Dk W ⟨T, vF, hT, hv, hrow, hG, hB, hDk, hK⟩
    refine hK1 _ _ ?_
    have gO5 := Lib.hid (gO4.out.below (hB.mono (by omega)))
    have gv := Lib.hid hv
    have grow := Lib.hid hrow
    have gB := Lib.hid hB
    have gG := Lib.hid hG
    have gK := Lib.hid hK
    have gz4 := Lib.hid hz4
    have gzF := Lib.hid hzF
    have gDk := Lib.hid hDk
    have gT := Lib.hid hT
    clear hz4 hzF hv hrow hB hG hK hDk hT hK1
    gi_wp2_with (first
      | (gi_at_call 26; refine (callsIn_wide.2 (II.two_any _ _ _)).mono ?_; rintro e w3 ⟨rfl, rfl⟩))
    rename_i K2 hK2
    have hzF := gzF.out
    have hz4 := gz4.out
    have q0 : zF ≤ w4.heap.size := by omega
    have q2 : w4.heap.size ≤ zF := by omega
    have gzG := Lib.hid (gG.out.lt)
    have gzD := Lib.hid (Array.getElem?_eq_some_iff.1 gK.out).1
    have gvl := Lib.hid (fun g hg => (grow.out.lt g hg).2)
    have hBW := gB.out.size
    have hseq := II.from_idx 5 zF (w1.heap.size + 1) (w1.heap.size + 1 + 1) (some ⟨P, 0, none⟩) A' c' l key W ((gB.out.cell (p := ⟨w1.heap.size + 1, 0, none⟩) (show w1.heap.size + 1 < zF by omega)).trans gbP.out.cell) ((gB.out.cell (p := ⟨w1.heap.size + 1 + 1, 0, none⟩) (show w1.heap.size + 1 + 1 < zF by omega)).trans gbY.out.cell) (gH4.out.below (gB.out.mono (by omega))) (gz4.out ▸ gU4.out) (by omega)
    rw [← gr.out, ← gm.out] at hseq
    have q1 : zF ≤ W.heap.size := by omega
    have gq0 := Lib.hid q0
    have gq1 := Lib.hid q1
    have gq2 := Lib.hid q2
    clear hzF hz4 hBW
    refine wpIn_rangeFunc_ownG rfl (by omega) (gf := 105) (lb := #[.pointer (some ⟨w1.heap.size + 1, 0, none⟩), .pointer (some ⟨w1.heap.size + 1 + 1, 0, none⟩)]) rfl trivial (enters_of Try.func105 (by kernel_rfl) rfl)
      hseq belowK_t (belowK_b q1) (Below.refl _ _) (fun _ => rfl)
      (fun (pre : List Nat) X => (((∃ v', Boxed X (zF + 1) 51 v' ∧ X.ownsRow W.heap.size 3 1 v' pre.length (pre.map fun i => Value.int .i64 (II.itemAt (l.drop r) i).1) ∧ True) ∧ (∃ v', Boxed X zF 51 v' ∧ X.ownsRow zF 3 1 v' T ((List.range T).map fun i => Value.int .i64 (II.itemAt (l.drop r) i).1) ∧ v' = vF)) ∧ (X.heap[Dk]? = some (.deferred (some [])) ∧ W.heap.size ≤ X.heap.size)) ∧ Below zF w4 X)
      (fun _ _ _ => False)
      (OwnFrom.and (OwnFrom.and (OwnFrom.and (Own.from (holdsRow_own W.heap.size (zF + 1) 51 3 1 (fun pre : List Nat => pre.length) (fun pre : List Nat => pre.map fun i => Value.int .i64 (II.itemAt (l.drop r) i).1) (fun _ _ => True)) _) (Own.from (holdsRow_own zF zF 51 3 1 (fun _ : List Nat => T) (fun _ : List Nat => (List.range T).map fun i => Value.int .i64 (II.itemAt (l.drop r) i).1) (fun _ v' => v' = vF)) _)) (own_block2 _ _ _ _ gzD.out)) (ownFrom_below q0 q1))
      (fun _ _ _ _ _ hs _ _ => hs)
      ⟨⟨⟨⟨_, gG.out, World.ownsRow_nil _ _ _ _, trivial⟩, ⟨_, gv.out, grow.out, rfl⟩⟩, gK.out, Nat.le_refl _⟩, gB.out⟩
      ?a2 ?assign2 ?body2 ?done2 ?stop2
    case assign2 =>
      intro l x W K hK
      unfold II.encAt II.encs
      gi_wp2
      exact hK
    case stop2 =>
      rintro Dk c pre W _ _ h _
      exact h.elim
    case body2 =>
      rintro l' pre i X ⟨⟨⟨⟨v', hv, hrow, _⟩, ⟨_, hvF, hrF, rfl⟩⟩, hKD, hWX⟩, hB⟩ hlt
      obtain ⟨F, cF, rfl⟩ := row_shape hrow
      have hc := hv.cell
      have hgt : ¬ ((l.length : Int) < (pre.length : Int) + 1) := by omega
      have hle : pre.length < 100 := by omega
      have gv2 := Lib.hid hv
      have grow2 := Lib.hid hrow
      have gvF := Lib.hid hvF
      have grF := Lib.hid hrF
      have gB2 := Lib.hid hB
      have gKD := Lib.hid hKD
      have gWX := Lib.hid hWX
      clear hlt hseq q0 q1 q2 hv hrow hB hvF hrF hKD hWX
      gi_wp2_with (gi_at_builtin; refine wpListIn_append_own _ rfl _ _ 51 rfl W.heap.size 3 i0 (.int .i64 0) 1 8 Try.underlying51 hi hz0 hz1 hz2 rfl (by decide) _ _ _ rfl (grow2.out.alloc _) ⟨X.heap.size, 0, none⟩ 1 1 [.int .i64 (II.itemAt (l.drop r) i).1] rfl rfl (cell_one_new _ _ _) (by simp [Value.oneCell']) (by unfold maxLen; omega) (by omega) (by have := gWX.out; simp; omega) ?_; intro v'' w10 hown' hgrow _; obtain ⟨g', cap', rfl⟩ := ownsRow_succ hown'; obtain ⟨hv1, hv2, hr2, hF2, hFr2, hk2, hb2⟩ := append_two gv2.out grow2.out gvF.out grF.out gvl.out (Nat.lt_succ_self _) gzG.out gWX.out hown' hgrow; have hc1 := hv1.cell; have hf1 := hv1.frozen; have hc2 := hv2.cell; have gW2 := gO4.out.below ((gB2.out.trans hb2).mono gq2.out); have cM2 := gW2.bM.cell; have ql := fun ty => gW2.two.map.len Try.underlying47 ty; rw [gW2.two.is.size] at ql)
      exact ⟨hk2.from _, hb2, ⟨⟨⟨⟨_, hv2, by simpa using hr2⟩, hF2, hFr2⟩, hk2.2 Dk _ gKD.out rfl, Nat.le_trans gWX.out hk2.1⟩, gB2.out.trans hb2⟩⟩
    case done2 =>
      rintro D2 ys X hD rfl ⟨⟨⟨⟨v', hv, hrow, _⟩, ⟨_, hvF, hrF, rfl⟩⟩, hKD, hWX⟩, hB⟩ hKe
      refine hK2 _ _ ?_
      rw [List.length_range] at hrow
      obtain ⟨F, cF, rfl⟩ := row_shape hrF
      obtain ⟨G, cG, rfl⟩ := row_shape hrow
      have gX := Lib.hid (gO4.out.below (hB.mono gq2.out))
      have hTm : T ≤ m := by have := gT.out; omega
      have hmin : min (m : Int) (s : Int) = (T : Int) := by have := gT.out; omega
      have hTc : T ≤ cG := by
        rcases hrow.2 with ⟨e, h0⟩ | ⟨g', cap', cur, e, _, _, hc', _⟩
        · omega
        · have e1 : cG = cap' := by injection e
          omega
      have hsl : ∀ w' : World, (Instr.slice 51 (.slice G m cG) none (some (.int .i64 (T : Int))) none).run Try.prog w' = .ok (.slice G T cG) w' := by
        intro w'
        have i1 : (T : Int) ≤ (m : Int) := by omega
        cases G <;> simp [Instr.slice, run_underlying Try.underlying51, Instr.sliceBounds, Instr.sliceBound, asIntOf, hTc, Addr.add]
      have gEq : ∀ q, Hid (Calls Try.prog 35 #[.slice F T cF, .slice G T cG] (X.drewN q) fun e w' => e = .returned (.bool true) ∧ ∃ q', w' = (X.drewN q).drewN q') := fun q =>
        equal_first (II.owns_below hrF (below_drewN (Below.refl _ _) q)) (II.owns_below hrow (below_drewN (Below.refl _ _) q)) hTm hm100
      have cF0 := hvF.cell
      have cG0 := hv.cell
      have cM0 := gX.out.bM.cell
      have cS0 := gX.out.bS.cell
      have ql := fun k ty => (gX.out.two.below (below_drewN (Below.refl _ _) k)).map.len Try.underlying47 ty
      rw [gX.out.two.is.size] at ql
      have gKD := Lib.hid hKD
      have gKe := Lib.hid hKe
      have gDX := Lib.hid hD
      have gWX := Lib.hid hWX
      have hgt : ¬ ((l.length : Int) < (m : Int)) := by omega
      have hgt2 : ¬ (l.length < m) := by omega
      clear hv hrow hvF hrF hKD hWX hB hKe q0 q1 q2 hseq hD
      gi_wp2_with fail
      gi_quiet (first | (gi_at_call 35; exact callsIn_wide.2 ((gEq _).out.mono fun e w' h => ⟨h.1, h.2.elim fun q' h => ⟨_, h.trans (World.drewN_drewN _ _ _)⟩⟩)))
      have hBn := below_drewN (Below.refl X.heap.size X) nq
      have gX3 := Lib.hid (gX.out.below hBn)
      have gKD3 := Lib.hid ((hBn.block Dk (Array.getElem?_eq_some_iff.1 gKD.out).1).trans gKD.out)
      have gKe3 := Lib.hid ((hBn.block D2 (Array.getElem?_eq_some_iff.1 gKe.out).1).trans gKe.out)
      obtain ⟨W3, hW3⟩ : ∃ W3, W3 = X.drewN nq := ⟨_, rfl⟩
      rw [← hW3]
      rw [← hW3] at gX3 gKD3 gKe3
      clear hBn hW3 gX gKD gKe hsl gEq cF0 cG0 cM0 cS0 ql hgt hgt2 hmin hTc hTm
      gi_wp2_with (first
        | (gi_at_call 27; refine (callsIn_wide.2 (II.all_any _ _)).mono ?_; rintro e w5 ⟨rfl, rfl⟩)
        | (gi_at_call 26; refine (callsIn_wide.2 (II.two_any _ _ _)).mono ?_; rintro e w5 ⟨rfl, rfl⟩))
      rename_i K3 hK3
      refine split_rest (fun D3 Y => Below W3.heap.size W3 Y ∧ W3.heap.size ≤ D3 ∧ Y.heap[D3]? = some (.deferred (some []))) ?rest3 (fun hGo3 => ?loop3)
      case loop3 =>
        have bA := Boxed.new W3 46 (.pointer (some ⟨P, 0, none⟩))
        have hBA : Below W3.heap.size W3 (W3.alloc (.cells #[.pointer (some ⟨P, 0, none⟩)] 46)) := (Below.refl _ _).alloc (Nat.le_refl _) _
        obtain ⟨A3, c3, e3, hH3, hU3⟩ := gX3.out.two.own.has_under
        have hseq := II.all_idx 5 W3.heap.size W3.heap.size (some ⟨P, 0, none⟩) A3 c3 l _ bA.cell (hH3.below hBA) hU3 (by simp)
        refine wpIn_rangeFunc_ownG rfl (by omega) (gf := 94) (lb := #[.pointer (some ⟨W3.heap.size, 0, none⟩)]) rfl trivial (enters_of Try.func94 (by kernel_rfl) rfl)
          hseq belowK_t (belowK_b (by simp)) (Below.refl _ _) (fun _ => rfl)
          (fun (_ : List Nat) Y => Below W3.heap.size W3 Y)
          (fun c (_ : List Nat) Y => c = .exit 4 ∧ Below W3.heap.size W3 Y)
          (ownFrom_below (Nat.le_refl _) (by simp))
          (fun c s X Y row hs hg hr => ⟨hs.1, ownFrom_below (Nat.le_refl _) (by simp) s X Y row hs.2 hg hr⟩)
          hBA
          ?a3 ?assign3 ?body3 ?done3 ?stop3
        case assign3 =>
          intro l x W K hK
          unfold II.encAt II.encs
          gi_wp2
          exact hK
        case stop3 =>
          rintro D3 c pre Y hD _ ⟨rfl, hB⟩ hK
          exact exit_to (hGo3 D3 Y ⟨hB, by simp at hD; omega, hK⟩)
        case done3 =>
          rintro D3 ys Y hD _ hB hK
          exact hGo3 D3 Y ⟨hB, by simp at hD; omega, hK⟩
        case body3 =>
          rintro l' pre i Y hB hlt
          clear hlt hseq
          gi_wp2_with fail
          exact ⟨KeepsFrom.refl _ _, rfl, hB⟩
      case rest3 =>
        rintro D3 Y ⟨hB3, hD3, hKf⟩
        refine hK3 _ _ ?_
        have g4 := Lib.hid (gX3.out.below hB3)
        clear hK3
        gi_wp2_with fail
        refine (callsIn_wide.2 (sat g4.out (-1) (by omega))).mono ?_
        rintro e w6 ⟨rfl, g5, hb5⟩
        gi_wp2_with fail
        refine (callsIn_wide.2 (slen g5.out)).mono ?_
        rintro e w7 ⟨rfl, rfl⟩
        gi_wp2_with fail
        refine (callsIn_wide.2 (sat g5.out l.length (by omega))).mono ?_
        rintro e w8 ⟨rfl, g6, hb6⟩
        have ql := fun k ty => (g6.out.two.below (below_drewN (Below.refl _ _) k)).map.len Try.underlying47 ty
        rw [g6.out.two.is.size] at ql
        have cM6 := g6.out.bM.cell
        clear g4 g5
        gi_wp2_with fail
        gi_quiet (first | (gi_at_call 23; exact CallsIn.quiet_of_same (callsIn_wide.2 ((slen (g6.out.below (below_drewN (Below.refl _ _) _))).mono fun e w' h => ⟨h.1, h.2.symm⟩))))
        have hB9 : Below Y.heap.size Y (w8.drewN nq) := below_drewN (hb5.out.trans (hb6.out.mono hb5.out.size)) nq
        have g9 := Lib.hid (g6.out.below (below_drewN (Below.refl _ _) nq))
        obtain ⟨W9, hW9⟩ : ∃ W9, W9 = w8.drewN nq := ⟨_, rfl⟩
        rw [← hW9]
        rw [← hW9] at hB9 g9
        have kf9 := Lib.hid ((hB9.block D3 (Array.getElem?_eq_some_iff.1 hKf).1).trans hKf)
        have hB39 : Below W3.heap.size W3 W9 := hB3.trans (hB9.mono hB3.size)
        have ke9 := Lib.hid ((hB39.block D2 (Array.getElem?_eq_some_iff.1 gKe3.out).1).trans gKe3.out)
        have kd9 := Lib.hid ((hB39.block Dk (Array.getElem?_eq_some_iff.1 gKD3.out).1).trans gKD3.out)
        have cM9 := g9.out.bM.cell
        have gDD1 := Lib.hid (show Dk < D2 from Nat.lt_of_lt_of_le gzD.out gDX.out)
        have gDD2 := Lib.hid (show D2 < D3 from Nat.lt_of_lt_of_le (Array.getElem?_eq_some_iff.1 gKe3.out).1 hD3)
        clear g6 hb5 hb6 hW9 hB9 hB39 hKf ql cM6 hB3 gKe3 gKD3
        gi_wp2_with (gi_at_range; refine wpListIn_range_own _ rfl _ 47 rfl 3 3 II.law3 Try.underlying47 _ b n' _ rfl g9.out.two.map ?_; intro w10 hrg0 hg0 hs0)
        go_frame
        gi_loopw [21] (fun _ wr => ∃ (left : Lit → Bool) (cnt : Nat), wr.ranges Try.prog 3 (plainElem Try.prog 3) b W9.heap.size n' D left cnt ∧ (∀ kl, left kl = true → Maps.has D kl = true) ∧ Below W9.heap.size W9 wr) (fun _ wr => wr.rangeLeft b W9.heap.size)
        case atStart =>
          exact ⟨_, _, hrg0, fun _ h => h, (Below.refl _ _).grown hg0 (Nat.le_refl _) (fun j e => by cases e)⟩
        case round =>
          clear hrg0 hg0 hs0
          obtain ⟨left, cnt, hrg, hleft, hBr⟩ := hrel
          have gBr := Lib.hid hBr
          have gleft := Lib.hid hleft
          clear hBr hleft
          gi_wp2_with (gi_at_next; refine wpListIn_next_ranges_ii _ rfl _ rfl 3 3 .i64 .i64 II.law3 Try.underlying3 Try.underlying3 b W9.heap.size n' _ _ _ rfl hrg ?_ ?_)
          · intro hc0 hl0
            have gWr := Lib.hid (g9.out.below gBr.out)
            have gk3 := Lib.hid ((gBr.out.block D3 (Array.getElem?_eq_some_iff.1 kf9.out).1).trans kf9.out)
            have gk2 := Lib.hid ((gBr.out.block D2 (Array.getElem?_eq_some_iff.1 ke9.out).1).trans ke9.out)
            have gk1 := Lib.hid ((gBr.out.block Dk (Array.getElem?_eq_some_iff.1 kd9.out).1).trans kd9.out)
            clear hrg hl0 hc0
            gi_wp2_with (gi_at_call 10; refine (callsIn_wide.2 (works_any _)).mono ?_; rintro e w12 ⟨rfl, hBw⟩)
            refine leaves3 (D3 := D3) (D2 := D2) (Dk := Dk) ((hBw.block _ (Array.getElem?_eq_some_iff.1 gk3.out).1).trans gk3.out) ((hBw.block _ (Array.getElem?_eq_some_iff.1 gk2.out).1).trans gk2.out) ((hBw.block _ (Array.getElem?_eq_some_iff.1 gk1.out).1).trans gk1.out) gDD1.out gDD2.out (by have := gDk.out; have := gO4.out.bel.size; have := gz4.out; omega) (gWr.out.bel.trans (hBw.mono gWr.out.bel.size)) ?_
            intro WF hb
            refine ⟨.bool true, ?_, rfl, hb⟩
            simp [results, Try.results7, go_sem]
          · intro x c w11 cnt2 hwx hwc hlx hat hrg2 hlt2 hg2 hs2 hen
            have hB11 : Below W9.heap.size W9 w11 := gBr.out.grown hg2 gBr.out.size (fun j e => by cases e; exact Nat.le_refl _)
            have g11 := Lib.hid (g9.out.below hB11)
            have hx := gleft.out _ hlx
            have hme : cnt2 < wr.rangeLeft b W9.heap.size := by rw [hrg.left_eq]; exact hlt2
            have gmeas := Lib.hid hme
            have gB11 := Lib.hid hB11
            have grg2 := Lib.hid hrg2
            have ghat := Lib.hid hat
            clear hs2 hlt2 hlx hme hg2 hrg hB11 hrg2 hat
            gi_wp2_with (gi_at_call 28; refine (callsIn_wide.2 (sget g11.out hx ghat.out)).mono ?_; rintro e w12 ⟨rfl, hb⟩)
            have hrg3 := grg2.out.kept (row := none) (II.grown_of_below hb.out) (by simp) (by simp)
            exact ⟨⟨_, _, hrg3, fun kl h => gleft.out kl (by simp only [Bool.and_eq_true] at h; exact h.1), gB11.out.trans (hb.out.mono gB11.out.size)⟩, by rw [hrg3.left_eq]; exact gmeas.out⟩
end Go.Proofs.Ytlfigdembgkkoaa
