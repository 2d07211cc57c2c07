/- OrdmapCopies: the walk. -/
import Derived.Test.YtlfigdembgkkoaaCopies
import Derived.Test.YtlfigdembgkkoaaStops
import Derived.Test.YtlfigdembgkkoaaLOrdmapMap
import Derived.Maps.OwnIn
namespace Go.Proofs.Ytlfigdembgkkoaa
open Go.RowKit Go.Maps Go.Shelf Go.Sort Go.Lib
attribute [local go_sem] Oper.semAt_some

set_option maxRecDepth 1000000 in
set_option maxHeartbeats 16000000 in
theorem ordmapCopies_walk (A : Option Addr) (n cap : Nat) (cs : List II.C) (A2 : Option Addr) (n2 cap2 : Nat) (cs2 : List II.C) (w : World) (h : II.CS w A n cs) (hcap : n ≤ cap ∧ cap ≤ 9223372036854775807) (h2 : II.CS w A2 n2 cs2) (hcap2 : n2 ≤ cap2 ∧ cap2 ≤ 9223372036854775807) :
    Calls Try.prog 8 #[.slice A n cap, .slice A2 n2 cap2] w fun e w' => e = .returned (.bool true) ∧ Below w.heap.size w w' := by
  refine (callsIn_wide (n := 6)).1 ?_
  refine callsIn_of_wp_marks Try.func8 rfl trivial ?_ rfl
  simp only [Try.ntmps8, List.size_toArray, List.length_cons, List.length_nil, Nat.reduceAdd, Nat.reduceSub, Array.replicate_succ, Array.replicate_zero, List.push_toArray, List.append_toArray, List.nil_append, List.cons_append]
  have t1 : Fence.wide.fn 22 := trivial
  have t2 : Fence.wide.fn 38 := trivial
  have t3 : Fence.wide.fn 39 := trivial
  have t4 : Fence.wide.fn 40 := trivial
  have t5 : Fence.wide.fn 27 := trivial
  have t6 : Fence.wide.fn 41 := trivial
  have t7 : Fence.wide.fn 23 := trivial
  have t8 : Fence.wide.fn 28 := trivial
  have t9 : Fence.wide.fn 10 := trivial
  obtain ⟨m, hm⟩ : ∃ m, m = min n2 50 := ⟨_, rfl⟩
  have hmn : m ≤ n2 ∧ m ≤ 50 := by omega
  have hmi : min (n2 : Int) 50 = (m : Int) := by omega
  have hsl : ∀ w' : World, (Instr.slice 45 (.slice A2 n2 cap2) none (some (.int .i64 (m : Int))) none).run Try.prog w' = .ok (.slice A2 m cap2) w' := by
    intro w'
    have i1 : m ≤ cap2 := by omega
    cases A2 <;> simp [Instr.slice, run_underlying Try.underlying45, Instr.sliceBounds, Instr.sliceBound, asIntOf, i1, Addr.add]
  clear hm
  have gC := Lib.hid h
  have gC2 := Lib.hid h2
  have gkeys := Lib.hid (fill_keys h.2.1)
  clear h h2
  have hnil := eql_none46
  gi_wp2_with fail
  refine (callsIn_wide.2 (II.filled_any A n cap cs _ (gC.out.below (by go_grown)) hcap)).mono ?_
  rintro e w1 ⟨P, b, rfl, gF⟩
  obtain ⟨n', v, D, hn', hT⟩ := gF.out
  obtain ⟨l, hl⟩ : ∃ l, l = II.fill cs := ⟨_, rfl⟩
  have hl100 : l.length ≤ 100 := by rw [hl]; exact II.fills_len cs 100
  rw [← hl] at hT gkeys
  have gA := Lib.hid (cop_start hT hl100)
  clear hT hl hl100 gF gC
  gi_wp2_with fail
  refine (callsIn_wide.2 (II.copy_any _ _ _ _ _ gA.out.two.own)).mono ?_
  rintro e w3 ⟨rfl, g3⟩
  gi_wp2_with fail
  refine (callsIn_wide.2 (II.copy_any _ _ _ _ _ (gA.out.two.own.below (by have := g3.out.2; simpa using this)))).mono ?_
  rintro e w4 ⟨rfl, g4⟩
  obtain ⟨⟨vc, h3c⟩, h3b⟩ := g3.out
  obtain ⟨⟨vd, h4d⟩, h4b⟩ := g4.out
  obtain ⟨W2, hW2⟩ : ∃ W2, W2 = w1.alloc (.cells #[.map (some b)] 47) := ⟨_, rfl⟩
  have hz2 : W2.heap.size = w1.heap.size + 1 := by rw [hW2]; simp
  rw [← hW2] at h3c h3b gA
  have hC3 := II.lt_of_heap h3c.blk
  have gCp := Lib.hid (cp_start h3c h4b gkeys.out gA.out.len)
  have gD := Lib.hid h4d
  have gB4 := Lib.hid (h3b.trans (h4b.mono h3b.size))
  have gCD := Lib.hid hC3
  rw [hz2] at gCp gCD
  have gz2 := Lib.hid hz2
  clear h3c h3b h4d h4b hW2 hC3 g3 g4 hz2
  gi_wp2_with fail
  gi_loopw [52] (fun i wr => ∃ k : Nat, k ≤ m ∧ i = .int .i64 k ∧ Hid (∃ vc lc, CpAt w4 wr (w1.heap.size + 1) w3.heap.size vc lc k)) (fun i _ => m - (intOf i).toNat)
  case atStart =>
    exact ⟨0, Nat.zero_le _, rfl, ⟨_, _, gCp.out⟩⟩
  case round =>
    clear gCp
    obtain ⟨k, hk, rfl, gP⟩ := hrel
    obtain ⟨vc, lc, hP⟩ := gP.out
    have gP := Lib.hid hP
    have gWr := Lib.hid (gA.out.below (gB4.out.trans (hP.bel.mono (by rw [gz2.out]; exact Nat.le_refl _))))
    clear hP
    by_cases hlt : k < m
    · obtain ⟨b', o', ⟨d, kk, x⟩, rfl, hb, hc, h16, h16', c0, c1, c2⟩ := II.call_at gC2.out (k := k) (by omega)
      have hBw := gWr.out.bel
      have c0 := (hBw.cell hb).trans c0
      have c1 := (hBw.cell hb).trans c1
      have c2 := (hBw.cell hb).trans c2
      have g16 := Lib.hid h16
      have k1 := h16.1
      have k2 := h16.2
      have k3 := h16'.1
      have k4 := h16'.2
      clear hb hc h16 h16' hBw hsl hmi
      dsimp only at c0 c1 c2 k1 k2 k3 k4
      cases d with
      | true =>
        gi_wp2_with (gi_at_call 39; refine (callsIn_wide.2 (cp_del (gP.out.below (by go_grown)) gCD.out _)).mono ?_; rintro e w5 ⟨u, rfl, gN⟩)
        exact ⟨⟨k + 1, by omega, by simp, gN⟩, by simp [intOf]; omega⟩
      | false =>
        gi_wp2_with (gi_at_call 40; refine (callsIn_wide.2 (cp_set (gP.out.below (by go_grown)) gCD.out _ _ g16.out (by omega))).mono ?_; rintro e w5 ⟨y1, y2, rfl, gN⟩)
        exact ⟨⟨k + 1, by omega, by simp, gN⟩, by simp [intOf]; omega⟩
    · obtain rfl : k = m := by omega
      clear hk hlt hsl hmi gC2
      gi_wp2_with fail
      have hmm := @run_makeMap Try.prog
      obtain ⟨Wa, hWa⟩ : ∃ Wa, Wa = wr.alloc (.cells #[.pointer (some ⟨P, 0, none⟩), .pointer (some ⟨w3.heap.size, 0, none⟩)] 46) := ⟨_, rfl⟩
      have hBa : Below wr.heap.size wr Wa := by rw [hWa]; exact (Below.refl _ _).alloc (Nat.le_refl _) _
      have gRow := Lib.hid (show Wa.heap[wr.heap.size]? = some (.cells #[.pointer (some ⟨P, 0, none⟩), .pointer (some ⟨w3.heap.size, 0, none⟩)] 46 (0, 0)) by rw [hWa]; exact World.alloc_heap_new _ _)
      have gAa := Lib.hid (gWr.out.below hBa)
      have gPa := Lib.hid (gP.out.below hBa)
      have gCW := Lib.hid (show w1.heap.size + 1 < Wa.heap.size from II.lt_of_heap gPa.out.own.blk)
      rw [← hWa]
      clear hWa hBa gWr gP
      refine wpIn_loop_rounds 3 ?_
      rw [roundsIn_succ]
      have ca0 := (cell_of_row Wa wr.heap.size 0 _ _ (0, 0) gRow.out).trans rfl
      have ca1 := (cell_of_row Wa wr.heap.size 1 _ _ (0, 0) gRow.out).trans rfl
      gi_wp2_with (gi_at_call 27; refine (callsIn_wide.2 (II.all_any _ _)).mono ?_; rintro e w5 ⟨rfl, rfl⟩)
      obtain ⟨App, cpp, _, hHpp, hUpp⟩ := gAa.out.two.own.has_under
      have hBp : Below Wa.heap.size Wa ((((Wa.alloc (.map #[] 0)).alloc (.cells #[.map (some Wa.heap.size)] 47)).alloc (.cells #[.int .i64 0] 3)).alloc (.cells #[.pointer (some ⟨P, 0, none⟩)] 46)) := ((((Below.refl _ Wa).alloc (Nat.le_refl _) _).alloc (by simp) _).alloc (by simp; omega) _).alloc (by simp; omega) _
      have bCp := Boxed.new (((Wa.alloc (.map #[] 0)).alloc (.cells #[.map (some Wa.heap.size)] 47)).alloc (.cells #[.int .i64 0] 3)) 46 (.pointer (some ⟨P, 0, none⟩))
      have bGp := ((Boxed.new (Wa.alloc (.map #[] 0)) 47 (.map (some Wa.heap.size))).alloc (.cells #[.int .i64 0] 3)).alloc (.cells #[.pointer (some ⟨P, 0, none⟩)] 46)
      have bSp := (Boxed.new ((Wa.alloc (.map #[] 0)).alloc (.cells #[.map (some Wa.heap.size)] 47)) 3 (.int .i64 0)).alloc (.cells #[.pointer (some ⟨P, 0, none⟩)] 46)
      have gNp : Got Wa.heap.size l [] ((((Wa.alloc (.map #[] 0)).alloc (.cells #[.map (some Wa.heap.size)] 47)).alloc (.cells #[.int .i64 0] 3)).alloc (.cells #[.pointer (some ⟨P, 0, none⟩)] 46)) :=
        got_keep (got_keep (got_keep (got_new Wa l) (Below.heap_alloc _ _ _ (by simp))) (Below.heap_alloc _ _ _ (by simp; omega))) (Below.heap_alloc _ _ _ (by simp; omega))
      simp only [World.size_alloc] at bCp bGp bSp
      have hseqp := II.all_idx 5 Wa.heap.size (Wa.heap.size + 1 + 1 + 1) (some ⟨P, 0, none⟩) App cpp l _ bCp.cell (hHpp.below hBp) hUpp (by simp; omega)
      refine wpIn_rangeFunc_ownG rfl (by omega) (gf := 94) (lb := #[.pointer (some ⟨Wa.heap.size + 1 + 1 + 1, 0, none⟩)]) rfl trivial (enters_of Try.func94 (by kernel_rfl) rfl)
        hseqp belowK_t (belowK_b (by simp; omega)) (Below.refl _ _) (fun _ => rfl)
        (fun (pre : List Nat) X => ((Got Wa.heap.size l pre X ∧ Boxed X (Wa.heap.size + 1) 47 (.map (some Wa.heap.size))) ∧ Boxed X (Wa.heap.size + 1 + 1) 3 (.int .i64 (pre.length : Nat))) ∧ Below Wa.heap.size Wa X)
        (fun _ _ _ => False)
        (OwnFrom.and (OwnFrom.and (OwnFrom.and (got_own l (by simp; omega)) (Own.from (boxed_own (Wa.heap.size + 1) 47 (fun _ : List Nat => .map (some Wa.heap.size))) _)) (Own.from (boxed_own (Wa.heap.size + 1 + 1) 3 (fun pre : List Nat => .int .i64 (pre.length : Nat))) _)) (ownFrom_below (Nat.le_refl _) (by simp; omega)))
        (fun _ _ _ _ _ hs _ _ => hs)
        ⟨⟨⟨gNp, bGp⟩, bSp⟩, hBp⟩
        ?ap ?assignp ?bodyp ?donep ?stopp
      case assignp =>
        intro l x W K hK
        unfold II.encAt II.encs
        gi_wp2
        exact hK
      case stopp =>
        rintro D c pre W _ _ h _
        exact h.elim
      case bodyp =>
        rintro l' pre i X ⟨⟨⟨⟨Dg, hm, hi⟩, hbg⟩, hbs⟩, hB⟩ hlt
        have hwf := item_wf (gAa.out.below hB).two (kx := (II.itemAt l i).1) (vx := (II.itemAt l i).2) (II.itemAt_mem (by omega) i)
        have gA1 := Lib.hid (gAa.out.below (hB.setCell (p := ⟨Wa.heap.size + 1 + 1, 0, none⟩) (show Wa.heap.size ≤ Wa.heap.size + 1 + 1 by omega) (.int .i64 ((pre.length : Int) + 1))))
        have hbs1 := hbs.set (.int .i64 ((pre.length : Int) + 1))
        have hbg1 := hbg.other (show Wa.heap.size + 1 ≠ Wa.heap.size + 1 + 1 by omega) (.int .i64 ((pre.length : Int) + 1))
        have hm1 := II.map_keep hm (Below.heap_setCell X ⟨Wa.heap.size + 1 + 1, 0, none⟩ (.int .i64 ((pre.length : Int) + 1)) Wa.heap.size (show Wa.heap.size ≠ Wa.heap.size + 1 + 1 by omega))
        have cs := hbs.cell
        have fs := hbs.frozen
        have cs1 := hbs1.cell
        have cg1 := hbg1.cell
        have cM1 := gA1.out.bM.cell
        have ql := fun ty => gA1.out.two.map.len Try.underlying47 ty
        rw [gA1.out.two.is.size] at ql
        have hgt : ¬ ((l.length : Int) < (pre.length : Int) + 1) := by omega
        have hp0 : (0 : Int) ≤ (pre.length : Int) := by omega
        have hpl : pre.length < 100 := by have := gAa.out.len; omega
        have gB := Lib.hid hB
        have gbg1 := Lib.hid hbg1
        have gbs1 := Lib.hid hbs1
        have gm1 := Lib.hid hm1
        have gi1 := Lib.hid hi
        have gwf := Lib.hid hwf
        clear hlt hB hm hi hbg hbs hbg1 hbs1 hm1 hwf hseqp
        gi_wp2_with (gi_at_mapUpdate; refine wpListIn_mapUpdate_own _ rfl _ _ _ 47 rfl 3 3 II.law3 Try.underlying47 _ Wa.heap.size pre.length Dg rfl gm1.out (by unfold maxLen; omega) _ _ _ rfl rfl (keyOf_int_mk Try.underlying3 gwf.out.1) _ [] (plainElem_int Try.underlying3 gwf.out.2) ?_; intro w9 hm9 hg9)
        have hB9 : Below Wa.heap.size X w9 := ((Below.refl _ X).setCell (p := ⟨Wa.heap.size + 1 + 1, 0, none⟩) (show Wa.heap.size ≤ Wa.heap.size + 1 + 1 by omega) (.int .i64 ((pre.length : Int) + 1))).grown hg9 (by have := gB.out.size; simp [World.setCell]; exact this) (fun j e => by cases e; exact Nat.le_refl _)
        exact ⟨((KeepsOthers.setCell X ⟨Wa.heap.size + 1 + 1, 0, none⟩ _).from _).trans (KeepsFrom.of_grownBy hg9 (fun j e => by cases e; omega)), hB9, ⟨⟨⟨_, by simpa using hm9, by rw [II.gotL_snoc]; exact gi1.out.put (got_asc l pre) _ _⟩, gbg1.out.kept hg9 (by simp)⟩, by simpa using gbs1.out.kept hg9 (by simp; omega)⟩, gB.out.trans hB9⟩
      case donep =>
        rintro Dp ys Xp hD rfl ⟨⟨⟨hG, hbg⟩, _⟩, hB⟩ hKd
        obtain ⟨Dg, nn, hmg, hig⟩ := got_all gAa.out.two.own.asc hG
        have gAXp := Lib.hid (gAa.out.below hB)
        have gPXp := Lib.hid (gPa.out.below hB)
        have gRXp := Lib.hid ((hB.block wr.heap.size (II.lt_of_heap gRow.out)).trans gRow.out)
        have gKdp := Lib.hid hKd
        have gDp := Lib.hid hD
        have gEq : ∀ y : After Xp, Hid (Calls Try.prog 41 #[.map (some Wa.heap.size), .map (some b)] y.w fun e w' => e = .returned (.bool true) ∧ ∃ z : After Xp, w' = z.w) := fun y =>
          (equal_maps (II.map_keep hmg (y.below.block _ (II.map_lt hmg))) (gAXp.out.below y.below).two.map hig gAXp.out.two.is).mono fun _ _ h => After.ends h
        have gLen : ∀ y : After Xp, Hid (Calls Try.prog 23 #[.pointer (some ⟨P, 0, none⟩)] y.w fun e w' => e = .returned (.int .i64 (l.length : Nat)) ∧ ∃ z : After Xp, w' = z.w) := fun y =>
          (cop_len (gAXp.out.two.own.below y.below)).mono fun _ _ h => ⟨h.1, y, h.2.symm⟩
        have cg : ∀ y : After Xp, y.w.cell? ⟨Wa.heap.size + 1, 0, none⟩ = some (.map (some Wa.heap.size)) := fun y => Boxed.cell (t := 47) ((y.below.block _ hbg.lt).trans hbg)
        have cM : ∀ y : After Xp, y.w.cell? ⟨w1.heap.size, 0, none⟩ = some (.map (some b)) := fun y => (gAXp.out.below y.below).bM.cell
        have ql : ∀ (y : After Xp) ty, _ := fun y ty => (gAXp.out.below y.below).two.map.len Try.underlying47 ty
        rw [gAXp.out.two.is.size] at ql
        clear hG hbg hB hKd hD hmg hig hseqp
        gi_wp2_with fail
        refine wpIn_region_after rfl (by kernel_rfl) (by kernel_rfl) ?_
        repeat (gi_big_quiet_step (first | (gi_at_call 41; exact callsIn_wide.2 (gEq _).out) | (gi_at_call 23; exact callsIn_wide.2 (gLen _).out)))
        refine wpQuietIn_nil ?_
        intro _ hw'
        obtain ⟨y, hw''⟩ := hw'
        subst hw''
        gi_wp2_with fail
        rw [roundsIn_succ]
        obtain ⟨Wb, hWb⟩ : ∃ Wb, Wb = y.w := ⟨_, rfl⟩
        have gAb := Lib.hid (gAXp.out.below y.below)
        have gPb := Lib.hid (gPXp.out.below y.below)
        have gRb := Lib.hid ((y.below.block _ (II.lt_of_heap gRXp.out)).trans gRXp.out)
        have gKb := Lib.hid ((y.below.block Dp (II.lt_of_heap gKdp.out)).trans gKdp.out)
        rw [← hWb] at gAb gPb gRb gKb
        rw [← hWb]
        clear hWb gEq gLen cg cM ql gAXp gPXp gRXp gKdp gRow gAa gPa
        clear y
        have cb0 := (cell_of_row Wb wr.heap.size 0 _ _ (0, 0) gRb.out).trans rfl
        have cb1 := (cell_of_row Wb wr.heap.size 1 _ _ (0, 0) gRb.out).trans rfl
        gi_wp2_with (gi_at_call 27; refine (callsIn_wide.2 (II.all_any _ _)).mono ?_; rintro e w5 ⟨rfl, rfl⟩)
        obtain ⟨Apq, cpq, _, hHpq, hUpq⟩ := (gPb.out.other gD.out).has_under
        have hBq : Below Wb.heap.size Wb ((((Wb.alloc (.map #[] 0)).alloc (.cells #[.map (some Wb.heap.size)] 47)).alloc (.cells #[.int .i64 0] 3)).alloc (.cells #[.pointer (some ⟨w3.heap.size, 0, none⟩)] 46)) := ((((Below.refl _ Wb).alloc (Nat.le_refl _) _).alloc (by simp) _).alloc (by simp; omega) _).alloc (by simp; omega) _
        have bCq := Boxed.new (((Wb.alloc (.map #[] 0)).alloc (.cells #[.map (some Wb.heap.size)] 47)).alloc (.cells #[.int .i64 0] 3)) 46 (.pointer (some ⟨w3.heap.size, 0, none⟩))
        have bGq := ((Boxed.new (Wb.alloc (.map #[] 0)) 47 (.map (some Wb.heap.size))).alloc (.cells #[.int .i64 0] 3)).alloc (.cells #[.pointer (some ⟨w3.heap.size, 0, none⟩)] 46)
        have bSq := (Boxed.new ((Wb.alloc (.map #[] 0)).alloc (.cells #[.map (some Wb.heap.size)] 47)) 3 (.int .i64 0)).alloc (.cells #[.pointer (some ⟨w3.heap.size, 0, none⟩)] 46)
        have gNq : Got Wb.heap.size l [] ((((Wb.alloc (.map #[] 0)).alloc (.cells #[.map (some Wb.heap.size)] 47)).alloc (.cells #[.int .i64 0] 3)).alloc (.cells #[.pointer (some ⟨w3.heap.size, 0, none⟩)] 46)) :=
          got_keep (got_keep (got_keep (got_new Wb l) (Below.heap_alloc _ _ _ (by simp))) (Below.heap_alloc _ _ _ (by simp; omega))) (Below.heap_alloc _ _ _ (by simp; omega))
        simp only [World.size_alloc] at bCq bGq bSq
        have hseqq := II.all_idx 5 Wb.heap.size (Wb.heap.size + 1 + 1 + 1) (some ⟨w3.heap.size, 0, none⟩) Apq cpq l _ bCq.cell (hHpq.below hBq) hUpq (by simp; omega)
        refine wpIn_rangeFunc_ownG rfl (by omega) (gf := 94) (lb := #[.pointer (some ⟨Wb.heap.size + 1 + 1 + 1, 0, none⟩)]) rfl trivial (enters_of Try.func94 (by kernel_rfl) rfl)
          hseqq belowK_t (belowK_b (by simp; omega)) (Below.refl _ _) (fun _ => rfl)
          (fun (pre : List Nat) X => ((Got Wb.heap.size l pre X ∧ Boxed X (Wb.heap.size + 1) 47 (.map (some Wb.heap.size))) ∧ Boxed X (Wb.heap.size + 1 + 1) 3 (.int .i64 (pre.length : Nat))) ∧ Below Wb.heap.size Wb X)
          (fun _ _ _ => False)
          (OwnFrom.and (OwnFrom.and (OwnFrom.and (got_own l (by simp; omega)) (Own.from (boxed_own (Wb.heap.size + 1) 47 (fun _ : List Nat => .map (some Wb.heap.size))) _)) (Own.from (boxed_own (Wb.heap.size + 1 + 1) 3 (fun pre : List Nat => .int .i64 (pre.length : Nat))) _)) (ownFrom_below (Nat.le_refl _) (by simp; omega)))
          (fun _ _ _ _ _ hs _ _ => hs)
          ⟨⟨⟨gNq, bGq⟩, bSq⟩, hBq⟩
          ?aq ?assignq ?bodyq ?doneq ?stopq
        case assignq =>
          intro l x W K hK
          unfold II.encAt II.encs
          gi_wp2
          exact hK
        case stopq =>
          rintro D c pre W _ _ h _
          exact h.elim
        case bodyq =>
          rintro l' pre i X ⟨⟨⟨⟨Dg, hm, hi⟩, hbg⟩, hbs⟩, hB⟩ hlt
          have hwf := item_wf (gAb.out.below hB).two (kx := (II.itemAt l i).1) (vx := (II.itemAt l i).2) (II.itemAt_mem (by omega) i)
          have gA1 := Lib.hid (gAb.out.below (hB.setCell (p := ⟨Wb.heap.size + 1 + 1, 0, none⟩) (show Wb.heap.size ≤ Wb.heap.size + 1 + 1 by omega) (.int .i64 ((pre.length : Int) + 1))))
          have hbs1 := hbs.set (.int .i64 ((pre.length : Int) + 1))
          have hbg1 := hbg.other (show Wb.heap.size + 1 ≠ Wb.heap.size + 1 + 1 by omega) (.int .i64 ((pre.length : Int) + 1))
          have hm1 := II.map_keep hm (Below.heap_setCell X ⟨Wb.heap.size + 1 + 1, 0, none⟩ (.int .i64 ((pre.length : Int) + 1)) Wb.heap.size (show Wb.heap.size ≠ Wb.heap.size + 1 + 1 by omega))
          have cs := hbs.cell
          have fs := hbs.frozen
          have cs1 := hbs1.cell
          have cg1 := hbg1.cell
          have cM1 := gA1.out.bM.cell
          have ql := fun ty => gA1.out.two.map.len Try.underlying47 ty
          rw [gA1.out.two.is.size] at ql
          have hgt : ¬ ((l.length : Int) < (pre.length : Int) + 1) := by omega
          have hp0 : (0 : Int) ≤ (pre.length : Int) := by omega
          have hpl : pre.length < 100 := by have := gAb.out.len; omega
          have gB := Lib.hid hB
          have gbg1 := Lib.hid hbg1
          have gbs1 := Lib.hid hbs1
          have gm1 := Lib.hid hm1
          have gi1 := Lib.hid hi
          have gwf := Lib.hid hwf
          clear hlt hB hm hi hbg hbs hbg1 hbs1 hm1 hwf hseqq
          gi_wp2_with (gi_at_mapUpdate; refine wpListIn_mapUpdate_own _ rfl _ _ _ 47 rfl 3 3 II.law3 Try.underlying47 _ Wb.heap.size pre.length Dg rfl gm1.out (by unfold maxLen; omega) _ _ _ rfl rfl (keyOf_int_mk Try.underlying3 gwf.out.1) _ [] (plainElem_int Try.underlying3 gwf.out.2) ?_; intro w9 hm9 hg9)
          have hB9 : Below Wb.heap.size X w9 := ((Below.refl _ X).setCell (p := ⟨Wb.heap.size + 1 + 1, 0, none⟩) (show Wb.heap.size ≤ Wb.heap.size + 1 + 1 by omega) (.int .i64 ((pre.length : Int) + 1))).grown hg9 (by have := gB.out.size; simp [World.setCell]; exact this) (fun j e => by cases e; exact Nat.le_refl _)
          exact ⟨((KeepsOthers.setCell X ⟨Wb.heap.size + 1 + 1, 0, none⟩ _).from _).trans (KeepsFrom.of_grownBy hg9 (fun j e => by cases e; omega)), hB9, ⟨⟨⟨_, by simpa using hm9, by rw [II.gotL_snoc]; exact gi1.out.put (got_asc l pre) _ _⟩, gbg1.out.kept hg9 (by simp)⟩, by simpa using gbs1.out.kept hg9 (by simp; omega)⟩, gB.out.trans hB9⟩
        case doneq =>
          rintro Dq ys Xq hD rfl ⟨⟨⟨hG, hbg⟩, _⟩, hB⟩ hKd
          obtain ⟨Dg, nn, hmg, hig⟩ := got_all gAb.out.two.own.asc hG
          have gAXq := Lib.hid (gAb.out.below hB)
          have gPXq := Lib.hid (gPb.out.below hB)
          have gRXq := Lib.hid ((hB.block wr.heap.size (II.lt_of_heap gRb.out)).trans gRb.out)
          have gKdq := Lib.hid hKd
          have gDq := Lib.hid hD
          have gK1q := Lib.hid ((hB.block Dp (II.lt_of_heap gKb.out)).trans gKb.out)
          have gEq : ∀ y : After Xq, Hid (Calls Try.prog 41 #[.map (some Wb.heap.size), .map (some b)] y.w fun e w' => e = .returned (.bool true) ∧ ∃ z : After Xq, w' = z.w) := fun y =>
            (equal_maps (II.map_keep hmg (y.below.block _ (II.map_lt hmg))) (gAXq.out.below y.below).two.map hig gAXq.out.two.is).mono fun _ _ h => After.ends h
          have gLen : ∀ y : After Xq, Hid (Calls Try.prog 23 #[.pointer (some ⟨w3.heap.size, 0, none⟩)] y.w fun e w' => e = .returned (.int .i64 (l.length : Nat)) ∧ ∃ z : After Xq, w' = z.w) := fun y =>
            (cop_len ((gPXq.out.other gD.out).below y.below)).mono fun _ _ h => ⟨h.1, y, h.2.symm⟩
          have cg : ∀ y : After Xq, y.w.cell? ⟨Wb.heap.size + 1, 0, none⟩ = some (.map (some Wb.heap.size)) := fun y => Boxed.cell (t := 47) ((y.below.block _ hbg.lt).trans hbg)
          have cM : ∀ y : After Xq, y.w.cell? ⟨w1.heap.size, 0, none⟩ = some (.map (some b)) := fun y => (gAXq.out.below y.below).bM.cell
          have ql : ∀ (y : After Xq) ty, _ := fun y ty => (gAXq.out.below y.below).two.map.len Try.underlying47 ty
          rw [gAXq.out.two.is.size] at ql
          clear hG hbg hB hKd hD hmg hig hseqq
          gi_wp2_with fail
          refine wpIn_region_after rfl (by kernel_rfl) (by kernel_rfl) ?_
          repeat (gi_big_quiet_step (first | (gi_at_call 41; exact callsIn_wide.2 (gEq _).out) | (gi_at_call 23; exact callsIn_wide.2 (gLen _).out)))
          refine wpQuietIn_nil ?_
          intro _ hw'
          obtain ⟨y, hw''⟩ := hw'
          subst hw''
          gi_wp2_with fail
          rw [roundsIn_succ]
          obtain ⟨Wc, hWc⟩ : ∃ Wc, Wc = y.w := ⟨_, rfl⟩
          have gAc := Lib.hid (gAXq.out.below y.below)
          have gPc := Lib.hid (gPXq.out.below y.below)
          have gK2 := Lib.hid ((y.below.block Dq (II.lt_of_heap gKdq.out)).trans gKdq.out)
          have gK1 := Lib.hid ((y.below.block Dp (II.lt_of_heap gK1q.out)).trans gK1q.out)
          rw [← hWc] at gAc gPc gK2 gK1
          rw [← hWc]
          have gDD := Lib.hid (show Dp < Dq from by have h1 := II.lt_of_heap gKb.out; have h2 := gDq.out; simp at h2; omega)
          clear hWc gEq gLen cg cM ql gAXq gPXq gRXq gKdq gK1q gRb gAb gPb gKb
          clear y
          have gPC := Lib.hid (show P < w1.heap.size + 1 from gz2.out ▸ II.lt_of_heap gA.out.two.own.blk)
          have gVC := Lib.hid (show ∀ g, v.ownBlock = some g → g < w1.heap.size + 1 from fun g hg => gz2.out ▸ (gA.out.two.own.own.lt g hg).2)
          gi_wp2_with fail
          refine (callsIn_wide.2 (II.set_any P P v l 70000 1 Wc gAc.out.two.own (by have := gAc.out.len; omega))).mono ?_
          rintro e w6 ⟨v6, rfl, _, hc6⟩
          have gE := Lib.hid (end_start (D1 := Dp) (D2 := Dq) gAc.out gPc.out gD.out hc6 (by simp) gPC.out gVC.out gCD.out (by have h := gDp.out; simp at h; have := gCW.out; omega) (by have h := gDp.out; simp at h; have := gCW.out; have := gDD.out; omega) gK1.out gK2.out)
          have gkc := Lib.hid gPc.out.keys
          clear hc6 gAc gPc gK1 gK2
          gi_wp2_with fail
          refine (callsIn_wide.2 (get_c gE.out gkc.out)).mono ?_
          rintro e w7 ⟨rfl, gE7⟩
          gi_wp2_with fail
          refine (callsIn_wide.2 (get_d gE7.out gkeys.out)).mono ?_
          rintro e w8 ⟨rfl, gE8⟩
          clear gE gE7
          gi_wp2_with (gi_at_call 10; refine (callsIn_wide.2 (works_any _)).mono ?_; rintro e w12 ⟨rfl, hBw⟩
                       have g12 := Lib.hid (gE8.out.below hBw)
                       have r1 := g12.out.bR.cell
                       have r2 := g12.out.bR.frozen
                       clear hBw)
          have hwD : w.heap.size < Dp := by have h := gDp.out; simp at h; have := gCW.out; have := gA.out.bR.lt; have := gz2.out; omega
          have hDD := gDD.out
          refine leaves2 (D2 := Dq) (D1 := Dp) ((Below.heap_setCell w12 ⟨w.heap.size, 0, none⟩ _ Dq (show Dq ≠ w.heap.size by omega)).trans g12.out.k2) ((Below.heap_setCell w12 ⟨w.heap.size, 0, none⟩ _ Dp (show Dp ≠ w.heap.size by omega)).trans g12.out.k1)
            hDD hwD (g12.out.bR.set _) (g12.out.bel.setCell (Nat.le_refl _) _) ?_
          intro WF hb hc
          refine ⟨.bool true, ?_, rfl, hb⟩
          simp [results, Try.results8, go_sem, hc]

end Go.Proofs.Ytlfigdembgkkoaa
