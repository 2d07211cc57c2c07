/- OrdmapOrder: the walk. -/
import Derived.Test.YtlfigdembgkkoaaOrder
import Derived.Test.YtlfigdembgkkoaaLOrdmapMap
namespace Go.Proofs.Ytlfigdembgkkoaa
open Go.RowKit Go.Maps Go.Shelf Go.Sort Go.Lib
attribute [local go_sem] Oper.semAt_some

theorem ord_start {w w1 w2 : World} {P b n c2 : Nat} {v : Value} {l : List (II.K × II.V)} {D : DataW Unit} {A2 : Option Addr} (hT : II.Two (w.alloc (.cells #[.bool false] 4)) w1 P b n v l D) (hl : l.length ≤ 100)
    (hS : II.SortedOf (w1.alloc (.cells #[.map (some b)] 47)) w2 (.slice A2 l.length c2) l) :
    OrdAt w (w.alloc (.cells #[.bool false] 4)) (w2.alloc (.cells #[.slice A2 l.length c2] 51)) w1.heap.size w2.heap.size P b n c2 v l D A2 := by
  have h1 : Below w1.heap.size w1 (w1.alloc (.cells #[.map (some b)] 47)) := (Below.refl _ _).alloc (Nat.le_refl _) _
  have h2 : Below w2.heap.size w2 (w2.alloc (.cells #[.slice A2 l.length c2] 51)) := (Below.refl _ _).alloc (Nat.le_refl _) _
  have h12 := hS.2
  have hs : (w1.alloc (.cells #[.map (some b)] 47)).heap.size = w1.heap.size + 1 := by simp
  have hz := h12.size
  rw [hs] at hz
  have h02 : Below w1.heap.size w1 w2 := h1.trans (h12.mono (by rw [hs]; omega))
  have hR : Boxed w1 w.heap.size 4 (.bool false) := (hT.bel.block _ (by simp)).trans (Boxed.new w 4 (.bool false))
  have hw : Below w.heap.size w w1 := ((Below.refl _ w).alloc (Nat.le_refl _) _).trans (hT.bel.mono (by simp))
  have hM : Boxed w2 w1.heap.size 47 (.map (some b)) := (h12.block _ (by rw [hs]; omega)).trans (Boxed.new w1 47 (.map (some b)))
  have hR2 : Boxed w2 w.heap.size 4 (.bool false) := (h02.block _ hR.lt).trans hR
  refine ⟨(hT.below h02).below h2, ?_, hM.alloc _, Boxed.new w2 _ _, hR2.alloc _, (hw.trans (h02.mono hw.size)).trans (h2.mono (by have := hw.size; omega)), hl⟩
  have h := II.owns_below hS.1 h2
  exact ⟨h.1, h.2.imp id (fun ⟨g, cap, cur, e1, _, e2⟩ => ⟨g, cap, cur, e1, Nat.zero_le _, e2⟩)⟩
theorem ord_end {w w6 w12 : World} {Dk : Nat} (hR : Boxed w12 w.heap.size 4 (.bool false)) (hw : Below w.heap.size w w12) (h6 : w.heap.size < w6.heap.size) (hD : w6.heap.size ≤ Dk) (hK : w12.heap[Dk]? = some (.deferred (some []))) :
    (w12.setCell ⟨w.heap.size, 0, none⟩ (.bool true)).heap[Dk]? = some (.deferred (some [])) ∧
    ∀ WF, WF = (w12.setCell ⟨w.heap.size, 0, none⟩ (.bool true)).putObj Dk (.deferred none) → WF.cell? ⟨w.heap.size, 0, none⟩ = some (.bool true) ∧ Below w.heap.size w WF := by
  have hK2 : (w12.setCell ⟨w.heap.size, 0, none⟩ (.bool true)).heap[Dk]? = some (.deferred (some [])) := (Below.heap_setCell _ _ _ Dk (show Dk ≠ w.heap.size by omega)).trans hK
  refine ⟨hK2, ?_⟩
  rintro WF rfl
  have hfin : Below (w.heap.size + 1) (w12.setCell ⟨w.heap.size, 0, none⟩ (.bool true)) ((w12.setCell ⟨w.heap.size, 0, none⟩ (.bool true)).putObj Dk (.deferred none)) :=
    belowK_b (w := w6) (by omega) _ Dk _ _ hD hK2 rfl rfl
  exact ⟨Boxed.cell (t := 4) ((hfin.block _ (Nat.lt_succ_self _)).trans (hR.set _)), (hw.setCell (Nat.le_refl _) _).trans (hfin.mono (Nat.le_succ _))⟩
set_option maxRecDepth 1000000 in
set_option maxHeartbeats 16000000 in
theorem ordmapOrder_walk (A : Option Addr) (n cap : Nat) (cs : List II.C) (key : Int) (w : World) (h : II.CS w A n cs) (hcap : n ≤ cap ∧ cap ≤ 9223372036854775807) (_hkey : (Lit.int .i64 key).wf = true) :
    Calls Try.prog 6 #[.slice A n cap, .int .i64 key] w fun e w' => e = .returned (.bool true) ∧ Below w.heap.size w w' := by
  refine (callsIn_wide (n := 6)).1 ?_
  refine callsIn_of_wp_marks Try.func6 rfl trivial ?_ rfl
  simp only [Try.ntmps6, List.size_toArray, List.length_cons, List.length_nil, Nat.reduceAdd, Nat.reduceSub, Array.replicate_succ, Array.replicate_zero, List.push_toArray, List.append_toArray, List.nil_append, List.cons_append]
  have t1 : Fence.wide.fn 22 := trivial
  have t2 : Fence.wide.fn 29 := trivial
  have t3 : Fence.wide.fn 25 := trivial
  have t4 : Fence.wide.fn 24 := trivial
  have t5 : Fence.wide.fn 30 := trivial
  have t6 : Fence.wide.fn 26 := trivial
  have t7 : Fence.wide.fn 32 := trivial
  have t8 : Fence.wide.fn 10 := trivial
  have t9 : Fence.wide.fn 33 := trivial
  have t10 : Fence.wide.fn 34 := trivial
  have t11 : Fence.wide.fn 36 := trivial
  have t12 : Fence.wide.fn 37 := trivial
  have t13 : Fence.wide.fn 31 := trivial
  have t14 : Fence.wide.fn 35 := trivial
  have gC := Lib.hid h
  clear h _hkey
  gi_wp2_with fail
  refine (callsIn_wide.2 (II.filled_any A n cap cs _ (gC.out.below (by go_grown)) hcap)).mono ?_
  rintro e w1 ⟨P, b, rfl, gF⟩
  obtain ⟨n', v, D, hn', hT⟩ := gF.out
  obtain ⟨l, hl⟩ : ∃ l, l = II.fill cs := ⟨_, rfl⟩
  have hl100 : l.length ≤ 100 := by rw [hl]; exact II.fills_len cs 100
  rw [← hl] at hT
  have gl100 := Lib.hid hl100
  have gT := Lib.hid hT
  clear hT hl hl100 gF gC
  gi_wp2_with (first
    | (gi_at_call 25; refine (II.keysI_in _ _ _).mono ?_; rintro e w2 ⟨rfl, rfl⟩)
    | (gi_at_call 24; refine (II.sorted_in (gT.out.below ((Below.refl _ _).alloc (Nat.le_refl _) _)) gl100.out _ (by omega) _ (by simp)).mono ?_; rintro e w2 ⟨A2, c2, rfl, gS⟩))
  have gO := Lib.hid (ord_start gT.out gl100.out gS.out)
  obtain ⟨N, hN⟩ : ∃ N, N = l.length := ⟨_, rfl⟩
  rw [← hN]
  have gN := Lib.hid hN
  have hN100 : N ≤ 100 := by rw [hN]; exact gl100.out
  clear gS gT hN
  gi_loopw [39] (fun i wr => ∃ k : Nat, k ≤ N ∧ i = .int .i64 k ∧ Hid (OrdAt w (w.alloc (.cells #[.bool false] 4)) wr w1.heap.size w2.heap.size P b n' c2 v l D A2)) (fun i _ => N - (intOf i).toNat)
  case atStart =>
    refine ⟨0, Nat.zero_le _, rfl, ?_⟩
    rw [gN.out]
    exact gO.out
  case round =>
    clear gO
    obtain ⟨k, hk, rfl, gI⟩ := hrel
    by_cases hlt : k < N
    · obtain ⟨kx, vx, hx⟩ : ∃ kx vx : Int, l[k]? = some (kx, vx) := ⟨(l[k]'(by rw [← gN.out]; exact hlt)).1, (l[k]'(by rw [← gN.out]; exact hlt)).2, List.getElem?_eq_getElem _⟩
      obtain ⟨g, rfl⟩ := orow gI.out (by rw [← gN.out]; omega)
      have hr : rkB II.lt (keysOf l) kx = k := by
        have hk' : k < (keysOf l).length := by simp [← gN.out]; exact hlt
        have := rkB_at II.kord gI.out.two.own.asc hk'
        have e : (keysOf l)[k] = kx := by
          have := (List.getElem?_eq_some_iff.1 hx).2
          simp [keysOf, this]
        rw [e] at this
        exact this
      have q1 := (oitem gI.out hx).1
      have gx := Lib.hid hx
      have gr := Lib.hid hr
      have hi0 : (0 : Int) ≤ (k : Int) := by omega
      clear hx hr
      gi_wp2_with (first
        | (gi_at_call 29; refine (callsIn_wide.2 (oat gI.out gx.out)).mono ?_; rintro e w3 ⟨rfl, g3, _⟩; have q3 := (oitem g3.out gx.out).2; have b3 := g3.out.bM.cell)
        | (gi_at_call 30; refine (callsIn_wide.2 (orank g3.out kx k gr.out)).mono ?_; rintro e w4 ⟨rfl, g4, _⟩))
      exact ⟨⟨k + 1, by omega, by simp, g4⟩, by simp [intOf]; omega⟩
    · obtain rfl : k = N := by omega
      obtain ⟨N', r, bb, xc, xf, xm, xx, hN', hr, hb, hc, hf, hm, hx, hcase⟩ := ord_case gI.out.two.own.asc key
      obtain rfl : k = N' := gN.out.trans hN'.symm
      have ghr := Lib.hid hr
      have ghb := Lib.hid hb
      have ghc := Lib.hid (congrArg II.ans hc)
      have ghf := Lib.hid (congrArg II.ans hf)
      have ghm := Lib.hid (congrArg II.ans hm)
      have ghx := Lib.hid (congrArg II.ans hx)
      have c0 := gI.out.bK.cell
      rw [← gN.out] at c0
      have gcase := Lib.hid hcase
      clear hr hb hc hf hm hx hN' hcase hlt hk
      gi_wp2_with fail
      refine (callsIn_wide.2 (osearch gI.out key _ _ ghr.out ghb.out _ gN.out)).mono ?_
      rintro e w3 ⟨rfl, g3, _⟩
      gi_wp2_with fail
      refine (callsIn_wide.2 (orank g3.out key _ ghr.out)).mono ?_
      rintro e w4 ⟨rfl, g4, _⟩
      gi_wp2_with fail
      refine (callsIn_wide.2 (oceil g4.out key _ ghc.out)).mono ?_
      rintro e w5 ⟨rfl, g5, _⟩
      have c5 := g5.out.bK.cell
      rw [← gN.out] at c5
      have m5 := g5.out.bM.cell
      clear gI g3 g4 c0
      have hcase := gcase.out
      clear gcase
      have hn100 : k ≤ 100 := hN100
      cases hcase with
      | empty _ r hk0 hr0 =>
        simp only [II.ans] at ghc ghf ghm ghx ⊢
        have hq1 : ¬ (0 : Int) ≤ (r : Int) - 1 := by omega
        have hq2 : ¬ (1 : Int) ≤ (r : Int) := by omega
        have hq3 : ¬ (r : Int) < (k : Int) := by omega
        have hq4 : ¬ (0 : Int) < (k : Int) := by omega
        have hr2 : r ≤ k := by omega
        have gk0 := Lib.hid hk0
        have gr0 := Lib.hid hr0
        clear hk0 hr0
        gi_wp2_with fail
        refine (callsIn_wide.2 (ofloor g5.out key _ ghf.out)).mono ?_
        rintro e w6 ⟨rfl, g6, _⟩
        have c6 := g6.out.bK.cell
        rw [← gN.out] at c6
        have m6 := g6.out.bM.cell
        clear g5 c5 m5
        gi_wp2_with (first
          | (gi_at_call 34; refine (callsIn_wide.2 (II.from_any _ _ _)).mono ?_; rintro e w7 ⟨rfl, rfl⟩)
          | (gi_at_call 26; refine (callsIn_wide.2 (II.two_any _ _ _)).mono ?_; rintro e w7 ⟨rfl, rfl⟩))
        obtain ⟨i0, hi, hz0, hz1, hz2⟩ := info_parts infoInt
        obtain ⟨A', c', rfl, hHas, hU⟩ := g6.out.two.own.has_under
        have hB9 : Below w6.heap.size w6 (((w6.alloc (.cells #[.slice none 0 0] 51)).alloc (.cells #[.pointer (some ⟨P, 0, none⟩)] 46)).alloc (.cells #[.int .i64 key] 3)) := (((Below.refl _ w6).alloc (Nat.le_refl _) _).alloc (by simp) _).alloc (by simp; omega) _
        have bF := Boxed.new w6 51 (.slice none 0 0)
        have bP := Boxed.new (w6.alloc (.cells #[.slice none 0 0] 51)) 46 (.pointer (some ⟨P, 0, none⟩))
        have bY := Boxed.new ((w6.alloc (.cells #[.slice none 0 0] 51)).alloc (.cells #[.pointer (some ⟨P, 0, none⟩)] 46)) 3 (.int .i64 key)
        simp only [World.size_alloc] at bP bY
        have hseq := II.from_idx 5 w6.heap.size (w6.heap.size + 1) (w6.heap.size + 1 + 1) (some ⟨P, 0, none⟩) A' c' l key _ (bP.alloc _).cell bY.cell (hHas.below hB9) hU (by simp; omega)
        rw [ghr.out] at hseq
        have hI0 := (bF.alloc (.cells #[.pointer (some ⟨P, 0, none⟩)] 46)).alloc (.cells #[.int .i64 key] 3)
        clear hHas hU bF bP bY c6 m6
        refine wpIn_rangeFunc_ownG rfl (by omega) (gf := 105) (lb := #[.pointer (some ⟨w6.heap.size + 1, 0, none⟩), .pointer (some ⟨w6.heap.size + 1 + 1, 0, none⟩)]) rfl trivial (enters_of Try.func105 (by kernel_rfl) rfl)
          hseq belowK_t (belowK_b (by simp; omega)) (Below.refl _ _) (fun _ => rfl)
          (fun (pre : List Nat) W => (∃ v', Boxed W w6.heap.size 51 v' ∧ W.ownsRow w6.heap.size 3 1 v' pre.length (pre.map fun i => Value.int .i64 (II.itemAt (l.drop r) i).1) ∧ True) ∧ Below w6.heap.size w6 W)
          (fun _ _ _ => False)
          (OwnFrom.and (Own.from (holdsRow_own w6.heap.size w6.heap.size 51 3 1 (fun pre : List Nat => pre.length) (fun pre : List Nat => pre.map fun i => Value.int .i64 (II.itemAt (l.drop r) i).1) (fun _ _ => True)) _) (ownFrom_below (Nat.le_refl _) (by simp; omega)))
          (fun _ _ _ _ _ hs _ _ => hs)
          ⟨⟨_, hI0, World.ownsRow_nil _ _ _ _, trivial⟩, hB9⟩
          ?a1e ?assigne ?bodye ?donee ?stope
        case assigne =>
          intro l x W K hK
          unfold II.encAt II.encs
          gi_wp2
          exact hK
        case stope =>
          rintro D c pre W _ _ h _
          exact h.elim
        case bodye =>
          rintro l' pre i W ⟨⟨v', hv, hrow, _⟩, hB⟩ hlt
          exact absurd hlt (by rw [List.length_drop, ← gN.out]; omega)
        case donee =>
          rintro Dk ys W hD rfl ⟨⟨v', hv, hrow, _⟩, hB⟩ hK
          have gW := Lib.hid (g6.out.below hB)
          have hlen : (List.range (l.drop r).length).length = k - r := by rw [List.length_range, List.length_drop, ← gN.out]
          rw [hlen, from_keys] at hrow
          obtain ⟨F, cF, rfl⟩ := row_shape hrow
          have gv := Lib.hid hv
          have grow := Lib.hid hrow
          have gK := Lib.hid hK
          have gD := Lib.hid hD
          obtain ⟨X, hX⟩ : ∃ X, X = (if c2 = r then A2 else A2.map (fun x => x.add r)) := ⟨_, rfl⟩
          have hcc : r ≤ k ∧ k ≤ c2 := by
            have h := gW.out.row
            have hNl := gN.out
            rcases h.2 with ⟨_, h0⟩ | ⟨g', cap', cur, e, _, _, hc', _⟩
            · omega
            · have e1 : c2 = cap' := by injection e
              omega
          have hsl : ∀ w' : World, (Instr.slice 51 (.slice A2 (k) c2) (some (.int .i64 (r : Int))) none none).run Try.prog w' = .ok (.slice X (k - r) (c2 - r)) w' := by
            intro w'
            rw [hX]
            cases A2 <;> simp [Instr.slice, run_underlying Try.underlying51, Instr.sliceBounds, Instr.sliceBound, asIntOf, hcc, Try.sizeOf3]
          have gX := Lib.hid hX
          have cK := gW.out.bK.cell
          rw [← gN.out] at cK
          have cF' := hv.cell
          have gEq : ∀ q, Hid (Calls Try.prog 35 #[.slice F (k - r) cF, .slice X (k - r) (c2 - r)] (W.drewN q) fun e w' => e = .returned (.bool true) ∧ ∃ q', w' = (W.drewN q).drewN q') := fun q =>
            (equal_from (II.owns_below grow.out (below_drewN (Below.refl _ _) q)) (gN.out ▸ (II.owns_below gW.out.row (below_drewN (Below.refl _ _) q))) gN.out (by omega) hn100 gX.out)
          clear hX hK hD hv hrow hB hseq hI0 hB9 hcc
          gi_wp2_with fail
          gi_quiet (first | (gi_at_call 35; exact callsIn_wide.2 ((gEq _).out.mono fun e w' h => ⟨h.1, h.2.elim fun q' h => ⟨_, h.trans (World.drewN_drewN _ _ _)⟩⟩)))
          have hw6 : w.heap.size < w6.heap.size := g6.out.bR.lt
          have g7 := Lib.hid (gW.out.below (below_drewN (Below.refl _ _) nq))
          have gK7 := Lib.hid (show (W.drewN nq).heap[Dk]? = some (.deferred (some [])) from ((below_drewN (Below.refl _ W) nq).block Dk (Array.getElem?_eq_some_iff.1 gK.out).1).trans gK.out)
          clear gW gK grow gv gEq cK cF' gX hsl
          gi_wp2_with fail
          refine (callsIn_wide.2 (omin g7.out _ ghm.out)).mono ?_
          rintro e w8 ⟨rfl, g8, hb8⟩
          have gK8 := Lib.hid ((hb8.out.block Dk (Array.getElem?_eq_some_iff.1 gK7.out).1).trans gK7.out)
          gi_wp2_with fail
          refine (callsIn_wide.2 (omax g8.out _ ghx.out)).mono ?_
          rintro e w9 ⟨rfl, g9, hb9⟩
          have gK9 := Lib.hid ((hb9.out.block Dk (Array.getElem?_eq_some_iff.1 gK8.out).1).trans gK8.out)
          have cK9 := g9.out.bK.cell
          rw [← gN.out] at cK9
          have cM9 := g9.out.bM.cell
          clear g7 g8 hb8 hb9 gK7 gK8
          obtain rfl := gk0.out
          gi_wp2_with (gi_at_call 10; refine (callsIn_wide.2 (works_any _)).mono ?_; rintro e w12 ⟨rfl, hBw⟩
                       have g12 := Lib.hid (g9.out.below hBw)
                       have r1 := g12.out.bR.cell
                       have r2 := g12.out.bR.frozen
                       have gK12 := Lib.hid ((hBw.block Dk (Array.getElem?_eq_some_iff.1 gK9.out).1).trans gK9.out)
                       clear hBw)
          case h_1.isFalse =>
            rename_i hu _
            exact absurd hu (by simp [undef])
          all_goals
            have hDl : w6.heap.size ≤ Dk := by have h := gD.out; simp at h; omega
            obtain ⟨hK2, hfin⟩ := ord_end g12.out.bR g12.out.bel hw6 hDl gK12.out
            refine ⟨by simp, .inl ⟨_, _, rfl, run_takeDeferred hK2, ?_⟩⟩
            obtain ⟨hRF, hend⟩ := hfin _ rfl
            refine ⟨.bool true, ?_, rfl, hend⟩
            clear hend hfin hK2
            generalize (w12.setCell ⟨w.heap.size, 0, none⟩ (.bool true)).putObj Dk (.deferred none) = WF at hRF ⊢
            simp [results, Try.results6, go_sem, hRF]
      | there m r vr a0 v0 am vm hr hc h0 hm =>
        simp only [II.ans] at ghc ghf ghm ghx ⊢
        obtain ⟨g, rfl⟩ := orow g5.out (by rw [← gN.out]; omega)
        have i5a := (oitem g5.out hc).1
        have i5b := (oitem g5.out hc).2
        have hi0 : (0 : Int) ≤ (r : Int) := by omega
        gi_wp2_with fail
        refine (callsIn_wide.2 (ofloor g5.out key _ ghf.out)).mono ?_
        rintro e w6 ⟨rfl, g6, _⟩
        have c6 := g6.out.bK.cell
        rw [← gN.out] at c6
        have m6 := g6.out.bM.cell
        have i6a := (oitem g6.out hc).1
        have i6b := (oitem g6.out hc).2
        clear g5 c5 m5 i5a i5b
        gi_wp2_with (first
          | (gi_at_call 34; refine (callsIn_wide.2 (II.from_any _ _ _)).mono ?_; rintro e w7 ⟨rfl, rfl⟩)
          | (gi_at_call 26; refine (callsIn_wide.2 (II.two_any _ _ _)).mono ?_; rintro e w7 ⟨rfl, rfl⟩))
        obtain ⟨i0, hi, hz0, hz1, hz2⟩ := info_parts infoInt
        obtain ⟨A', c', rfl, hHas, hU⟩ := g6.out.two.own.has_under
        have hB9 : Below w6.heap.size w6 (((w6.alloc (.cells #[.slice none 0 0] 51)).alloc (.cells #[.pointer (some ⟨P, 0, none⟩)] 46)).alloc (.cells #[.int .i64 key] 3)) := (((Below.refl _ w6).alloc (Nat.le_refl _) _).alloc (by simp) _).alloc (by simp; omega) _
        have bF := Boxed.new w6 51 (.slice none 0 0)
        have bP := Boxed.new (w6.alloc (.cells #[.slice none 0 0] 51)) 46 (.pointer (some ⟨P, 0, none⟩))
        have bY := Boxed.new ((w6.alloc (.cells #[.slice none 0 0] 51)).alloc (.cells #[.pointer (some ⟨P, 0, none⟩)] 46)) 3 (.int .i64 key)
        simp only [World.size_alloc] at bP bY
        have hseq := II.from_idx 5 w6.heap.size (w6.heap.size + 1) (w6.heap.size + 1 + 1) (some ⟨P, 0, none⟩) A' c' l key _ (bP.alloc _).cell bY.cell (hHas.below hB9) hU (by simp; omega)
        rw [ghr.out] at hseq
        have hI0 := (bF.alloc (.cells #[.pointer (some ⟨P, 0, none⟩)] 46)).alloc (.cells #[.int .i64 key] 3)
        clear hHas hU bF bP bY c6 m6 i6a i6b
        refine wpIn_rangeFunc_ownG rfl (by omega) (gf := 105) (lb := #[.pointer (some ⟨w6.heap.size + 1, 0, none⟩), .pointer (some ⟨w6.heap.size + 1 + 1, 0, none⟩)]) rfl trivial (enters_of Try.func105 (by kernel_rfl) rfl)
          hseq belowK_t (belowK_b (by simp; omega)) (Below.refl _ _) (fun _ => rfl)
          (fun (pre : List Nat) W => (∃ v', Boxed W w6.heap.size 51 v' ∧ W.ownsRow w6.heap.size 3 1 v' pre.length (pre.map fun i => Value.int .i64 (II.itemAt (l.drop r) i).1) ∧ True) ∧ Below w6.heap.size w6 W)
          (fun _ _ _ => False)
          (OwnFrom.and (Own.from (holdsRow_own w6.heap.size w6.heap.size 51 3 1 (fun pre : List Nat => pre.length) (fun pre : List Nat => pre.map fun i => Value.int .i64 (II.itemAt (l.drop r) i).1) (fun _ _ => True)) _) (ownFrom_below (Nat.le_refl _) (by simp; omega)))
          (fun _ _ _ _ _ hs _ _ => hs)
          ⟨⟨_, hI0, World.ownsRow_nil _ _ _ _, trivial⟩, hB9⟩
          ?a1 ?assign ?body ?done ?stop
        case assign =>
          intro l x W K hK
          unfold II.encAt II.encs
          gi_wp2
          exact hK
        case stop =>
          rintro D c pre W _ _ h _
          exact h.elim
        case body =>
          rintro l' pre i W ⟨⟨v', hv, hrow, _⟩, hB⟩ hlt
          have gW := g6.out.below hB
          have hlk := from_item (r := r) gW (Nat.lt_of_le_of_lt (Nat.zero_le _) hlt) i
          have cK := gW.bK.cell
          rw [← gN.out] at cK
          have cM := gW.bM.cell
          obtain ⟨F, cF, rfl⟩ := row_shape hrow
          have hc := hv.cell
          have hle : pre.length < m + 1 := by have h := hlt; rw [List.length_drop, ← gN.out] at h; omega
          have gBW := Lib.hid hB
          have gv := Lib.hid hv
          have grow := Lib.hid hrow
          clear hlt gW hseq hI0 hB9 hv hrow hB
          gi_wp2_with (gi_at_builtin; refine wpListIn_append_own _ rfl _ _ 51 rfl w6.heap.size 3 i0 (.int .i64 0) 1 8 Try.underlying51 hi hz0 hz1 hz2 rfl (by decide) _ _ _ rfl (grow.out.alloc _) ⟨W.heap.size, 0, none⟩ 1 1 [.int .i64 (II.itemAt (l.drop r) i).1] rfl rfl (cell_one_new _ _ _) (by simp [Value.oneCell']) (by unfold maxLen; omega) (by omega) (by have := gBW.out.size; simp; omega) ?_; intro v'' w10 hown' hgrow _; obtain ⟨g', cap', rfl⟩ := ownsRow_succ hown'; obtain ⟨hv1, hv2, hr2, hk2, hb2⟩ := gv.out.appended (by decide) grow.out gBW.out.size (Nat.le_refl _) hown' hgrow; have hc1 := hv1.cell; have hf1 := hv1.frozen)
          exact ⟨hk2.from _, hb2, ⟨_, hv2, by simpa using hr2, trivial⟩, gBW.out.trans hb2⟩
        case done =>
          rintro Dk ys W hD rfl ⟨⟨v', hv, hrow, _⟩, hB⟩ hK
          have gW := Lib.hid (g6.out.below hB)
          have hlen : (List.range (l.drop r).length).length = m + 1 - r := by rw [List.length_range, List.length_drop, ← gN.out]
          rw [hlen, from_keys] at hrow
          obtain ⟨F, cF, rfl⟩ := row_shape hrow
          have gv := Lib.hid hv
          have grow := Lib.hid hrow
          have gK := Lib.hid hK
          have gD := Lib.hid hD
          obtain ⟨X, hX⟩ : ∃ X, X = (if c2 = r then some (⟨g, 0, none⟩ : Addr) else (some (⟨g, 0, none⟩ : Addr)).map (fun x => x.add r)) := ⟨_, rfl⟩
          have hcc : r ≤ m + 1 ∧ m + 1 ≤ c2 := by
            have h := gW.out.row
            have hNl := gN.out
            rcases h.2 with ⟨_, h0⟩ | ⟨g', cap', cur, e, _, _, hc', _⟩
            · omega
            · have e1 : c2 = cap' := by injection e
              omega
          have hsl : ∀ w' : World, (Instr.slice 51 (.slice (some ⟨g, 0, none⟩) (m + 1) c2) (some (.int .i64 (r : Int))) none none).run Try.prog w' = .ok (.slice X (m + 1 - r) (c2 - r)) w' := by
            intro w'
            have i1 : (r : Int) ≤ (m : Int) + 1 := by omega
            rw [hX]
            simp [Instr.slice, run_underlying Try.underlying51, Instr.sliceBounds, Instr.sliceBound, asIntOf, hcc, Try.sizeOf3]
          have gX := Lib.hid hX
          have cK := gW.out.bK.cell
          rw [← gN.out] at cK
          have cF' := hv.cell
          have gEq : ∀ q, Hid (Calls Try.prog 35 #[.slice F (m + 1 - r) cF, .slice X (m + 1 - r) (c2 - r)] (W.drewN q) fun e w' => e = .returned (.bool true) ∧ ∃ q', w' = (W.drewN q).drewN q') := fun q =>
            (equal_from (II.owns_below grow.out (below_drewN (Below.refl _ _) q)) (gN.out ▸ (II.owns_below gW.out.row (below_drewN (Below.refl _ _) q))) gN.out (by omega) hn100 gX.out)
          clear hX hK hD hv hrow hB hseq hI0 hB9 hcc
          gi_wp2_with fail
          gi_quiet (first | (gi_at_call 35; exact callsIn_wide.2 ((gEq _).out.mono fun e w' h => ⟨h.1, h.2.elim fun q' h => ⟨_, h.trans (World.drewN_drewN _ _ _)⟩⟩)))
          have hw6 : w.heap.size < w6.heap.size := g6.out.bR.lt
          have g7 := Lib.hid (gW.out.below (below_drewN (Below.refl _ _) nq))
          have gK7 := Lib.hid (show (W.drewN nq).heap[Dk]? = some (.deferred (some [])) from ((below_drewN (Below.refl _ W) nq).block Dk (Array.getElem?_eq_some_iff.1 gK.out).1).trans gK.out)
          clear gW gK grow gv gEq cK cF' gX hsl
          gi_wp2_with fail
          refine (callsIn_wide.2 (omin g7.out _ ghm.out)).mono ?_
          rintro e w8 ⟨rfl, g8, hb8⟩
          have gK8 := Lib.hid ((hb8.out.block Dk (Array.getElem?_eq_some_iff.1 gK7.out).1).trans gK7.out)
          gi_wp2_with fail
          refine (callsIn_wide.2 (omax g8.out _ ghx.out)).mono ?_
          rintro e w9 ⟨rfl, g9, hb9⟩
          have gK9 := Lib.hid ((hb9.out.block Dk (Array.getElem?_eq_some_iff.1 gK8.out).1).trans gK8.out)
          have cK9 := g9.out.bK.cell
          rw [← gN.out] at cK9
          have cM9 := g9.out.bM.cell
          have i9a := (oitem g9.out h0).1
          have i9b := (oitem g9.out h0).2
          have i9c := (oitem g9.out hm).1
          have i9d := (oitem g9.out hm).2
          clear g7 g8 hb8 hb9 gK7 gK8
          gi_wp2_with (gi_at_call 10; refine (callsIn_wide.2 (works_any _)).mono ?_; rintro e w12 ⟨rfl, hBw⟩
                       have g12 := Lib.hid (g9.out.below hBw)
                       have r1 := g12.out.bR.cell
                       have r2 := g12.out.bR.frozen
                       have gK12 := Lib.hid ((hBw.block Dk (Array.getElem?_eq_some_iff.1 gK9.out).1).trans gK9.out)
                       clear hBw)
          have hDl : w6.heap.size ≤ Dk := by have h := gD.out; simp at h; omega
          obtain ⟨hK2, hfin⟩ := ord_end g12.out.bR g12.out.bel hw6 hDl gK12.out
          refine ⟨by simp, .inl ⟨_, _, rfl, run_takeDeferred hK2, ?_⟩⟩
          obtain ⟨hRF, hend⟩ := hfin _ rfl
          refine ⟨.bool true, ?_, rfl, hend⟩
          clear hend hfin hK2
          generalize (w12.setCell ⟨w.heap.size, 0, none⟩ (.bool true)).putObj Dk (.deferred none) = WF at hRF ⊢
          simp [results, Try.results6, go_sem, hRF]
      | low m r a0 v0 am vm hr0 hc h0 hm =>
        simp only [II.ans] at ghc ghf ghm ghx ⊢
        have hr2 : r < m + 1 := by omega
        have hq1 : ¬ (0 : Int) ≤ (r : Int) - 1 := by omega
        have hq2 : ¬ (1 : Int) ≤ (r : Int) := by omega
        have hq3 : (r : Int) < (m : Int) + 1 := by omega
        clear hr0
        obtain ⟨g, rfl⟩ := orow g5.out (by rw [← gN.out]; omega)
        have i5a := (oitem g5.out hc).1
        have i5b := (oitem g5.out hc).2
        gi_wp2_with fail
        refine (callsIn_wide.2 (ofloor g5.out key _ ghf.out)).mono ?_
        rintro e w6 ⟨rfl, g6, _⟩
        have c6 := g6.out.bK.cell
        rw [← gN.out] at c6
        have m6 := g6.out.bM.cell
        clear g5 c5 m5 i5a i5b
        gi_wp2_with (first
          | (gi_at_call 34; refine (callsIn_wide.2 (II.from_any _ _ _)).mono ?_; rintro e w7 ⟨rfl, rfl⟩)
          | (gi_at_call 26; refine (callsIn_wide.2 (II.two_any _ _ _)).mono ?_; rintro e w7 ⟨rfl, rfl⟩))
        obtain ⟨i0, hi, hz0, hz1, hz2⟩ := info_parts infoInt
        obtain ⟨A', c', rfl, hHas, hU⟩ := g6.out.two.own.has_under
        have hB9 : Below w6.heap.size w6 (((w6.alloc (.cells #[.slice none 0 0] 51)).alloc (.cells #[.pointer (some ⟨P, 0, none⟩)] 46)).alloc (.cells #[.int .i64 key] 3)) := (((Below.refl _ w6).alloc (Nat.le_refl _) _).alloc (by simp) _).alloc (by simp; omega) _
        have bF := Boxed.new w6 51 (.slice none 0 0)
        have bP := Boxed.new (w6.alloc (.cells #[.slice none 0 0] 51)) 46 (.pointer (some ⟨P, 0, none⟩))
        have bY := Boxed.new ((w6.alloc (.cells #[.slice none 0 0] 51)).alloc (.cells #[.pointer (some ⟨P, 0, none⟩)] 46)) 3 (.int .i64 key)
        simp only [World.size_alloc] at bP bY
        have hseq := II.from_idx 5 w6.heap.size (w6.heap.size + 1) (w6.heap.size + 1 + 1) (some ⟨P, 0, none⟩) A' c' l key _ (bP.alloc _).cell bY.cell (hHas.below hB9) hU (by simp; omega)
        rw [ghr.out] at hseq
        have hI0 := (bF.alloc (.cells #[.pointer (some ⟨P, 0, none⟩)] 46)).alloc (.cells #[.int .i64 key] 3)
        clear hHas hU bF bP bY c6 m6
        refine wpIn_rangeFunc_ownG rfl (by omega) (gf := 105) (lb := #[.pointer (some ⟨w6.heap.size + 1, 0, none⟩), .pointer (some ⟨w6.heap.size + 1 + 1, 0, none⟩)]) rfl trivial (enters_of Try.func105 (by kernel_rfl) rfl)
          hseq belowK_t (belowK_b (by simp; omega)) (Below.refl _ _) (fun _ => rfl)
          (fun (pre : List Nat) W => (∃ v', Boxed W w6.heap.size 51 v' ∧ W.ownsRow w6.heap.size 3 1 v' pre.length (pre.map fun i => Value.int .i64 (II.itemAt (l.drop r) i).1) ∧ True) ∧ Below w6.heap.size w6 W)
          (fun _ _ _ => False)
          (OwnFrom.and (Own.from (holdsRow_own w6.heap.size w6.heap.size 51 3 1 (fun pre : List Nat => pre.length) (fun pre : List Nat => pre.map fun i => Value.int .i64 (II.itemAt (l.drop r) i).1) (fun _ _ => True)) _) (ownFrom_below (Nat.le_refl _) (by simp; omega)))
          (fun _ _ _ _ _ hs _ _ => hs)
          ⟨⟨_, hI0, World.ownsRow_nil _ _ _ _, trivial⟩, hB9⟩
          ?a1l ?assignl ?bodyl ?donel ?stopl
        case assignl =>
          intro l x W K hK
          unfold II.encAt II.encs
          gi_wp2
          exact hK
        case stopl =>
          rintro D c pre W _ _ h _
          exact h.elim
        case bodyl =>
          rintro l' pre i W ⟨⟨v', hv, hrow, _⟩, hB⟩ hlt
          have gW := g6.out.below hB
          have hlk := from_item (r := r) gW (Nat.lt_of_le_of_lt (Nat.zero_le _) hlt) i
          have cK := gW.bK.cell
          rw [← gN.out] at cK
          have cM := gW.bM.cell
          obtain ⟨F, cF, rfl⟩ := row_shape hrow
          have hc := hv.cell
          have hle : pre.length < m + 1 := by have h := hlt; rw [List.length_drop, ← gN.out] at h; omega
          have gBW := Lib.hid hB
          have gv := Lib.hid hv
          have grow := Lib.hid hrow
          clear hlt gW hseq hI0 hB9 hv hrow hB
          gi_wp2_with (gi_at_builtin; refine wpListIn_append_own _ rfl _ _ 51 rfl w6.heap.size 3 i0 (.int .i64 0) 1 8 Try.underlying51 hi hz0 hz1 hz2 rfl (by decide) _ _ _ rfl (grow.out.alloc _) ⟨W.heap.size, 0, none⟩ 1 1 [.int .i64 (II.itemAt (l.drop r) i).1] rfl rfl (cell_one_new _ _ _) (by simp [Value.oneCell']) (by unfold maxLen; omega) (by omega) (by have := gBW.out.size; simp; omega) ?_; intro v'' w10 hown' hgrow _; obtain ⟨g', cap', rfl⟩ := ownsRow_succ hown'; obtain ⟨hv1, hv2, hr2, hk2, hb2⟩ := gv.out.appended (by decide) grow.out gBW.out.size (Nat.le_refl _) hown' hgrow; have hc1 := hv1.cell; have hf1 := hv1.frozen)
          exact ⟨hk2.from _, hb2, ⟨_, hv2, by simpa using hr2, trivial⟩, gBW.out.trans hb2⟩
        case donel =>
          rintro Dk ys W hD rfl ⟨⟨v', hv, hrow, _⟩, hB⟩ hK
          have gW := Lib.hid (g6.out.below hB)
          have hlen : (List.range (l.drop r).length).length = m + 1 - r := by rw [List.length_range, List.length_drop, ← gN.out]
          rw [hlen, from_keys] at hrow
          obtain ⟨F, cF, rfl⟩ := row_shape hrow
          have gv := Lib.hid hv
          have grow := Lib.hid hrow
          have gK := Lib.hid hK
          have gD := Lib.hid hD
          obtain ⟨X, hX⟩ : ∃ X, X = (if c2 = r then some (⟨g, 0, none⟩ : Addr) else (some (⟨g, 0, none⟩ : Addr)).map (fun x => x.add r)) := ⟨_, rfl⟩
          have hcc : r ≤ m + 1 ∧ m + 1 ≤ c2 := by
            have h := gW.out.row
            have hNl := gN.out
            rcases h.2 with ⟨_, h0⟩ | ⟨g', cap', cur, e, _, _, hc', _⟩
            · omega
            · have e1 : c2 = cap' := by injection e
              omega
          have hsl : ∀ w' : World, (Instr.slice 51 (.slice (some ⟨g, 0, none⟩) (m + 1) c2) (some (.int .i64 (r : Int))) none none).run Try.prog w' = .ok (.slice X (m + 1 - r) (c2 - r)) w' := by
            intro w'
            have i1 : (r : Int) ≤ (m : Int) + 1 := by omega
            rw [hX]
            simp [Instr.slice, run_underlying Try.underlying51, Instr.sliceBounds, Instr.sliceBound, asIntOf, hcc, Try.sizeOf3]
          have gX := Lib.hid hX
          have cK := gW.out.bK.cell
          rw [← gN.out] at cK
          have cF' := hv.cell
          have gEq : ∀ q, Hid (Calls Try.prog 35 #[.slice F (m + 1 - r) cF, .slice X (m + 1 - r) (c2 - r)] (W.drewN q) fun e w' => e = .returned (.bool true) ∧ ∃ q', w' = (W.drewN q).drewN q') := fun q =>
            (equal_from (II.owns_below grow.out (below_drewN (Below.refl _ _) q)) (gN.out ▸ (II.owns_below gW.out.row (below_drewN (Below.refl _ _) q))) gN.out (by omega) hn100 gX.out)
          clear hX hK hD hv hrow hB hseq hI0 hB9 hcc
          gi_wp2_with fail
          gi_quiet (first | (gi_at_call 35; exact callsIn_wide.2 ((gEq _).out.mono fun e w' h => ⟨h.1, h.2.elim fun q' h => ⟨_, h.trans (World.drewN_drewN _ _ _)⟩⟩)))
          have hw6 : w.heap.size < w6.heap.size := g6.out.bR.lt
          have g7 := Lib.hid (gW.out.below (below_drewN (Below.refl _ _) nq))
          have gK7 := Lib.hid (show (W.drewN nq).heap[Dk]? = some (.deferred (some [])) from ((below_drewN (Below.refl _ W) nq).block Dk (Array.getElem?_eq_some_iff.1 gK.out).1).trans gK.out)
          clear gW gK grow gv gEq cK cF' gX hsl
          gi_wp2_with fail
          refine (callsIn_wide.2 (omin g7.out _ ghm.out)).mono ?_
          rintro e w8 ⟨rfl, g8, hb8⟩
          have gK8 := Lib.hid ((hb8.out.block Dk (Array.getElem?_eq_some_iff.1 gK7.out).1).trans gK7.out)
          gi_wp2_with fail
          refine (callsIn_wide.2 (omax g8.out _ ghx.out)).mono ?_
          rintro e w9 ⟨rfl, g9, hb9⟩
          have gK9 := Lib.hid ((hb9.out.block Dk (Array.getElem?_eq_some_iff.1 gK8.out).1).trans gK8.out)
          have cK9 := g9.out.bK.cell
          rw [← gN.out] at cK9
          have cM9 := g9.out.bM.cell
          have i9a := (oitem g9.out h0).1
          have i9b := (oitem g9.out h0).2
          have i9c := (oitem g9.out hm).1
          have i9d := (oitem g9.out hm).2
          clear g7 g8 hb8 hb9 gK7 gK8
          gi_wp2_with (gi_at_call 10; refine (callsIn_wide.2 (works_any _)).mono ?_; rintro e w12 ⟨rfl, hBw⟩
                       have g12 := Lib.hid (g9.out.below hBw)
                       have r1 := g12.out.bR.cell
                       have r2 := g12.out.bR.frozen
                       have gK12 := Lib.hid ((hBw.block Dk (Array.getElem?_eq_some_iff.1 gK9.out).1).trans gK9.out)
                       clear hBw)
          have hDl : w6.heap.size ≤ Dk := by have h := gD.out; simp at h; omega
          obtain ⟨hK2, hfin⟩ := ord_end g12.out.bR g12.out.bel hw6 hDl gK12.out
          refine ⟨by simp, .inl ⟨_, _, rfl, run_takeDeferred hK2, ?_⟩⟩
          obtain ⟨hRF, hend⟩ := hfin _ rfl
          refine ⟨.bool true, ?_, rfl, hend⟩
          clear hend hfin hK2
          generalize (w12.setCell ⟨w.heap.size, 0, none⟩ (.bool true)).putObj Dk (.deferred none) = WF at hRF ⊢
          simp [results, Try.results6, go_sem, hRF]
      | between m r ac vc af vf a0 v0 am vm hr hc hf h0 hm =>
        simp only [II.ans] at ghc ghf ghm ghx ⊢
        obtain ⟨g, rfl⟩ := orow g5.out (by rw [← gN.out]; omega)
        have i5a := (oitem g5.out hc).1
        have i5b := (oitem g5.out hc).2
        gi_wp2_with fail
        refine (callsIn_wide.2 (ofloor g5.out key _ ghf.out)).mono ?_
        rintro e w6 ⟨rfl, g6, _⟩
        have c6 := g6.out.bK.cell
        rw [← gN.out] at c6
        have m6 := g6.out.bM.cell
        have i6a := (oitem g6.out hf).1
        have i6b := (oitem g6.out hf).2
        clear g5 c5 m5 i5a i5b
        gi_wp2_with (first
          | (gi_at_call 34; refine (callsIn_wide.2 (II.from_any _ _ _)).mono ?_; rintro e w7 ⟨rfl, rfl⟩)
          | (gi_at_call 26; refine (callsIn_wide.2 (II.two_any _ _ _)).mono ?_; rintro e w7 ⟨rfl, rfl⟩))
        obtain ⟨rr, hrr⟩ : ∃ rr : Nat, rr = r + 1 := ⟨_, rfl⟩
        have hrc : (r : Int) + 1 = (rr : Int) := by omega
        have hr2 : rr < m + 1 := by omega
        have ghr2 := Lib.hid (ghr.out.trans hrr.symm)
        rw [hrc]
        clear hrc hrr
        obtain ⟨i0, hi, hz0, hz1, hz2⟩ := info_parts infoInt
        obtain ⟨A', c', rfl, hHas, hU⟩ := g6.out.two.own.has_under
        have hB9 : Below w6.heap.size w6 (((w6.alloc (.cells #[.slice none 0 0] 51)).alloc (.cells #[.pointer (some ⟨P, 0, none⟩)] 46)).alloc (.cells #[.int .i64 key] 3)) := (((Below.refl _ w6).alloc (Nat.le_refl _) _).alloc (by simp) _).alloc (by simp; omega) _
        have bF := Boxed.new w6 51 (.slice none 0 0)
        have bP := Boxed.new (w6.alloc (.cells #[.slice none 0 0] 51)) 46 (.pointer (some ⟨P, 0, none⟩))
        have bY := Boxed.new ((w6.alloc (.cells #[.slice none 0 0] 51)).alloc (.cells #[.pointer (some ⟨P, 0, none⟩)] 46)) 3 (.int .i64 key)
        simp only [World.size_alloc] at bP bY
        have hseq := II.from_idx 5 w6.heap.size (w6.heap.size + 1) (w6.heap.size + 1 + 1) (some ⟨P, 0, none⟩) A' c' l key _ (bP.alloc _).cell bY.cell (hHas.below hB9) hU (by simp; omega)
        rw [ghr2.out] at hseq
        have hI0 := (bF.alloc (.cells #[.pointer (some ⟨P, 0, none⟩)] 46)).alloc (.cells #[.int .i64 key] 3)
        clear hHas hU bF bP bY c6 m6 i6a i6b
        refine wpIn_rangeFunc_ownG rfl (by omega) (gf := 105) (lb := #[.pointer (some ⟨w6.heap.size + 1, 0, none⟩), .pointer (some ⟨w6.heap.size + 1 + 1, 0, none⟩)]) rfl trivial (enters_of Try.func105 (by kernel_rfl) rfl)
          hseq belowK_t (belowK_b (by simp; omega)) (Below.refl _ _) (fun _ => rfl)
          (fun (pre : List Nat) W => (∃ v', Boxed W w6.heap.size 51 v' ∧ W.ownsRow w6.heap.size 3 1 v' pre.length (pre.map fun i => Value.int .i64 (II.itemAt (l.drop rr) i).1) ∧ True) ∧ Below w6.heap.size w6 W)
          (fun _ _ _ => False)
          (OwnFrom.and (Own.from (holdsRow_own w6.heap.size w6.heap.size 51 3 1 (fun pre : List Nat => pre.length) (fun pre : List Nat => pre.map fun i => Value.int .i64 (II.itemAt (l.drop rr) i).1) (fun _ _ => True)) _) (ownFrom_below (Nat.le_refl _) (by simp; omega)))
          (fun _ _ _ _ _ hs _ _ => hs)
          ⟨⟨_, hI0, World.ownsRow_nil _ _ _ _, trivial⟩, hB9⟩
          ?a1b ?assignb ?bodyb ?doneb ?stopb
        case assignb =>
          intro l x W K hK
          unfold II.encAt II.encs
          gi_wp2
          exact hK
        case stopb =>
          rintro D c pre W _ _ h _
          exact h.elim
        case bodyb =>
          rintro l' pre i W ⟨⟨v', hv, hrow, _⟩, hB⟩ hlt
          have gW := g6.out.below hB
          have hlk := from_item (r := rr) gW (Nat.lt_of_le_of_lt (Nat.zero_le _) hlt) i
          have cK := gW.bK.cell
          rw [← gN.out] at cK
          have cM := gW.bM.cell
          obtain ⟨F, cF, rfl⟩ := row_shape hrow
          have hc := hv.cell
          have hle : pre.length < m + 1 := by have h := hlt; rw [List.length_drop, ← gN.out] at h; omega
          have gBW := Lib.hid hB
          have gv := Lib.hid hv
          have grow := Lib.hid hrow
          clear hlt gW hseq hI0 hB9 hv hrow hB
          gi_wp2_with (gi_at_builtin; refine wpListIn_append_own _ rfl _ _ 51 rfl w6.heap.size 3 i0 (.int .i64 0) 1 8 Try.underlying51 hi hz0 hz1 hz2 rfl (by decide) _ _ _ rfl (grow.out.alloc _) ⟨W.heap.size, 0, none⟩ 1 1 [.int .i64 (II.itemAt (l.drop rr) i).1] rfl rfl (cell_one_new _ _ _) (by simp [Value.oneCell']) (by unfold maxLen; omega) (by omega) (by have := gBW.out.size; simp; omega) ?_; intro v'' w10 hown' hgrow _; obtain ⟨g', cap', rfl⟩ := ownsRow_succ hown'; obtain ⟨hv1, hv2, hr2, hk2, hb2⟩ := gv.out.appended (by decide) grow.out gBW.out.size (Nat.le_refl _) hown' hgrow; have hc1 := hv1.cell; have hf1 := hv1.frozen)
          exact ⟨hk2.from _, hb2, ⟨_, hv2, by simpa using hr2, trivial⟩, gBW.out.trans hb2⟩
        case doneb =>
          rintro Dk ys W hD rfl ⟨⟨v', hv, hrow, _⟩, hB⟩ hK
          have gW := Lib.hid (g6.out.below hB)
          have hlen : (List.range (l.drop rr).length).length = m + 1 - rr := by rw [List.length_range, List.length_drop, ← gN.out]
          rw [hlen, from_keys] at hrow
          obtain ⟨F, cF, rfl⟩ := row_shape hrow
          have gv := Lib.hid hv
          have grow := Lib.hid hrow
          have gK := Lib.hid hK
          have gD := Lib.hid hD
          obtain ⟨X, hX⟩ : ∃ X, X = (if c2 = rr then some (⟨g, 0, none⟩ : Addr) else (some (⟨g, 0, none⟩ : Addr)).map (fun x => x.add rr)) := ⟨_, rfl⟩
          have hcc : rr ≤ m + 1 ∧ m + 1 ≤ c2 := by
            have h := gW.out.row
            have hNl := gN.out
            rcases h.2 with ⟨_, h0⟩ | ⟨g', cap', cur, e, _, _, hc', _⟩
            · omega
            · have e1 : c2 = cap' := by injection e
              omega
          have hsl : ∀ w' : World, (Instr.slice 51 (.slice (some ⟨g, 0, none⟩) (m + 1) c2) (some (.int .i64 (rr : Int))) none none).run Try.prog w' = .ok (.slice X (m + 1 - rr) (c2 - rr)) w' := by
            intro w'
            have i1 : (rr : Int) ≤ (m : Int) + 1 := by omega
            rw [hX]
            simp [Instr.slice, run_underlying Try.underlying51, Instr.sliceBounds, Instr.sliceBound, asIntOf, hcc, Try.sizeOf3]
          have gX := Lib.hid hX
          have cK := gW.out.bK.cell
          rw [← gN.out] at cK
          have cF' := hv.cell
          have gEq : ∀ q, Hid (Calls Try.prog 35 #[.slice F (m + 1 - rr) cF, .slice X (m + 1 - rr) (c2 - rr)] (W.drewN q) fun e w' => e = .returned (.bool true) ∧ ∃ q', w' = (W.drewN q).drewN q') := fun q =>
            (equal_from (II.owns_below grow.out (below_drewN (Below.refl _ _) q)) (gN.out ▸ (II.owns_below gW.out.row (below_drewN (Below.refl _ _) q))) gN.out (by omega) hn100 gX.out)
          clear hX hK hD hv hrow hB hseq hI0 hB9 hcc
          gi_wp2_with fail
          gi_quiet (first | (gi_at_call 35; exact callsIn_wide.2 ((gEq _).out.mono fun e w' h => ⟨h.1, h.2.elim fun q' h => ⟨_, h.trans (World.drewN_drewN _ _ _)⟩⟩)))
          have hw6 : w.heap.size < w6.heap.size := g6.out.bR.lt
          have g7 := Lib.hid (gW.out.below (below_drewN (Below.refl _ _) nq))
          have gK7 := Lib.hid (show (W.drewN nq).heap[Dk]? = some (.deferred (some [])) from ((below_drewN (Below.refl _ W) nq).block Dk (Array.getElem?_eq_some_iff.1 gK.out).1).trans gK.out)
          clear gW gK grow gv gEq cK cF' gX hsl
          gi_wp2_with fail
          refine (callsIn_wide.2 (omin g7.out _ ghm.out)).mono ?_
          rintro e w8 ⟨rfl, g8, hb8⟩
          have gK8 := Lib.hid ((hb8.out.block Dk (Array.getElem?_eq_some_iff.1 gK7.out).1).trans gK7.out)
          gi_wp2_with fail
          refine (callsIn_wide.2 (omax g8.out _ ghx.out)).mono ?_
          rintro e w9 ⟨rfl, g9, hb9⟩
          have gK9 := Lib.hid ((hb9.out.block Dk (Array.getElem?_eq_some_iff.1 gK8.out).1).trans gK8.out)
          have cK9 := g9.out.bK.cell
          rw [← gN.out] at cK9
          have cM9 := g9.out.bM.cell
          have i9a := (oitem g9.out h0).1
          have i9b := (oitem g9.out h0).2
          have i9c := (oitem g9.out hm).1
          have i9d := (oitem g9.out hm).2
          clear g7 g8 hb8 hb9 gK7 gK8
          gi_wp2_with (gi_at_call 10; refine (callsIn_wide.2 (works_any _)).mono ?_; rintro e w12 ⟨rfl, hBw⟩
                       have g12 := Lib.hid (g9.out.below hBw)
                       have r1 := g12.out.bR.cell
                       have r2 := g12.out.bR.frozen
                       have gK12 := Lib.hid ((hBw.block Dk (Array.getElem?_eq_some_iff.1 gK9.out).1).trans gK9.out)
                       clear hBw)
          have hDl : w6.heap.size ≤ Dk := by have h := gD.out; simp at h; omega
          obtain ⟨hK2, hfin⟩ := ord_end g12.out.bR g12.out.bel hw6 hDl gK12.out
          refine ⟨by simp, .inl ⟨_, _, rfl, run_takeDeferred hK2, ?_⟩⟩
          obtain ⟨hRF, hend⟩ := hfin _ rfl
          refine ⟨.bool true, ?_, rfl, hend⟩
          clear hend hfin hK2
          generalize (w12.setCell ⟨w.heap.size, 0, none⟩ (.bool true)).putObj Dk (.deferred none) = WF at hRF ⊢
          simp [results, Try.results6, go_sem, hRF]
      | high m a0 v0 am vm h0 hm =>
        simp only [II.ans] at ghc ghf ghm ghx ⊢
        obtain ⟨g, rfl⟩ := orow g5.out (by rw [← gN.out]; omega)
        gi_wp2_with fail
        refine (callsIn_wide.2 (ofloor g5.out key _ ghf.out)).mono ?_
        rintro e w6 ⟨rfl, g6, _⟩
        have c6 := g6.out.bK.cell
        rw [← gN.out] at c6
        have m6 := g6.out.bM.cell
        have i6a := (oitem g6.out hm).1
        have i6b := (oitem g6.out hm).2
        clear g5 c5 m5
        gi_wp2_with (first
          | (gi_at_call 34; refine (callsIn_wide.2 (II.from_any _ _ _)).mono ?_; rintro e w7 ⟨rfl, rfl⟩)
          | (gi_at_call 26; refine (callsIn_wide.2 (II.two_any _ _ _)).mono ?_; rintro e w7 ⟨rfl, rfl⟩))
        obtain ⟨rr, hrr⟩ : ∃ rr : Nat, rr = m + 1 := ⟨_, rfl⟩
        have hrc : (m : Int) + 1 = (rr : Int) := by omega
        have hr2 : rr ≤ m + 1 := by omega
        have ghr2 := Lib.hid (ghr.out.trans hrr.symm)
        rw [hrc]
        clear hrc hrr
        obtain ⟨i0, hi, hz0, hz1, hz2⟩ := info_parts infoInt
        obtain ⟨A', c', rfl, hHas, hU⟩ := g6.out.two.own.has_under
        have hB9 : Below w6.heap.size w6 (((w6.alloc (.cells #[.slice none 0 0] 51)).alloc (.cells #[.pointer (some ⟨P, 0, none⟩)] 46)).alloc (.cells #[.int .i64 key] 3)) := (((Below.refl _ w6).alloc (Nat.le_refl _) _).alloc (by simp) _).alloc (by simp; omega) _
        have bF := Boxed.new w6 51 (.slice none 0 0)
        have bP := Boxed.new (w6.alloc (.cells #[.slice none 0 0] 51)) 46 (.pointer (some ⟨P, 0, none⟩))
        have bY := Boxed.new ((w6.alloc (.cells #[.slice none 0 0] 51)).alloc (.cells #[.pointer (some ⟨P, 0, none⟩)] 46)) 3 (.int .i64 key)
        simp only [World.size_alloc] at bP bY
        have hseq := II.from_idx 5 w6.heap.size (w6.heap.size + 1) (w6.heap.size + 1 + 1) (some ⟨P, 0, none⟩) A' c' l key _ (bP.alloc _).cell bY.cell (hHas.below hB9) hU (by simp; omega)
        rw [ghr2.out] at hseq
        have hI0 := (bF.alloc (.cells #[.pointer (some ⟨P, 0, none⟩)] 46)).alloc (.cells #[.int .i64 key] 3)
        clear hHas hU bF bP bY c6 m6 i6a i6b
        refine wpIn_rangeFunc_ownG rfl (by omega) (gf := 105) (lb := #[.pointer (some ⟨w6.heap.size + 1, 0, none⟩), .pointer (some ⟨w6.heap.size + 1 + 1, 0, none⟩)]) rfl trivial (enters_of Try.func105 (by kernel_rfl) rfl)
          hseq belowK_t (belowK_b (by simp; omega)) (Below.refl _ _) (fun _ => rfl)
          (fun (pre : List Nat) W => (∃ v', Boxed W w6.heap.size 51 v' ∧ W.ownsRow w6.heap.size 3 1 v' pre.length (pre.map fun i => Value.int .i64 (II.itemAt (l.drop rr) i).1) ∧ True) ∧ Below w6.heap.size w6 W)
          (fun _ _ _ => False)
          (OwnFrom.and (Own.from (holdsRow_own w6.heap.size w6.heap.size 51 3 1 (fun pre : List Nat => pre.length) (fun pre : List Nat => pre.map fun i => Value.int .i64 (II.itemAt (l.drop rr) i).1) (fun _ _ => True)) _) (ownFrom_below (Nat.le_refl _) (by simp; omega)))
          (fun _ _ _ _ _ hs _ _ => hs)
          ⟨⟨_, hI0, World.ownsRow_nil _ _ _ _, trivial⟩, hB9⟩
          ?a1h ?assignh ?bodyh ?doneh ?stoph
        case assignh =>
          intro l x W K hK
          unfold II.encAt II.encs
          gi_wp2
          exact hK
        case stoph =>
          rintro D c pre W _ _ h _
          exact h.elim
        case bodyh =>
          rintro l' pre i W ⟨⟨v', hv, hrow, _⟩, hB⟩ hlt
          have gW := g6.out.below hB
          have hlk := from_item (r := rr) gW (Nat.lt_of_le_of_lt (Nat.zero_le _) hlt) i
          have cK := gW.bK.cell
          rw [← gN.out] at cK
          have cM := gW.bM.cell
          obtain ⟨F, cF, rfl⟩ := row_shape hrow
          have hc := hv.cell
          have hle : pre.length < m + 1 := by have h := hlt; rw [List.length_drop, ← gN.out] at h; omega
          have gBW := Lib.hid hB
          have gv := Lib.hid hv
          have grow := Lib.hid hrow
          clear hlt gW hseq hI0 hB9 hv hrow hB
          gi_wp2_with (gi_at_builtin; refine wpListIn_append_own _ rfl _ _ 51 rfl w6.heap.size 3 i0 (.int .i64 0) 1 8 Try.underlying51 hi hz0 hz1 hz2 rfl (by decide) _ _ _ rfl (grow.out.alloc _) ⟨W.heap.size, 0, none⟩ 1 1 [.int .i64 (II.itemAt (l.drop rr) i).1] rfl rfl (cell_one_new _ _ _) (by simp [Value.oneCell']) (by unfold maxLen; omega) (by omega) (by have := gBW.out.size; simp; omega) ?_; intro v'' w10 hown' hgrow _; obtain ⟨g', cap', rfl⟩ := ownsRow_succ hown'; obtain ⟨hv1, hv2, hr2, hk2, hb2⟩ := gv.out.appended (by decide) grow.out gBW.out.size (Nat.le_refl _) hown' hgrow; have hc1 := hv1.cell; have hf1 := hv1.frozen)
          exact ⟨hk2.from _, hb2, ⟨_, hv2, by simpa using hr2, trivial⟩, gBW.out.trans hb2⟩
        case doneh =>
          rintro Dk ys W hD rfl ⟨⟨v', hv, hrow, _⟩, hB⟩ hK
          have gW := Lib.hid (g6.out.below hB)
          have hlen : (List.range (l.drop rr).length).length = m + 1 - rr := by rw [List.length_range, List.length_drop, ← gN.out]
          rw [hlen, from_keys] at hrow
          obtain ⟨F, cF, rfl⟩ := row_shape hrow
          have gv := Lib.hid hv
          have grow := Lib.hid hrow
          have gK := Lib.hid hK
          have gD := Lib.hid hD
          obtain ⟨X, hX⟩ : ∃ X, X = (if c2 = rr then some (⟨g, 0, none⟩ : Addr) else (some (⟨g, 0, none⟩ : Addr)).map (fun x => x.add rr)) := ⟨_, rfl⟩
          have hcc : rr ≤ m + 1 ∧ m + 1 ≤ c2 := by
            have h := gW.out.row
            have hNl := gN.out
            rcases h.2 with ⟨_, h0⟩ | ⟨g', cap', cur, e, _, _, hc', _⟩
            · omega
            · have e1 : c2 = cap' := by injection e
              omega
          have hsl : ∀ w' : World, (Instr.slice 51 (.slice (some ⟨g, 0, none⟩) (m + 1) c2) (some (.int .i64 (rr : Int))) none none).run Try.prog w' = .ok (.slice X (m + 1 - rr) (c2 - rr)) w' := by
            intro w'
            have i1 : (rr : Int) ≤ (m : Int) + 1 := by omega
            rw [hX]
            simp [Instr.slice, run_underlying Try.underlying51, Instr.sliceBounds, Instr.sliceBound, asIntOf, hcc, Try.sizeOf3]
          have gX := Lib.hid hX
          have cK := gW.out.bK.cell
          rw [← gN.out] at cK
          have cF' := hv.cell
          have gEq : ∀ q, Hid (Calls Try.prog 35 #[.slice F (m + 1 - rr) cF, .slice X (m + 1 - rr) (c2 - rr)] (W.drewN q) fun e w' => e = .returned (.bool true) ∧ ∃ q', w' = (W.drewN q).drewN q') := fun q =>
            (equal_from (II.owns_below grow.out (below_drewN (Below.refl _ _) q)) (gN.out ▸ (II.owns_below gW.out.row (below_drewN (Below.refl _ _) q))) gN.out (by omega) hn100 gX.out)
          clear hX hK hD hv hrow hB hseq hI0 hB9 hcc
          gi_wp2_with fail
          gi_quiet (first | (gi_at_call 35; exact callsIn_wide.2 ((gEq _).out.mono fun e w' h => ⟨h.1, h.2.elim fun q' h => ⟨_, h.trans (World.drewN_drewN _ _ _)⟩⟩)))
          have hw6 : w.heap.size < w6.heap.size := g6.out.bR.lt
          have g7 := Lib.hid (gW.out.below (below_drewN (Below.refl _ _) nq))
          have gK7 := Lib.hid (show (W.drewN nq).heap[Dk]? = some (.deferred (some [])) from ((below_drewN (Below.refl _ W) nq).block Dk (Array.getElem?_eq_some_iff.1 gK.out).1).trans gK.out)
          clear gW gK grow gv gEq cK cF' gX hsl
          gi_wp2_with fail
          refine (callsIn_wide.2 (omin g7.out _ ghm.out)).mono ?_
          rintro e w8 ⟨rfl, g8, hb8⟩
          have gK8 := Lib.hid ((hb8.out.block Dk (Array.getElem?_eq_some_iff.1 gK7.out).1).trans gK7.out)
          gi_wp2_with fail
          refine (callsIn_wide.2 (omax g8.out _ ghx.out)).mono ?_
          rintro e w9 ⟨rfl, g9, hb9⟩
          have gK9 := Lib.hid ((hb9.out.block Dk (Array.getElem?_eq_some_iff.1 gK8.out).1).trans gK8.out)
          have cK9 := g9.out.bK.cell
          rw [← gN.out] at cK9
          have cM9 := g9.out.bM.cell
          have i9a := (oitem g9.out h0).1
          have i9b := (oitem g9.out h0).2
          have i9c := (oitem g9.out hm).1
          have i9d := (oitem g9.out hm).2
          clear g7 g8 hb8 hb9 gK7 gK8
          gi_wp2_with (gi_at_call 10; refine (callsIn_wide.2 (works_any _)).mono ?_; rintro e w12 ⟨rfl, hBw⟩
                       have g12 := Lib.hid (g9.out.below hBw)
                       have r1 := g12.out.bR.cell
                       have r2 := g12.out.bR.frozen
                       have gK12 := Lib.hid ((hBw.block Dk (Array.getElem?_eq_some_iff.1 gK9.out).1).trans gK9.out)
                       clear hBw)
          have hDl : w6.heap.size ≤ Dk := by have h := gD.out; simp at h; omega
          obtain ⟨hK2, hfin⟩ := ord_end g12.out.bR g12.out.bel hw6 hDl gK12.out
          refine ⟨by simp, .inl ⟨_, _, rfl, run_takeDeferred hK2, ?_⟩⟩
          obtain ⟨hRF, hend⟩ := hfin _ rfl
          refine ⟨.bool true, ?_, rfl, hend⟩
          clear hend hfin hK2
          generalize (w12.setCell ⟨w.heap.size, 0, none⟩ (.bool true)).putObj Dk (.deferred none) = WF at hRF ⊢
          simp [results, Try.results6, go_sem, hRF]
end Go.Proofs.Ytlfigdembgkkoaa
