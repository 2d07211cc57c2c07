/- OrdmapMap: the walk. -/
import Derived.Test.YtlfigdembgkkoaaIISorted
import Derived.Test.YtlfigdembgkkoaaIIFilled
import Derived.Test.YtlfigdembgkkoaaIINear
import Derived.Test.YtlfigdembgkkoaaWorks
import Derived.Sort.QuietIn
namespace Go.Proofs.Ytlfigdembgkkoaa
open Go.RowKit Go.Maps Go.Shelf Go.Sort Go.Lib
attribute [local go_sem] Oper.semAt_some

theorem II.CS.below {w w' : World} {A : Option Addr} {n : Nat} {cs : List II.C} (h : II.CS w A n cs) (hb : Below w.heap.size w w') : II.CS w' A n cs := by
  refine ⟨h.1, h.2.1, fun hn => ?_⟩
  obtain ⟨b, o, e, hlt, hc⟩ := h.2.2 hn
  exact ⟨b, o, e, Nat.lt_of_lt_of_le hlt hb.size, fun j c hj => ⟨(hb.cell (p := ⟨b, o + j * 3, none⟩) hlt).trans (hc j c hj).1, (hb.cell (p := ⟨b, o + j * 3 + 1, none⟩) hlt).trans (hc j c hj).2.1, (hb.cell (p := ⟨b, o + j * 3 + 1 + 1, none⟩) hlt).trans (hc j c hj).2.2⟩⟩
theorem mapI_own {wI : World} {l : List (II.K × II.V)} {bi B : Nat} (hw : bi = wI.heap.size) (hB : bi ≤ B) :
    OwnFrom B (fun (pre : List (II.K × II.V)) W => (pre <+: l ∧ Boxed W bi 3 (.int .i64 (pre.length : Nat))) ∧ Below bi wI W) :=
  OwnFrom.and (fun s X Y row hs hg hr => ⟨hs.1, (Own.from (boxed_own bi 3 (fun pre : List (II.K × II.V) => .int .i64 (pre.length : Nat))) B) s X Y row hs.2 hg hr⟩) (ownFrom_below (by omega) hB)
theorem map_boxes {w1 w2 : World} {P b k : Nat} (h : Below (((w1.alloc (.cells #[.pointer (some ⟨P, 0, none⟩)] 46)).alloc (.cells #[.map (some b)] 47)).drewN k).heap.size (((w1.alloc (.cells #[.pointer (some ⟨P, 0, none⟩)] 46)).alloc (.cells #[.map (some b)] 47)).drewN k) w2) :
    Boxed w2 w1.heap.size 46 (.pointer (some ⟨P, 0, none⟩)) ∧ Boxed w2 (w1.heap.size + 1) 47 (.map (some b)) ∧ w1.heap.size + 1 < w2.heap.size ∧ Below w1.heap.size w1 w2 := by
  have h1 := (Boxed.new w1 46 (.pointer (some ⟨P, 0, none⟩))).alloc (.cells #[.map (some b)] 47)
  have h2 := Boxed.new (w1.alloc (.cells #[.pointer (some ⟨P, 0, none⟩)] 46)) 47 (.map (some b))
  rw [World.size_alloc] at h2
  have hs : (((w1.alloc (.cells #[.pointer (some ⟨P, 0, none⟩)] 46)).alloc (.cells #[.map (some b)] 47)).drewN k).heap.size = w1.heap.size + 1 + 1 := by simp
  rw [hs] at h
  have hz := h.size
  rw [hs] at hz
  refine ⟨(h.block _ (by omega)).trans h1, (h.block _ (by omega)).trans h2, by omega, ?_⟩
  refine (below_drewN ((((Below.refl _ w1).alloc (Nat.le_refl _) _).alloc (by simp) _)) k).trans (h.mono (by omega))
theorem map_cells {w2 W : World} {z P b B : Nat} {kv : Value} (h46 : Boxed w2 z 46 (.pointer (some ⟨P, 0, none⟩))) (h47 : Boxed w2 (z + 1) 47 (.map (some b)))
    (hz : z + 1 < w2.heap.size) (e : B = w2.heap.size + 1) (hB : Below B (w2.alloc (.cells #[kv] 51)) W) :
    W.cell? ⟨z, 0, none⟩ = some (.pointer (some ⟨P, 0, none⟩)) ∧ W.cell? ⟨z + 1, 0, none⟩ = some (.map (some b)) ∧ W.cell? ⟨w2.heap.size, 0, none⟩ = some kv :=
  ⟨(hB.cell (p := ⟨z, 0, none⟩) (show z < B by omega)).trans (h46.alloc _).cell, (hB.cell (p := ⟨z + 1, 0, none⟩) (show z + 1 < B by omega)).trans (h47.alloc _).cell,
    (hB.cell (p := ⟨w2.heap.size, 0, none⟩) (show w2.heap.size < B by omega)).trans (Boxed.new w2 51 kv).cell⟩
/-- One item: its key in the sorted row, its value in the Go map. -/
theorem map_item {w0 W : World} {P b n c B : Nat} {v : Value} {l : List (II.K × II.V)} {D : DataW Unit} {A : Option Addr} (h : II.Two w0 W P b n v l D) (hk : W.ownsRow B 3 1 (.slice A l.length c) l.length ((keysOf l).map (Value.int .i64))) {i : Nat} (hi : i < l.length) :
    ∃ (g : Nat) (kx vx : Int), A = some ⟨g, 0, none⟩ ∧ l[i]? = some (kx, vx) ∧ W.cell? ⟨g, i, none⟩ = some (.int .i64 kx) ∧ (Instr.lookup 47 (.map (some b)) (.int .i64 kx) false).run Try.prog W = .ok (.int .i64 vx) W ∧
      hasB II.lt (keysOf l) kx = true ∧ getL II.lt l kx II.z0 = vx := by
  obtain ⟨kx, vx, e⟩ : ∃ kx vx : Int, l[i]? = some (kx, vx) := ⟨l[i].1, l[i].2, List.getElem?_eq_getElem hi⟩
  have hx := II.item_of h (List.mem_of_getElem? e)
  rcases hk.2 with ⟨e0, h0⟩ | ⟨g, cap, cur, e0, _⟩
  · omega
  · have e1 : A = some ⟨g, 0, none⟩ := by injection e0
    subst e1
    have hc := hk.cells (g := g) rfl i (.int .i64 kx) (by simp [keysOf, e])
    rw [IS.add_plain, Nat.zero_add] at hc
    exact ⟨g, kx, vx, rfl, e, hc, hx.2.2.2, hx.2.1, hx.2.2.1⟩
theorem prefix_next {α : Type} {pre l : List α} {x : α} (h : pre <+: l) (hx : l[pre.length]? = some x) : pre ++ [x] <+: l := by
  obtain ⟨t, rfl⟩ := h
  cases t with
  | nil => simp at hx
  | cons y t =>
    obtain rfl : y = x := by simpa using hx
    exact ⟨t, by simp⟩
theorem prefix_not {α : Type} {pre l : List α} {x y : α} (hx : l[pre.length]? = some x) (hy : y ≠ x) : ¬ pre ++ [y] <+: l := by
  rintro ⟨t, rfl⟩
  simp at hx
  exact hy hx
theorem keeps_below {W W' : World} (h : Below W.heap.size W W') : KeepsOthers W W' := ⟨h.size, fun k _ hk _ => (h.block k (II.lt_of_heap hk)).trans hk⟩
set_option maxRecDepth 1000000 in
set_option maxHeartbeats 8000000 in
theorem ordmapMap_walk (A : Option Addr) (n cap : Nat) (cs : List II.C) (w : World) (h : II.CS w A n cs) (hcap : n ≤ cap ∧ cap ≤ 9223372036854775807) :
    Calls Try.prog 5 #[.slice A n cap] w fun e w' => e = .returned (.bool true) ∧ Below w.heap.size w w' := by
  refine (callsIn_wide (n := 6)).1 ?_
  refine callsIn_of_wp_marks Try.func5 rfl trivial ?_ rfl
  simp only [Try.ntmps5, List.size_toArray, List.length_cons, List.length_nil, Nat.reduceAdd, Nat.reduceSub, Array.replicate_succ, Array.replicate_zero, List.push_toArray, List.append_toArray, List.nil_append, List.cons_append]
  have t1 : Fence.wide.fn 22 := trivial
  have t2 : Fence.wide.fn 23 := trivial
  have t3 : Fence.wide.fn 25 := trivial
  have t4 : Fence.wide.fn 24 := trivial
  have t5 : Fence.wide.fn 27 := trivial
  have t6 : Fence.wide.fn 26 := trivial
  have t7 : Fence.wide.fn 28 := trivial
  have t8 : Fence.wide.fn 10 := trivial
  have gC := Lib.hid h
  clear h
  gi_wp2_with fail
  refine (callsIn_wide.2 (II.filled_any A n cap cs _ (gC.out.below (by go_grown)) hcap)).mono ?_
  rintro e w1 ⟨P, b, rfl, gF⟩
  gi_wp2_with fail
  obtain ⟨n', v, D, hn', hT⟩ := gF.out
  obtain ⟨l, hl⟩ : ∃ l, l = II.fill cs := ⟨_, rfl⟩
  have hl100 : l.length ≤ 100 := by rw [hl]; exact II.fills_len cs 100
  rw [← hl] at hT
  have gR := Lib.hid (show Boxed w1 w.heap.size 4 (.bool false) from (hT.bel.block _ (by simp)).trans (Boxed.new w 4 (.bool false)))
  have gW := Lib.hid (show Below w.heap.size w w1 from ((Below.refl _ w).alloc (Nat.le_refl _) (.cells #[.bool false] 4)).trans (hT.bel.mono (by simp)))
  have hT2 := hT.below (((Below.refl _ w1).alloc (Nat.le_refl _) (.cells #[.pointer (some ⟨P, 0, none⟩)] 46)).alloc (by simp) (.cells #[.map (some b)] 47))
  have q2 := fun k ty => (hT2.below (below_drewN (Below.refl _ _) k)).map.len Try.underlying47 ty
  rw [hT.is.size] at q2
  obtain ⟨A', c', rfl, hHas, hU⟩ := hT2.own.has_under
  have gl := Lib.hid hl
  have gl100 := Lib.hid hl100
  have gT := Lib.hid hT2
  have gH := Lib.hid hHas
  have gU := Lib.hid hU
  clear hT hT2 hHas hU hl hl100 gF
  gi_quiet (first
    | (gi_at_call 23; exact CallsIn.quiet_of_same (callsIn_wide.2 ((II.len_any _ _ _ _ _ (gH.out.below (below_drewN (Below.refl _ _) _))).mono fun e w' h => ⟨h.1, h.2.symm⟩))))
  clear q2
  gi_wp2_with (first
    | (gi_at_call 25; refine (II.keysI_in _ _ _).mono ?_; rintro e w2 ⟨rfl, rfl⟩)
    | (gi_at_call 24; refine (II.sorted_in (gT.out.below (below_drewN (Below.refl _ _) nq)) gl100.out _ (by omega) _ (by simp)).mono ?_; rintro e w2 ⟨A2, c2, rfl, gS⟩
       have gB := Lib.hid (map_boxes gS.out.2)
       have b46 := ((gB.out.1.alloc (.cells #[.slice A2 l.length c2] 51)).alloc (.cells #[.int .i64 0] 3)).cell)
    | (gi_at_call 27; refine (callsIn_wide.2 (II.all_any _ _)).mono ?_; rintro e w3 ⟨rfl, rfl⟩)
    | (gi_at_call 26; refine (callsIn_wide.2 (II.two_any _ _ _)).mono ?_; rintro e w3 ⟨rfl, rfl⟩))
  have hW2 := (gH.out.below (below_drewN (Below.refl _ _) nq)).below gS.out.2
  have hT2 := (gT.out.below (below_drewN (Below.refl _ _) nq)).below gS.out.2
  have hz := gB.out.2.2.1
  obtain ⟨wI, hwI⟩ : ∃ wI, wI = w2.alloc (.cells #[.slice A2 l.length c2] 51) := ⟨_, rfl⟩
  have hI1 : Below w2.heap.size w2 wI := by rw [hwI]; exact (Below.refl _ w2).alloc (Nat.le_refl _) _
  have hIz : wI.heap.size = w2.heap.size + 1 := by rw [hwI]; simp
  have hTI := hT2.below hI1
  have hRI : Boxed wI w.heap.size 4 (.bool false) := (hI1.block _ (by have := gR.out.lt; omega)).trans ((gB.out.2.2.2.block _ gR.out.lt).trans gR.out)
  have hKI : wI.ownsRow 0 3 1 (.slice A2 l.length c2) l.length ((keysOf l).map (Value.int .i64)) := by
    have h := II.owns_below gS.out.1 hI1
    exact ⟨h.1, h.2.imp id (fun ⟨g, cap, cur, e1, _, e2⟩ => ⟨g, cap, cur, e1, Nat.zero_le _, e2⟩)⟩
  have hWI : Below w.heap.size w wI := (gW.out.trans (gB.out.2.2.2.mono gW.out.size)).trans (hI1.mono (by have := gW.out.size; have := gB.out.2.2.2.size; omega))
  have hUI : II.Under (w2.heap.size + 1) A' := fun a h => Nat.lt_of_lt_of_le (gU.out a h) (by simp; omega)
  have b46 := gB.out.1
  have b47 := gB.out.2.1
  rw [← hwI]
  have hB9 : Below (w2.heap.size + 1) wI ((wI.alloc (.cells #[.int .i64 0] 3)).alloc (.cells #[.pointer (some ⟨P, 0, none⟩)] 46)) := ((Below.refl _ wI).alloc (by omega) _).alloc (by simp; omega) _
  have bI := (Boxed.new wI 3 (.int .i64 0)).alloc (.cells #[.pointer (some ⟨P, 0, none⟩)] 46)
  have bM := Boxed.new (wI.alloc (.cells #[.int .i64 0] 3)) 46 (.pointer (some ⟨P, 0, none⟩))
  simp only [World.size_alloc, hIz] at bM bI
  have hHC := (hW2.below hI1).below (hB9.mono (by omega))
  have hseq := II.all_stops 5 (w2.heap.size + 1) (w2.heap.size + 1 + 1) (some ⟨P, 0, none⟩) A' c' l _ bM.cell hHC hUI (by simp; omega)
  have gTI := Lib.hid hTI
  have gRI := Lib.hid hRI
  have gKI := Lib.hid hKI
  have gWI := Lib.hid hWI
  have gHI := Lib.hid (hW2.below hI1)
  have g46 := Lib.hid b46
  have g47 := Lib.hid b47
  have gwI := Lib.hid hwI
  clear hW2 hT2 hI1 hTI hRI hKI hWI b46 b47 hUI hHC hwI gS gB gT gH gU gR gW
  refine wpIn_rangeFunc_ownG rfl (by omega) (gf := 94) (lb := #[.pointer (some ⟨w2.heap.size + 1 + 1, 0, none⟩)]) rfl trivial (enters_of Try.func94 (by kernel_rfl) rfl)
    hseq belowK_t (belowK_b (by simp; omega)) (Below.refl _ _) (fun _ => rfl)
    (fun (pre : List (II.K × II.V)) W => (pre <+: l ∧ Boxed W (w2.heap.size + 1) 3 (.int .i64 (pre.length : Nat))) ∧ Below (w2.heap.size + 1) wI W)
    (fun _ pre _ => ¬ pre <+: l)
    (mapI_own (by omega) (by simp; omega))
    (fun _ _ _ _ _ hs _ _ => hs)
    ⟨⟨List.nil_prefix, bI⟩, hB9⟩
    ?a1 ?assign ?body ?done ?stop
  case assign =>
    intro l x W K hK
    unfold II.encs
    gi_wp2
    exact hK
  case stop =>
    rintro D c pre W _ hp h _
    exact absurd hp h
  case body =>
    rintro l' pre ⟨(x1 : Int), (x2 : Int)⟩ W ⟨⟨hpre, hi⟩, hB⟩ hlt
    obtain ⟨q46, q47, q51⟩ := map_cells g46.out g47.out hz rfl (gwI.out ▸ hB)
    have hlt' : pre.length < l.length := hlt
    have hBI : Below wI.heap.size wI W := hB.mono (by omega)
    have hTW := gTI.out.below hBI
    obtain ⟨g, kx, vx, rfl, hx, hcx, hlk, hhas, hget⟩ := map_item hTW (II.owns_below gKI.out hBI) hlt'
    have hin := prefix_next hpre hx
    have hbiW : w2.heap.size + 1 < W.heap.size := hi.lt
    have hci := hi.cell
    have hfi := hi.frozen
    have hRW : Boxed W w.heap.size 4 (.bool false) := (hBI.block _ gRI.out.lt).trans gRI.out
    have hcR := hRW.cell
    have hfR := hRW.frozen
    have hi0 : (0 : Int) ≤ (pre.length : Int) := by omega
    have hl100 := gl100.out
    have gHW := Lib.hid (gHI.out.below hBI)
    have gi := Lib.hid hi
    have gin := Lib.hid hin
    have gB := Lib.hid hB
    have gx := Lib.hid hx
    clear hpre hi hB hTW hin hx hRW hlt hseq hBI
    by_cases e1 : x1 = kx
    · by_cases e2 : x2 = vx
      · subst e1 e2
        gi_wp2_with (gi_at_call 28; refine (CallsIn.inRound _ (callsIn_wide.2 (II.get_any _ _ _ _ _ _ gHW.out))).mono ?_; rintro e w12 ⟨rfl, hBg⟩; rw [hget, hhas]; have k1 := (hBg.cell gi.out.lt).trans hci; have k2 := (hBg.frozen (p := ⟨w2.heap.size + 1, 0, none⟩) gi.out.lt).trans hfi; have gBg := Lib.hid hBg; clear hBg)
        have kB : Below (w2.heap.size + 1) W (w12.setCell ⟨w2.heap.size + 1, 0, none⟩ (.int .i64 ((pre.length : Nat) + 1))) := (gBg.out.mono (Nat.le_of_lt hbiW)).setCell (Nat.le_refl _) _
        refine ⟨((keeps_below gBg.out).trans (KeepsOthers.setCell _ _ _)).from _, kB, ⟨gin.out, ?_⟩, gB.out.trans kB⟩
        have := Boxed.set (.int .i64 ((pre.length : Nat) + 1)) (show Boxed w12 (w2.heap.size + 1) 3 (.int .i64 (pre.length : Nat)) from (gBg.out.block _ gi.out.lt).trans gi.out)
        simpa using this
      · have hne : ((x1, x2) : II.K × II.V) ≠ (kx, vx) := fun h => e2 (by injection h)
        have hb2 : (x2 != vx) = true := by simpa using e2
        subst e1
        gi_wp2_with fail
        exact ⟨(KeepsOthers.setCell _ _ _).from _, prefix_not gx.out hne⟩
    · have hne : ((x1, x2) : II.K × II.V) ≠ (kx, vx) := fun h => e1 (by injection h)
      gi_wp2_with fail
      exact ⟨(KeepsOthers.setCell _ _ _).from _, prefix_not gx.out hne⟩
  case done =>
    rintro D ys W hD rfl ⟨⟨hpre, hi⟩, hB⟩ hK
    obtain ⟨q46, q47, q51⟩ := map_cells g46.out g47.out hz rfl (gwI.out ▸ hB)
    have hci := hi.cell
    have hBI : Below wI.heap.size wI W := hB.mono (by omega)
    have gRW := Lib.hid (show Boxed W w.heap.size 4 (.bool false) from (hBI.block _ gRI.out.lt).trans gRI.out)
    have gWW := Lib.hid (gWI.out.trans (hBI.mono gWI.out.size))
    have gK := Lib.hid hK
    have gD := Lib.hid hD
    clear hseq hB hK hi hpre hBI hD
    gi_wp2_with (gi_at_call 10; refine (callsIn_wide.2 (works_any _)).mono ?_; rintro e w12 ⟨rfl, hBw⟩
                 have gR2 := Lib.hid (show Boxed w12 w.heap.size 4 (.bool false) from (hBw.block _ gRW.out.lt).trans gRW.out)
                 have r1 := gR2.out.cell
                 have r2 := gR2.out.frozen
                 have gBw := Lib.hid hBw
                 clear hBw)
    have hRl := gRI.out.lt
    have hDl : w2.heap.size + 1 ≤ D := by have h := gD.out; simp at h; omega
    have gK2 : (w12.setCell ⟨w.heap.size, 0, none⟩ (.bool true)).heap[D]? = some (.deferred (some [])) :=
      (Below.heap_setCell _ _ _ D (show D ≠ w.heap.size by omega)).trans ((gBw.out.block D (Array.getElem?_eq_some_iff.1 gK.out).1).trans gK.out)
    have hfin : Below (w.heap.size + 1) (w12.setCell ⟨w.heap.size, 0, none⟩ (.bool true)) ((w12.setCell ⟨w.heap.size, 0, none⟩ (.bool true)).putObj D (.deferred none)) :=
      belowK_b (w := wI) (by omega) _ D _ _ (by omega) gK2 rfl rfl
    have gRF := Boxed.cell (show Boxed ((w12.setCell ⟨w.heap.size, 0, none⟩ (.bool true)).putObj D (.deferred none)) w.heap.size 4 (.bool true) from (hfin.block _ (Nat.lt_succ_self _)).trans (gR2.out.set _))
    have hend : Below w.heap.size w ((w12.setCell ⟨w.heap.size, 0, none⟩ (.bool true)).putObj D (.deferred none)) :=
      ((gWW.out.trans (gBw.out.mono gWW.out.size)).setCell (Nat.le_refl _) _).trans (hfin.mono (Nat.le_succ _))
    refine ⟨by simp, .inl ⟨_, _, rfl, run_takeDeferred gK2, ?_⟩⟩
    refine ⟨.bool true, ?_, rfl, hend⟩
    clear hend hfin gK2
    generalize (w12.setCell ⟨w.heap.size, 0, none⟩ (.bool true)).putObj D (.deferred none) = WF at gRF ⊢
    simp [results, Try.results5, go_sem, gRF]
end Go.Proofs.Ytlfigdembgkkoaa
