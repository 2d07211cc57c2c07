/- HistoryPlays: the walk. -/
import Derived.Test.YtidkdidlndfbfaaSt
import Derived.Test.YtidkdidlndfbfaaSteps
namespace Go.Proofs.Ytidkdidlndfbfaa
open Go.RowKit HS
theorem step_cells {W : World} {k : Nat} {d i p : Value} (h : W.heap[k]? = some (.cells #[d, i, p] 32 (0, 0))) : W.cell? ⟨k, 1, none⟩ = some i ∧ W.cell? ⟨k, 2, none⟩ = some p :=
  ⟨cell_of_row W k 1 _ _ (0, 0) h, cell_of_row W k 2 _ _ (0, 0) h⟩
set_option maxRecDepth 1000000 in
set_option maxHeartbeats 16000000 in
theorem historyPlays_walk (a0 : Int) (a1 : Option Addr) (len1 cap1 : Nat) (z1 : List Do) (a2 : Int) (w : World) (_w0 : (Lit.int .i64 a0).wf = true) (w1 : DoS w a1 len1 z1) (c1 : len1 ≤ cap1 ∧ cap1 ≤ 9223372036854775807) (_w2 : (Lit.int .i64 a2).wf = true) :
    Calls Try.prog 3 #[.int .i64 a0, .slice a1 len1 cap1, .int .i64 a2] w fun e w' => e = .returned (.bool true) ∧ Below w.heap.size w w' := by
  have gS := Lib.hid w1
  clear w1
  by_cases hm : (100 : Int) < (len1 : Int)
  · go_enter Try.func3, Try.ntmps3
    go_wp2_with fail
    refine (works_any _).mono ?_
    rintro e w1 ⟨rfl, hb⟩
    go_wp2_with fail
    go_ret
    exact ⟨rfl, hb⟩
  obtain ⟨c, p0, Mid, k1, k2⟩ := node_new w a0
  have g1 := Lib.hid k1
  have g2 := Lib.hid k2
  clear k1 k2
  obtain ⟨m, hmm⟩ : ∃ m, m = len1 := ⟨_, rfl⟩
  rw [← hmm] at hm gS c1
  rw [← hmm]
  clear hmm
  go_enter Try.func3, Try.ntmps3
  go_wp2_with fail
  refine g1.out.mono ?_
  rintro e w1 ⟨rfl, hM⟩
  go_wp2_with fail
  refine (g2.out w1 hM.out).mono ?_
  rintro e w2 ⟨q0, rfl, hpq, hF⟩
  have gP := Lib.hid (st_start hF.out)
  obtain ⟨b, hb1, hb2⟩ : ∃ b : Bool, (∀ W, (binOp .eql 24 (.pointer p0) (.pointer none)).run Try.prog W = .ok (.bool b) W) ∧ (∀ W, (binOp .eql 28 (.pointer q0) (.pointer none)).run Try.prog W = .ok (.bool b) W) := by
    rcases hpq with ⟨rfl, rfl⟩ | ⟨⟨a, rfl⟩, a', rfl⟩
    · exact ⟨true, fun W => by simp [go_sem, Try.underlying24], fun W => by simp [go_sem, Try.underlying28]⟩
    · exact ⟨false, fun W => by simp [go_sem, Try.underlying24], fun W => by simp [go_sem, Try.underlying28]⟩
  clear hM hF hpq g1 g2
  go_wp2_with fail
  clear hb1 hb2
  go_loopw [7, 9, 11, 12, 43] (fun m7 m9 m11 m12 i wr => ∃ (k : Nat) (p q p2 q2 : Option Addr), k ≤ m ∧ i = .int .i64 (k : Nat) ∧ m7 = .pointer p ∧ m9 = .pointer q ∧ m11 = .pointer p2 ∧ m12 = .pointer q2 ∧ Hid (St w wr p q p2 q2 k)) (fun _ _ _ _ i _ => m - (intOf i).toNat)
  case atStart => exact ⟨0, _, _, _, _, Nat.zero_le _, rfl, rfl, rfl, rfl, rfl, gP.out⟩
  case round =>
    obtain ⟨k, p, q, p2, q2, hk, rfl, rfl, rfl, rfl, rfl, gR⟩ := hrel
    clear gP
    by_cases hlt : k < m
    · obtain ⟨b0, o0, ⟨d, x, i⟩, rfl, hd, e0, e1, e2⟩ := gS.out.at gR.out.low hlt
      dsimp only at hd e0 e1 e2
      have hk100 : k < 100 := by omega
      obtain ⟨z, hz⟩ : ∃ z, z = wr.heap.size := ⟨_, rfl⟩
      have gV0 := Lib.hid (show Below wr.heap.size wr (wr.alloc (.cells #[.int .u8 (d : Nat), .string x, .int .i64 i] 32)) from (Below.refl _ wr).alloc (Nat.le_refl _) _)
      by_cases hx : (100 : Int) < (x.size : Int)
      · go_wp2_with fail
        refine (works_any _).mono ?_
        rintro e w4 ⟨rfl, hb4⟩
        have gE := Lib.hid (gR.out.low.trans ((gV0.out.trans (hb4.mono gV0.out.size)).mono gR.out.low.size))
        clear hb4
        go_wp2_with fail
        go_ret
        exact ⟨rfl, gE.out⟩
      obtain ⟨V, hV⟩ : ∃ V, V = wr.alloc (.cells #[.int .u8 (d : Nat), .string x, .int .i64 i] 32) := ⟨_, rfl⟩
      have gVB := Lib.hid (show Below wr.heap.size wr V by rw [hV]; exact gV0.out)
      have gVk := Lib.hid (show V.heap[z]? = some (.cells #[.int .u8 (d : Nat), .string x, .int .i64 i] 32 (0, 0)) by rw [hV, hz]; exact World.alloc_heap_new wr _)
      have gz := Lib.hid (Nat.le_of_eq hz.symm)
      have hd2 : ((d : Nat) : Int) < 256 := by omega
      clear gV0
      rcases (show ((d : Nat) : Int) % 8 = 0 ∨ ((d : Nat) : Int) % 8 = 1 ∨ ((d : Nat) : Int) % 8 = 2 ∨ ((d : Nat) : Int) % 8 = 3 ∨ ((d : Nat) : Int) % 8 = 4 ∨ ((d : Nat) : Int) % 8 = 5 ∨ ((d : Nat) : Int) % 8 = 6 ∨ ((d : Nat) : Int) % 8 = 7 by omega) with h8 | h8 | h8 | h8 | h8 | h8 | h8 | h8
      · have hVd := Lib.hid (gVB.out.drew)
        obtain ⟨cc, Mid, k1, k2⟩ := st_add gR.out hVd.out (show V.drew.heap[z]? = _ from gVk.out) gz.out x
        have gA := Lib.hid k1
        have gB := Lib.hid k2
        clear k1 k2 hVd
        go_wp2_with fail
        rw [← hV]
        rw [← hz]
        have cz := (step_cells gVk.out).1
        clear hV hz gR gVB e0 e1 e2 h8 hd hd2 hx
        go_region_held3 (fun w' => w'.cell? ⟨z, 1, none⟩ = some (.string x)) (first | go_keep | exact cz | exact cA.1)
          (first
          | (go_at_call 13; refine gA.out.mono ?_; rintro e wA ⟨rfl, gMA⟩; have cA := step_cells gMA.out.2; clear gA)
          | (go_at_call 14; refine (gB.out _ gMA.out.1).mono ?_; rintro e wB ⟨rfl, gP⟩; have cA := step_cells gP.out.2; clear gB gMA))
        clear cA cz
        have cB := (step_cells gP.out.2).2
        go_wp2_with fail
        refine (gP.out.1.shows (by omega) a2).mono ?_
        rintro e wC ⟨rfl, hC⟩
        have gPC := Lib.hid (gP.out.1.below hC)
        have cC := (step_cells ((hC.block z (lt_of_heap gP.out.2)).trans gP.out.2)).2
        clear hC cB gP
        go_wp2_with fail
        refine (gPC.out.shows (by omega) i).mono ?_
        rintro e wD ⟨rfl, hD⟩
        have gPD := Lib.hid (gPC.out.below hD)
        clear hD cC gPC
        go_wp2_with fail
        refine (gPD.out.shows2 (by omega) a2).mono ?_
        rintro e wE ⟨rfl, hE⟩
        have gPE := Lib.hid (gPD.out.below hE)
        clear hE gPD
        go_wp2_with fail
        go_roundw
        case rel => exact ⟨k + 1, _, _, _, _, by omega, by simp, rfl, rfl, rfl, rfl, gPE.out⟩
        case measure => simp [intOf]; omega
      · have hVd := Lib.hid (gVB.out.drew)
        obtain ⟨cc, Mid, k1, k2⟩ := st_add gR.out hVd.out (show V.drew.heap[z]? = _ from gVk.out) gz.out x
        have gA := Lib.hid k1
        have gB := Lib.hid k2
        clear k1 k2 hVd
        go_wp2_with fail
        rw [← hV]
        rw [← hz]
        have cz := (step_cells gVk.out).1
        clear hV hz gR gVB e0 e1 e2 h8 hd hd2 hx
        go_region_held3 (fun w' => w'.cell? ⟨z, 1, none⟩ = some (.string x)) (first | go_keep | exact cz | exact cA.1)
          (first
          | (go_at_call 13; refine gA.out.mono ?_; rintro e wA ⟨rfl, gMA⟩; have cA := step_cells gMA.out.2; clear gA)
          | (go_at_call 14; refine (gB.out _ gMA.out.1).mono ?_; rintro e wB ⟨rfl, gP⟩; have cA := step_cells gP.out.2; clear gB gMA))
        clear cA cz
        have cB := (step_cells gP.out.2).2
        go_wp2_with fail
        refine (gP.out.1.shows (by omega) a2).mono ?_
        rintro e wC ⟨rfl, hC⟩
        have gPC := Lib.hid (gP.out.1.below hC)
        have cC := (step_cells ((hC.block z (lt_of_heap gP.out.2)).trans gP.out.2)).2
        clear hC cB gP
        go_wp2_with fail
        refine (gPC.out.shows (by omega) i).mono ?_
        rintro e wD ⟨rfl, hD⟩
        have gPD := Lib.hid (gPC.out.below hD)
        clear hD cC gPC
        go_wp2_with fail
        refine (gPD.out.shows2 (by omega) a2).mono ?_
        rintro e wE ⟨rfl, hE⟩
        have gPE := Lib.hid (gPD.out.below hE)
        clear hE gPD
        go_wp2_with fail
        go_roundw
        case rel => exact ⟨k + 1, _, _, _, _, by omega, by simp, rfl, rfl, rfl, rfl, gPE.out⟩
        case measure => simp [intOf]; omega
      · have hVd := Lib.hid (gVB.out.drew)
        obtain ⟨cc, Mid, k1, k2⟩ := st_add gR.out hVd.out (show V.drew.heap[z]? = _ from gVk.out) gz.out x
        have gA := Lib.hid k1
        have gB := Lib.hid k2
        clear k1 k2 hVd
        go_wp2_with fail
        rw [← hV]
        rw [← hz]
        have cz := (step_cells gVk.out).1
        clear hV hz gR gVB e0 e1 e2 h8 hd hd2 hx
        go_region_held3 (fun w' => w'.cell? ⟨z, 1, none⟩ = some (.string x)) (first | go_keep | exact cz | exact cA.1)
          (first
          | (go_at_call 13; refine gA.out.mono ?_; rintro e wA ⟨rfl, gMA⟩; have cA := step_cells gMA.out.2; clear gA)
          | (go_at_call 14; refine (gB.out _ gMA.out.1).mono ?_; rintro e wB ⟨rfl, gP⟩; have cA := step_cells gP.out.2; clear gB gMA))
        clear cA cz
        have cB := (step_cells gP.out.2).2
        go_wp2_with fail
        refine (gP.out.1.shows (by omega) a2).mono ?_
        rintro e wC ⟨rfl, hC⟩
        have gPC := Lib.hid (gP.out.1.below hC)
        have cC := (step_cells ((hC.block z (lt_of_heap gP.out.2)).trans gP.out.2)).2
        clear hC cB gP
        go_wp2_with fail
        refine (gPC.out.shows (by omega) i).mono ?_
        rintro e wD ⟨rfl, hD⟩
        have gPD := Lib.hid (gPC.out.below hD)
        clear hD cC gPC
        go_wp2_with fail
        refine (gPD.out.shows2 (by omega) a2).mono ?_
        rintro e wE ⟨rfl, hE⟩
        have gPE := Lib.hid (gPD.out.below hE)
        clear hE gPD
        go_wp2_with fail
        go_roundw
        case rel => exact ⟨k + 1, _, _, _, _, by omega, by simp, rfl, rfl, rfl, rfl, gPE.out⟩
        case measure => simp [intOf]; omega
      · have hVd := Lib.hid (gVB.out.drew)
        obtain ⟨cc, Mid, k1, k2⟩ := st_add gR.out hVd.out (show V.drew.heap[z]? = _ from gVk.out) gz.out x
        have gA := Lib.hid k1
        have gB := Lib.hid k2
        clear k1 k2 hVd
        go_wp2_with fail
        rw [← hV]
        rw [← hz]
        have cz := (step_cells gVk.out).1
        clear hV hz gR gVB e0 e1 e2 h8 hd hd2 hx
        go_region_held3 (fun w' => w'.cell? ⟨z, 1, none⟩ = some (.string x)) (first | go_keep | exact cz | exact cA.1)
          (first
          | (go_at_call 13; refine gA.out.mono ?_; rintro e wA ⟨rfl, gMA⟩; have cA := step_cells gMA.out.2; clear gA)
          | (go_at_call 14; refine (gB.out _ gMA.out.1).mono ?_; rintro e wB ⟨rfl, gP⟩; have cA := step_cells gP.out.2; clear gB gMA))
        clear cA cz
        have cB := (step_cells gP.out.2).2
        go_wp2_with fail
        refine (gP.out.1.shows (by omega) a2).mono ?_
        rintro e wC ⟨rfl, hC⟩
        have gPC := Lib.hid (gP.out.1.below hC)
        have cC := (step_cells ((hC.block z (lt_of_heap gP.out.2)).trans gP.out.2)).2
        clear hC cB gP
        go_wp2_with fail
        refine (gPC.out.shows (by omega) i).mono ?_
        rintro e wD ⟨rfl, hD⟩
        have gPD := Lib.hid (gPC.out.below hD)
        clear hD cC gPC
        go_wp2_with fail
        refine (gPD.out.shows2 (by omega) a2).mono ?_
        rintro e wE ⟨rfl, hE⟩
        have gPE := Lib.hid (gPD.out.below hE)
        clear hE gPD
        go_wp2_with fail
        go_roundw
        case rel => exact ⟨k + 1, _, _, _, _, by omega, by simp, rfl, rfl, rfl, rfl, gPE.out⟩
        case measure => simp [intOf]; omega
      · obtain ⟨Mid, k1, k2⟩ := st_mark gR.out gVB.out gVk.out gz.out
        have gA := Lib.hid k1
        have gB := Lib.hid k2
        clear k1 k2
        go_wp2_with fail
        rw [← hV]
        rw [← hz]
        clear hV hz gR gVB e0 e1 e2 h8 hd hd2 hx
        refine gA.out.mono ?_
        rintro e wA ⟨rfl, gMA⟩
        clear gA
        go_wp2_with fail
        refine (gB.out _ gMA.out).mono ?_
        rintro e wB ⟨rfl, gP⟩
        clear gB gMA
        have cB := (step_cells gP.out.2).2
        go_wp2_with fail
        refine (gP.out.1.shows (by omega) a2).mono ?_
        rintro e wC ⟨rfl, hC⟩
        have gPC := Lib.hid (gP.out.1.below hC)
        have cC := (step_cells ((hC.block z (lt_of_heap gP.out.2)).trans gP.out.2)).2
        clear hC cB gP
        go_wp2_with fail
        refine (gPC.out.shows (by omega) i).mono ?_
        rintro e wD ⟨rfl, hD⟩
        have gPD := Lib.hid (gPC.out.below hD)
        clear hD cC gPC
        go_wp2_with fail
        refine (gPD.out.shows2 (by omega) a2).mono ?_
        rintro e wE ⟨rfl, hE⟩
        have gPE := Lib.hid (gPD.out.below hE)
        clear hE gPD
        go_wp2_with fail
        go_roundw
        case rel => exact ⟨k + 1, _, _, _, _, by omega, by simp, rfl, rfl, rfl, rfl, gPE.out⟩
        case measure => simp [intOf]; omega
      · have hVd := Lib.hid (gVB.out.drew)
        obtain ⟨cc, Mid, k1, k2⟩ := st_cut gR.out hVd.out (show V.drew.heap[z]? = _ from gVk.out) gz.out i
        have gA := Lib.hid k1
        have gB := Lib.hid k2
        clear k1 k2 hVd
        go_wp2_with fail
        rw [← hV]
        rw [← hz]
        have cz := (step_cells gVk.out).2
        clear hV hz gR gVB e0 e1 e2 h8 hd hd2 hx
        go_region_held3 (fun w' => w'.cell? ⟨z, 2, none⟩ = some (.int .i64 i)) (first | go_keep | exact cz | exact cA.2)
          (first
          | (go_at_call 17; refine gA.out.mono ?_; rintro e wA ⟨rfl, gMA⟩; have cA := step_cells gMA.out.2; clear gA)
          | (go_at_call 18; refine (gB.out _ gMA.out.1).mono ?_; rintro e wB ⟨rfl, gP⟩; have cA := step_cells gP.out.2; clear gB gMA))
        clear cA cz
        have cB := (step_cells gP.out.2).2
        go_wp2_with fail
        refine (gP.out.1.shows (by omega) a2).mono ?_
        rintro e wC ⟨rfl, hC⟩
        have gPC := Lib.hid (gP.out.1.below hC)
        have cC := (step_cells ((hC.block z (lt_of_heap gP.out.2)).trans gP.out.2)).2
        clear hC cB gP
        go_wp2_with fail
        refine (gPC.out.shows (by omega) i).mono ?_
        rintro e wD ⟨rfl, hD⟩
        have gPD := Lib.hid (gPC.out.below hD)
        clear hD cC gPC
        go_wp2_with fail
        refine (gPD.out.shows2 (by omega) a2).mono ?_
        rintro e wE ⟨rfl, hE⟩
        have gPE := Lib.hid (gPD.out.below hE)
        clear hE gPD
        go_wp2_with fail
        go_roundw
        case rel => exact ⟨k + 1, _, _, _, _, by omega, by simp, rfl, rfl, rfl, rfl, gPE.out⟩
        case measure => simp [intOf]; omega
      · obtain ⟨Mid, k1, k2⟩ := st_clear gR.out gVB.out gVk.out gz.out
        have gA := Lib.hid k1
        have gB := Lib.hid k2
        clear k1 k2
        go_wp2_with fail
        rw [← hV]
        rw [← hz]
        clear hV hz gR gVB e0 e1 e2 h8 hd hd2 hx
        refine gA.out.mono ?_
        rintro e wA ⟨rfl, gMA⟩
        clear gA
        go_wp2_with fail
        refine (gB.out _ gMA.out).mono ?_
        rintro e wB ⟨rfl, gP⟩
        clear gB gMA
        have cB := (step_cells gP.out.2).2
        go_wp2_with fail
        refine (gP.out.1.shows (by omega) a2).mono ?_
        rintro e wC ⟨rfl, hC⟩
        have gPC := Lib.hid (gP.out.1.below hC)
        have cC := (step_cells ((hC.block z (lt_of_heap gP.out.2)).trans gP.out.2)).2
        clear hC cB gP
        go_wp2_with fail
        refine (gPC.out.shows (by omega) i).mono ?_
        rintro e wD ⟨rfl, hD⟩
        have gPD := Lib.hid (gPC.out.below hD)
        clear hD cC gPC
        go_wp2_with fail
        refine (gPD.out.shows2 (by omega) a2).mono ?_
        rintro e wE ⟨rfl, hE⟩
        have gPE := Lib.hid (gPD.out.below hE)
        clear hE gPD
        go_wp2_with fail
        go_roundw
        case rel => exact ⟨k + 1, _, _, _, _, by omega, by simp, rfl, rfl, rfl, rfl, gPE.out⟩
        case measure => simp [intOf]; omega
      · obtain ⟨p', Mid, k1, k2⟩ := st_copied (gR.out.below gVB.out) gVk.out
        have gA := Lib.hid k1
        have gB := Lib.hid k2
        clear k1 k2
        go_wp2_with fail
        rw [← hV]
        rw [← hz]
        clear hV hz gR gVB e0 e1 e2 h8 hd hd2 hx
        refine gA.out.mono ?_
        rintro e wA ⟨rfl, gMA⟩
        clear gA
        go_wp2_with fail
        refine (gB.out _ gMA.out).mono ?_
        rintro e wB ⟨q', rfl, gP⟩
        clear gB gMA
        have cB := (step_cells gP.out.2).2
        go_wp2_with fail
        refine (gP.out.1.shows (by omega) a2).mono ?_
        rintro e wC ⟨rfl, hC⟩
        have gPC := Lib.hid (gP.out.1.below hC)
        have cC := (step_cells ((hC.block z (lt_of_heap gP.out.2)).trans gP.out.2)).2
        clear hC cB gP
        go_wp2_with fail
        refine (gPC.out.shows (by omega) i).mono ?_
        rintro e wD ⟨rfl, hD⟩
        have gPD := Lib.hid (gPC.out.below hD)
        clear hD cC gPC
        go_wp2_with fail
        refine (gPD.out.shows2 (by omega) a2).mono ?_
        rintro e wE ⟨rfl, hE⟩
        have gPE := Lib.hid (gPD.out.below hE)
        clear hE gPD
        go_wp2_with fail
        go_roundw
        case rel => exact ⟨k + 1, _, _, _, _, by omega, by simp, rfl, rfl, rfl, rfl, gPE.out⟩
        case measure => simp [intOf]; omega
    · obtain rfl : k = m := by omega
      have hk100 : k ≤ 100 := by omega
      go_wp2_with fail
      refine (gR.out.shows (by omega) a2).mono ?_
      rintro e wC ⟨rfl, hC⟩
      have gC := Lib.hid (gR.out.below hC)
      clear hC gR
      go_wp2_with fail
      refine (works_any _).mono ?_
      rintro e w4 ⟨rfl, hb4⟩
      have gE := Lib.hid (gC.out.low.trans (hb4.mono gC.out.low.size))
      clear hb4
      go_wp2_with fail
      go_ret
      exact ⟨rfl, gE.out⟩
end Go.Proofs.Ytidkdidlndfbfaa
