/- OrdmapPlays: the walk. -/
import Derived.Test.YtbcakennmnjlcaaMSt
import Derived.Test.YtbcakennmnjlcaaKSteps
import Derived.Test.YtbcakennmnjlcaaWorks
namespace Go.Proofs.Ytbcakennmnjlcaa
open Go.RowKit
theorem step_cells {W : World} {k : Nat} {d i p : Value} (h : W.heap[k]? = some (.cells #[d, i, p] 29 (0, 0))) : W.cell? ⟨k, 1, none⟩ = some i ∧ W.cell? ⟨k, 2, none⟩ = some p :=
  ⟨cell_of_row W k 1 _ _ (0, 0) h, cell_of_row W k 2 _ _ (0, 0) h⟩
set_option maxRecDepth 1000000 in
set_option maxHeartbeats 16000000 in
theorem ordmapPlays_walk (a0 : Option Addr) (len0 cap0 : Nat) (z0 : List Ks) (a1 : ByteArray) (a2 : Int) (w : World) (w0 : KsS w a0 len0 z0) (c0 : len0 ≤ cap0 ∧ cap0 ≤ 9223372036854775807) (_w1 : a1.size ≤ maxLen) (_w2 : (Lit.int .i64 a2).wf = true) :
    Calls Try.prog 3 #[.slice a0 len0 cap0, .string a1, .int .i64 a2] w fun e w' => e = .returned (.bool true) ∧ Below w.heap.size w w' := by
  have gS := Lib.hid w0
  clear w0
  obtain ⟨m, hmm⟩ : ∃ m, m = len0 := ⟨_, rfl⟩
  rw [← hmm] at gS c0
  rw [← hmm]
  clear hmm
  by_cases hm : (60 : Int) < (m : Int)
  · go_enter Try.func3, Try.ntmps3
    go_wp2_with fail
    refine (works_any _).mono ?_
    rintro e w1 ⟨rfl, hb⟩
    go_wp2_with fail
    go_ret
    exact ⟨rfl, hb⟩
  by_cases hk1 : (100 : Int) < (a1.size : Int)
  · go_enter Try.func3, Try.ntmps3
    go_wp2_with fail
    refine (works_any _).mono ?_
    rintro e w1 ⟨rfl, hb⟩
    go_wp2_with fail
    go_ret
    exact ⟨rfl, hb⟩
  obtain ⟨P0, Mid, k1, k2⟩ := live_new w
  have g1 := Lib.hid k1
  have g2 := Lib.hid k2
  clear k1 k2
  go_enter Try.func3, Try.ntmps3
  go_wp2_with fail
  refine g1.out.mono ?_
  rintro e w1 ⟨rfl, hM⟩
  go_wp2_with fail
  refine (g2.out w1 hM.out).mono ?_
  rintro e w2 ⟨R0, rfl, hF⟩
  have gP := Lib.hid (st_start hF.out)
  clear hM hF g1 g2
  go_wp2_with fail
  go_loopw [7, 8, 9, 10, 36] (fun m7 m8 m9 m10 i wr => ∃ (j P R : Nat) (p q : Option Addr), j ≤ m ∧ i = .int .i64 (j : Nat) ∧ m7 = .pointer (some ⟨P, 0, none⟩) ∧ m8 = .pointer (some ⟨R, 0, none⟩) ∧ m9 = .pointer p ∧ m10 = .pointer q ∧ Hid (St w wr P R p q j)) (fun _ _ _ _ i _ => m - (intOf i).toNat)
  case atStart => exact ⟨0, _, _, _, _, Nat.zero_le _, rfl, rfl, rfl, rfl, rfl, gP.out⟩
  case round =>
    obtain ⟨j, P, R, p, q, hj, rfl, rfl, rfl, rfl, rfl, gR⟩ := hrel
    clear gP
    by_cases hlt : j < m
    · obtain ⟨b0, o0, ⟨d, k, x⟩, rfl, hd, e0, e1, e2⟩ := gS.out.at gR.out.low hlt
      dsimp only at hd e0 e1 e2
      have hj100 : j < 100 := by omega
      obtain ⟨z, hz⟩ : ∃ z, z = wr.heap.size := ⟨_, rfl⟩
      have gV0 := Lib.hid (show Below wr.heap.size wr (wr.alloc (.cells #[.int .u8 (d : Nat), .string k, .string x] 29)) from (Below.refl _ wr).alloc (Nat.le_refl _) _)
      by_cases hx : (100 : Int) < (k.size : Int)
      · go_wp2_with fail
        refine (works_any _).mono ?_
        rintro e w4 ⟨rfl, hb4⟩
        have gE := Lib.hid (gR.out.low.trans ((gV0.out.trans (hb4.mono gV0.out.size)).mono gR.out.low.size))
        clear hb4
        go_wp2_with fail
        go_ret
        exact ⟨rfl, gE.out⟩
      by_cases hy : (100 : Int) < (x.size : Int)
      · go_wp2_with fail
        refine (works_any _).mono ?_
        rintro e w4 ⟨rfl, hb4⟩
        have gE := Lib.hid (gR.out.low.trans ((gV0.out.trans (hb4.mono gV0.out.size)).mono gR.out.low.size))
        clear hb4
        go_wp2_with fail
        go_ret
        exact ⟨rfl, gE.out⟩
      obtain ⟨V, hV⟩ : ∃ V, V = wr.alloc (.cells #[.int .u8 (d : Nat), .string k, .string x] 29) := ⟨_, rfl⟩
      have gVB := Lib.hid (show Below wr.heap.size wr V by rw [hV]; exact gV0.out)
      have gVk := Lib.hid (show V.heap[z]? = some (.cells #[.int .u8 (d : Nat), .string k, .string x] 29 (0, 0)) by rw [hV, hz]; exact heap_alloc_new wr _)
      have gz := Lib.hid (Nat.le_of_eq hz.symm)
      have hd2 : ((d : Nat) : Int) < 256 := by omega
      clear gV0
      rcases (show ((d : Nat) : Int) % 4 = 0 ∨ ((d : Nat) : Int) % 4 = 1 ∨ ((d : Nat) : Int) % 4 = 2 ∨ ((d : Nat) : Int) % 4 = 3 by omega) with h8 | h8 | h8 | h8
      · obtain ⟨a, b, Mid, k1, k2⟩ := st_set gR.out (by omega) gVB.out gVk.out gz.out k x
        have gA := Lib.hid k1
        have gB := Lib.hid k2
        clear k1 k2
        go_wp2_with fail
        rw [← hV]
        rw [← hz]
        clear hV hz gR gVB e0 e1 e2 h8 hd hd2 hx hy
        refine gA.out.mono ?_
        rintro e wA ⟨rfl, gMA⟩
        have cA := step_cells gMA.out.2
        obtain ⟨cA1, cA2⟩ := cA
        clear gA
        go_wp2_with fail
        refine (gB.out _ gMA.out.1).mono ?_
        rintro e wB ⟨rfl, gP⟩
        clear gB gMA cA1 cA2
        have cB := (step_cells gP.out.2).1
        go_wp2_with fail
        refine (gP.out.1.shows k a2).mono ?_
        rintro e wC ⟨rfl, hC⟩
        have gPC := Lib.hid (gP.out.1.below hC)
        clear hC cB gP
        obtain ⟨rr, kR⟩ := gPC.out.rank a1
        have gK := Lib.hid kR
        clear kR
        go_wp2_with fail
        refine gK.out.mono ?_
        rintro e _ ⟨rfl, rfl⟩
        clear gK
        go_wp2_with fail
        refine (gPC.out.shows a1 rr).mono ?_
        rintro e wD ⟨rfl, hD⟩
        have gPD := Lib.hid (gPC.out.below hD)
        clear hD gPC
        go_wp2_with fail
        refine (gPD.out.shows2 a1 a2).mono ?_
        rintro e wE ⟨rfl, hE⟩
        have gPE := Lib.hid (gPD.out.below hE)
        clear hE gPD
        go_wp2_with fail
        go_roundw
        case rel => exact ⟨j + 1, _, _, _, _, by omega, by simp, rfl, rfl, rfl, rfl, gPE.out⟩
        case measure => simp [intOf]; omega
      · obtain ⟨a, b, Mid, k1, k2⟩ := st_set gR.out (by omega) gVB.out gVk.out gz.out k x
        have gA := Lib.hid k1
        have gB := Lib.hid k2
        clear k1 k2
        go_wp2_with fail
        rw [← hV]
        rw [← hz]
        clear hV hz gR gVB e0 e1 e2 h8 hd hd2 hx hy
        refine gA.out.mono ?_
        rintro e wA ⟨rfl, gMA⟩
        have cA := step_cells gMA.out.2
        obtain ⟨cA1, cA2⟩ := cA
        clear gA
        go_wp2_with fail
        refine (gB.out _ gMA.out.1).mono ?_
        rintro e wB ⟨rfl, gP⟩
        clear gB gMA cA1 cA2
        have cB := (step_cells gP.out.2).1
        go_wp2_with fail
        refine (gP.out.1.shows k a2).mono ?_
        rintro e wC ⟨rfl, hC⟩
        have gPC := Lib.hid (gP.out.1.below hC)
        clear hC cB gP
        obtain ⟨rr, kR⟩ := gPC.out.rank a1
        have gK := Lib.hid kR
        clear kR
        go_wp2_with fail
        refine gK.out.mono ?_
        rintro e _ ⟨rfl, rfl⟩
        clear gK
        go_wp2_with fail
        refine (gPC.out.shows a1 rr).mono ?_
        rintro e wD ⟨rfl, hD⟩
        have gPD := Lib.hid (gPC.out.below hD)
        clear hD gPC
        go_wp2_with fail
        refine (gPD.out.shows2 a1 a2).mono ?_
        rintro e wE ⟨rfl, hE⟩
        have gPE := Lib.hid (gPD.out.below hE)
        clear hE gPD
        go_wp2_with fail
        go_roundw
        case rel => exact ⟨j + 1, _, _, _, _, by omega, by simp, rfl, rfl, rfl, rfl, gPE.out⟩
        case measure => simp [intOf]; omega
      · obtain ⟨a, b, Mid, k1, k2⟩ := st_del gR.out (by omega) gVB.out gVk.out gz.out k
        have gA := Lib.hid k1
        have gB := Lib.hid k2
        clear k1 k2
        go_wp2_with fail
        rw [← hV]
        rw [← hz]
        clear hV hz gR gVB e0 e1 e2 h8 hd hd2 hx hy
        refine gA.out.mono ?_
        rintro e wA ⟨rfl, gMA⟩
        have cA1 := (step_cells gMA.out.2).1
        clear gA
        go_wp2_with fail
        refine (gB.out _ gMA.out.1).mono ?_
        rintro e wB ⟨rfl, gP⟩
        clear gB gMA cA1
        have cB := (step_cells gP.out.2).1
        go_wp2_with fail
        refine (gP.out.1.shows k a2).mono ?_
        rintro e wC ⟨rfl, hC⟩
        have gPC := Lib.hid (gP.out.1.below hC)
        clear hC cB gP
        obtain ⟨rr, kR⟩ := gPC.out.rank a1
        have gK := Lib.hid kR
        clear kR
        go_wp2_with fail
        refine gK.out.mono ?_
        rintro e _ ⟨rfl, rfl⟩
        clear gK
        go_wp2_with fail
        refine (gPC.out.shows a1 rr).mono ?_
        rintro e wD ⟨rfl, hD⟩
        have gPD := Lib.hid (gPC.out.below hD)
        clear hD gPC
        go_wp2_with fail
        refine (gPD.out.shows2 a1 a2).mono ?_
        rintro e wE ⟨rfl, hE⟩
        have gPE := Lib.hid (gPD.out.below hE)
        clear hE gPD
        go_wp2_with fail
        go_roundw
        case rel => exact ⟨j + 1, _, _, _, _, by omega, by simp, rfl, rfl, rfl, rfl, gPE.out⟩
        case measure => simp [intOf]; omega
      · obtain ⟨P', Mid, k1, k2⟩ := st_copied (gR.out.below gVB.out) (by omega) gVk.out
        have gA := Lib.hid k1
        have gB := Lib.hid k2
        clear k1 k2
        go_wp2_with fail
        rw [← hV]
        rw [← hz]
        clear hV hz gR gVB e0 e1 e2 h8 hd hd2 hx hy
        refine gA.out.mono ?_
        rintro e wA ⟨rfl, gMA⟩
        clear gA
        go_wp2_with fail
        refine (gB.out _ gMA.out).mono ?_
        rintro e wB ⟨R', rfl, gP⟩
        clear gB gMA
        have cB := (step_cells gP.out.2).1
        go_wp2_with fail
        refine (gP.out.1.shows k a2).mono ?_
        rintro e wC ⟨rfl, hC⟩
        have gPC := Lib.hid (gP.out.1.below hC)
        clear hC cB gP
        obtain ⟨rr, kR⟩ := gPC.out.rank a1
        have gK := Lib.hid kR
        clear kR
        go_wp2_with fail
        refine gK.out.mono ?_
        rintro e _ ⟨rfl, rfl⟩
        clear gK
        go_wp2_with fail
        refine (gPC.out.shows a1 rr).mono ?_
        rintro e wD ⟨rfl, hD⟩
        have gPD := Lib.hid (gPC.out.below hD)
        clear hD gPC
        go_wp2_with fail
        refine (gPD.out.shows2 a1 a2).mono ?_
        rintro e wE ⟨rfl, hE⟩
        have gPE := Lib.hid (gPD.out.below hE)
        clear hE gPD
        go_wp2_with fail
        go_roundw
        case rel => exact ⟨j + 1, _, _, _, _, by omega, by simp, rfl, rfl, rfl, rfl, gPE.out⟩
        case measure => simp [intOf]; omega
    · obtain rfl : j = m := by omega
      go_wp2_with fail
      refine (gR.out.shows a1 a2).mono ?_
      rintro e wC ⟨rfl, hC⟩
      have gC := Lib.hid (gR.out.below hC)
      clear hC gR
      go_wp2_with fail
      refine (works_any _).mono ?_
      rintro e w4 ⟨rfl, hb4⟩
      have gE := Lib.hid (gC.out.low.trans (hb4.mono gC.out.low.size))
      clear hb4
      go_wp2_with fail
      go_ret
      exact ⟨rfl, gE.out⟩
end Go.Proofs.Ytbcakennmnjlcaa
