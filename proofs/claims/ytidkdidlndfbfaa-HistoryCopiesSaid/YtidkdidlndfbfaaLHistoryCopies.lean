/- HistoryCopies: the walk. -/
import Derived.Test.YtidkdidlndfbfaaPair
namespace Go.Proofs.Ytidkdidlndfbfaa
open Go.RowKit HI
theorem slice_moves (A : Option Addr) (n c r : Nat) (h : r ≤ c) (w' : World) : (Instr.slice 44 (.slice A n c) none (some (.int .i64 (r : Int))) none).run Try.prog w' = .ok (.slice A r c) w' := by
  cases A <;> simp [Instr.slice, run_underlying Try.underlying44, Instr.sliceBounds, Instr.sliceBound, asIntOf, h, Addr.add]
theorem slice_ints (A : Option Addr) (n c r : Nat) (h : r ≤ c) (w' : World) : (Instr.slice 48 (.slice A n c) none (some (.int .i64 (r : Int))) none).run Try.prog w' = .ok (.slice A r c) w' := by
  cases A <;> simp [Instr.slice, run_underlying Try.underlying48, Instr.sliceBounds, Instr.sliceBound, asIntOf, h, Addr.add]
set_option maxRecDepth 1000000 in
set_option maxHeartbeats 16000000 in
theorem historyCopies_walk (a0 : Int) (a1 : Option Addr) (len1 cap1 : Nat) (z1 : List Mv) (a2 : Option Addr) (len2 cap2 : Nat) (z2 : List Mv) (w : World) (w0 : (Lit.int .u8 a0).wf = true) (w1 : MS w a1 len1 z1) (c1 : len1 ≤ cap1 ∧ cap1 ≤ 9223372036854775807) (w2 : MS w a2 len2 z2) (c2 : len2 ≤ cap2 ∧ cap2 ≤ 9223372036854775807) :
    Calls Try.prog 8 #[.int .u8 a0, .slice a1 len1 cap1, .slice a2 len2 cap2] w fun e w' => e = .returned (.bool true) ∧ Below w.heap.size w w' := by
  obtain ⟨a, rfl, ha⟩ := u8_nat w0
  obtain ⟨q, hq⟩ : ∃ q, q = 1 + a % 64 := ⟨_, rfl⟩
  have hq1 : (1 : Int) + (a : Int) % 64 = (q : Nat) := by omega
  have hq2 : q ≤ 100000 := by omega
  have ha2 : ((a : Nat) : Int) < 256 := by omega
  obtain ⟨m, hm⟩ : ∃ m, m = min len1 100 := ⟨_, rfl⟩
  have hmi : (min (len1 : Int) 100) = (m : Nat) := by omega
  have hmn : m ≤ len1 := by omega
  have hsl := slice_moves a1 len1 cap1 m (by omega)
  obtain ⟨m2, hm2⟩ : ∃ m2, m2 = min len2 50 := ⟨_, rfl⟩
  have hmi2 : (min (len2 : Int) 50) = (m2 : Nat) := by omega
  have hmn2 : m2 ≤ len2 := by omega
  have hsl2 := slice_moves a2 len2 cap2 m2 (by omega)
  have gsl2 := Lib.hid hsl2
  have gmi2 := Lib.hid hmi2
  have gM := Lib.hid w1
  have gM2 := Lib.hid w2
  clear w0 w1 w2 hm hq ha hsl2 hm2 hmi2
  go_enter Try.func8, Try.ntmps8
  go_wp2_with fail
  refine (h_new (w0 := w) q hq2 (Below.refl _ _)).mono ?_
  rintro e w1 ⟨rfl, g1, _⟩
  obtain ⟨P, hP⟩ : ∃ P, P = w.heap.size := ⟨_, rfl⟩
  rw [← hP] at g1 ⊢
  clear hP hq1
  go_wp2_with fail
  go_loopw [41] (fun i wr => ∃ k : Nat, k ≤ m ∧ i = .int .i64 (k : Nat) ∧ Hid (∃ mk l, Has w P q mk l wr)) (fun i _ => m - (intOf i).toNat)
  case atStart => exact ⟨0, Nat.zero_le _, rfl, _, _, g1⟩
  case round =>
    obtain ⟨k, hk, rfl, gR⟩ := hrel
    obtain ⟨mk, l, hH⟩ := gR.out
    have gH := Lib.hid hH
    clear hH gR g1
    by_cases hlt : k < m
    · obtain ⟨b, o, ⟨t1, t2⟩, rfl, ht, hk1, hk2, e0, e1⟩ := gM.out.at gH.out.low (show k < len1 by omega)
      dsimp only at hk1 hk2 e0 e1
      have gH1 := Lib.hid (gH.out.below (boxM_below wr t1 t2))
      clear hsl hmi ht
      go_wp2_with fail
      refine (h_moved gH1.out t1 t2 hk1 hk2).mono ?_
      rintro e W2 ⟨rfl, g2⟩
      have g3 := Lib.hid (show ∃ mk l, Has w P q mk l W2 from ⟨_, _, g2⟩)
      clear g2 gH gH1 e0 e1 gM
      go_wp2_with fail
      go_roundw
      case rel => exact ⟨k + 1, by omega, by simp, g3.out⟩
      case measure => simp [intOf]; omega
    · obtain rfl : k = m := by omega
      clear hsl hmi gM hk
      go_wp2_with fail
      refine (h_copy gH.out).mono ?_
      rintro e W1 ⟨rfl, gc⟩
      obtain ⟨vc, hc1, hc2⟩ := gc.out
      have gc1 := Lib.hid hc1
      have gc2 := Lib.hid hc2
      have gH1 := Lib.hid (gH.out.below hc2)
      clear hc1 hc2 gc
      go_wp2_with fail
      refine (h_copy gH1.out).mono ?_
      rintro e W2 ⟨rfl, gd⟩
      obtain ⟨vd, hd1, hd2⟩ := gd.out
      have gT := Lib.hid (trio_start gH.out gc1.out gc2.out hd1 hd2)
      obtain ⟨C, hC⟩ : ∃ C, C = wr.heap.size := ⟨_, rfl⟩
      obtain ⟨D, hD⟩ : ∃ D, D = W1.heap.size := ⟨_, rfl⟩
      rw [← hC, ← hD] at gT
      rw [← hD]
      rw [← hC]
      have gbd := Lib.hid gH.out.bounds
      clear hd1 hd2 gd gc1 gc2 gH gH1 hC hD
      have hsl2 := gsl2.out
      have hmi2 := gmi2.out
      go_wp2_with fail
      go_loopw [67] (fun i wr => ∃ k : Nat, k ≤ m2 ∧ i = .int .i64 (k : Nat) ∧ Hid (Trio w q P C D mk l wr)) (fun i _ => m2 - (intOf i).toNat)
      case atStart => exact ⟨0, Nat.zero_le _, rfl, gT.out⟩
      case round =>
        obtain ⟨k2, hk2, rfl, gR2⟩ := hrel
        clear gT
        by_cases hlt2 : k2 < m2
        · obtain ⟨b, o, ⟨t1, t2⟩, rfl, ht, hk1, hk3, e0, e1⟩ := gM2.out.at gR2.out.low (show k2 < len2 by omega)
          dsimp only at hk1 hk3 e0 e1
          have gT1 := Lib.hid (gR2.out.below (boxM_below wr t1 t2))
          clear hsl2 hmi2 ht gsl2 gmi2
          go_wp2_with fail
          refine (trio_moved gT1.out t1 t2 hk1 hk3).mono ?_
          rintro e W2 ⟨rfl, g2⟩
          have g3 := Lib.hid g2
          clear g2 gR2 gT1 e0 e1 gM2
          go_wp2_with fail
          go_roundw
          case rel => exact ⟨k2 + 1, by omega, by simp, g3.out⟩
          case measure => simp [intOf]; omega
        · obtain rfl : k2 = m2 := by omega
          have gP := Lib.hid gR2.out.pair
          clear hsl2 hmi2 gM2 hk2 gsl2 gmi2 gR2
          go_wp2_with fail
          refine (h_elements gP.out.hasL).mono ?_
          rintro e W3 ⟨vn, rfl, gE⟩
          obtain ⟨An, cn, rfl, _, hcn, hcmn, hSn, hAn, _⟩ := owns_sl gE.out.1
          have gP3 := Lib.hid (gP.out.fresh (S' := fun b => An = some ⟨b, 0, none⟩) gE.out.2 (fun b e => gE.out.1.lt b (by rw [show An = some ⟨b, 0, none⟩ from e]; rfl)))
          have gSn := Lib.hid hSn
          clear gE gP hSn hAn
          go_wp2_with fail
          refine (h_elements gP3.out.hasD).mono ?_
          rintro e W4 ⟨vd2, rfl, gE⟩
          obtain ⟨Ad, cd, rfl, _, hcd, hcmd, hSd, hAd, _⟩ := owns_sl gE.out.1
          have gP4 := Lib.hid (gP3.out.below gE.out.2)
          have gSn4 := Lib.hid (gSn.out.below gE.out.2)
          have gSd := Lib.hid hSd
          clear gE gP3 hSd hAd gSn
          have h10 : l.length ≤ 9223372036854775807 := by have := gbd.out; omega
          go_wp2_with fail
          refine (lists_equal gSn4.out gSd.out h10 h10).mono ?_
          rintro e W5 ⟨rfl, hB5⟩
          rw [show (l == l) = true by simp]
          have gP5 := Lib.hid (gP4.out.below hB5)
          have gSn5 := Lib.hid (gSn4.out.below hB5)
          clear hB5 gSn4 gSd gP4
          go_wp2_with fail
          refine (h_marked gP5.out.hasL).mono ?_
          rintro e _ ⟨rfl, rfl⟩
          go_wp2_with fail
          refine (h_marked gP5.out.hasD).mono ?_
          rintro e _ ⟨rfl, rfl⟩
          go_wp2_with fail
          refine (h_len gP5.out.hasD).mono ?_
          rintro e _ ⟨rfl, rfl⟩
          obtain ⟨cnt, hcnt⟩ : ∃ cnt, cnt = q - l.length := ⟨_, rfl⟩
          have hsub : wrap64 ((q : Int) - (l.length : Int)) = (cnt : Nat) := by have := gbd.out; unfold wrap64; omega
          have hsub2 : (q : Int) - (l.length : Int) = (cnt : Nat) := by have := gbd.out; omega
          have gcnt := Lib.hid hcnt
          clear hcnt
          go_wp2_with fail
          clear hsub hsub2
          go_loopw [112] (fun i wr => ∃ k : Nat, k ≤ cnt ∧ i = .int .i64 (k : Nat) ∧ Hid (Pair w q P D mk l mk (l ++ List.replicate k 7) (fun b => An = some ⟨b, 0, none⟩) wr ∧ SL wr An l.length l)) (fun i _ => cnt - (intOf i).toNat)
          case atStart => exact ⟨0, Nat.zero_le _, rfl, by simpa using gP5.out, gSn5.out⟩
          case round =>
            obtain ⟨k3, hk3, rfl, gR3⟩ := hrel
            clear gP5 gSn5
            have hcnt2 : cnt ≤ 100000 := by have := gcnt.out; have := gbd.out; omega
            by_cases hlt3 : k3 < cnt
            · have hll : (l ++ List.replicate k3 (7 : Int)).length < q := by have := gcnt.out; rw [List.length_append, List.length_replicate]; omega
              go_wp2_with fail
              refine (pair_add gR3.out.1 hll 7).mono ?_
              rintro e W6 ⟨rfl, g6⟩
              have e7 : l ++ List.replicate k3 (7 : Int) ++ [7] = l ++ List.replicate (k3 + 1) 7 := by rw [List.replicate_succ', List.append_assoc]
              rw [e7] at g6
              have g7 := Lib.hid (show Pair w q P D mk l mk (l ++ List.replicate (k3 + 1) 7) (fun b => An = some ⟨b, 0, none⟩) W6 ∧ SL W6 An l.length l from ⟨g6.out.1, gR3.out.2.same fun b e => g6.out.2 b e⟩)
              clear g6 e7 hll gR3
              go_wp2_with fail
              go_roundw
              case rel => exact ⟨k3 + 1, by omega, by simp, g7.out⟩
              case measure => simp [intOf]; omega
            · obtain rfl : k3 = cnt := by omega
              have hll : (l ++ List.replicate k3 (7 : Int)).length = q := by have := gcnt.out; have := gbd.out; rw [List.length_append, List.length_replicate]; omega
              have gll := Lib.hid hll
              clear hll hk3 hlt3
              go_wp2_with fail
              refine (pair_full gR3.out.1 gll.out 7).mono ?_
              rintro e W6 ⟨rfl, g6⟩
              have gP6 := Lib.hid g6.out.1
              have gS6 := Lib.hid (gR3.out.2.same fun b e => g6.out.2 b e)
              clear g6 gR3
              go_wp2_with fail
              refine (h_len gP6.out.hasL).mono ?_
              rintro e _ ⟨rfl, rfl⟩
              go_wp2_with fail
              refine (pair_clear gP6.out).mono ?_
              rintro e W7 ⟨rfl, g7⟩
              have gP7 := Lib.hid g7.out.1
              have gS7 := Lib.hid (gS6.out.same fun b e => g7.out.2 b e)
              clear g7 gS6 gP6
              go_wp2_with fail
              refine (h_elements gP7.out.hasD).mono ?_
              rintro e W8 ⟨vb, rfl, gE⟩
              obtain ⟨Ab, cb, rfl, _, hcb, hcmb, hSb, hAb, _⟩ := owns_sl gE.out.1
              have gP8 := Lib.hid (gP7.out.below gE.out.2)
              have gS8 := Lib.hid (gS7.out.below gE.out.2)
              rw [gll.out] at hSb hcb
              rw [gll.out]
              have hqn : l.length ≤ q := gbd.out.2.1
              have htake : (l ++ List.replicate k3 (7 : Int)).take l.length = l := by rw [List.take_append_of_le_length (Nat.le_refl _), List.take_length]
              have gSb := Lib.hid (show SL W8 Ab l.length l from by have := hSb.take hqn; rwa [htake] at this)
              have hsb := slice_ints Ab q cb l.length (by omega)
              clear gE gS7 gP7 hAb hSb htake hqn hcb hcmb
              go_wp2_with fail
              refine (lists_equal gSb.out gS8.out h10 h10).mono ?_
              rintro e W9 ⟨rfl, hB9⟩
              rw [show (l == l) = true by simp]
              have gP9 := Lib.hid (gP8.out.below hB9)
              clear hB9 gP8 hsb gSb gS8
              go_wp2_with fail
              refine (works_any _).mono ?_
              rintro e wz ⟨rfl, hBz⟩
              have gz := Lib.hid (gP9.out.hasD.low.trans (hBz.mono gP9.out.hasD.low.size))
              clear hBz gP9
              go_wp2_with fail
              go_ret
              exact ⟨rfl, gz.out⟩
end Go.Proofs.Ytidkdidlndfbfaa
