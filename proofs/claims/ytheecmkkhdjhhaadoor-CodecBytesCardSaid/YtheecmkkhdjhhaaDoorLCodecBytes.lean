/- The walk of CodecBytes: for each width what Append and Fits say of a number, and its bytes. -/
import Derived.Test.YtheecmkkhdjhhaaDoorLCodecTorn
namespace Go.Proofs.YtheecmkkhdjhhaaDoor
open Go.RowKit Go.PlainAid

theorem append_nil_ok (x : Int) (k : Nat) (w : World) (h : Wid w) (hk : isW k = true) (hx0 : 0 ≤ x) (hx1 : x < 18446744073709551616) (hf : x < 256 ^ k) :
   Calls Tryd.prog 13 #[.slice none 0 0, .int .u64 x, .int .i64 k] w fun e w' => ∃ A', e = .returned (.tuple #[.slice A' k k, .int .i64 0]) ∧ BI w' A' k (enc x k) ∧ Below w.heap.size w w' := by
  refine (append_any none 0 0 [] x k w h (BI.nil _ _) (by omega) hx0 hx1).mono ?_
  rintro e w' ⟨A', m, rfl, hb', hl⟩
  have e2 : appE x k = 0 := by simp [appE, hk]; exact hf
  have e1 : appL [] x k = enc x k := by rw [appL, e2]; rfl
  rw [e1] at hb'
  obtain rfl : m = k := hb'.1.symm.trans (length_enc x k)
  exact ⟨A', by rw [e2], hb', hl⟩
theorem append_over (A : Option Addr) (n c : Nat) (zs : List Int) (x k : Int) (w : World) (h : Wid w) (hb : BI w A n zs) (hn : n ≤ 281474976710000) (hk : isW k = true) (hx0 : 0 ≤ x) (hx1 : x < 18446744073709551616) (hf : ¬ x < 256 ^ k.toNat) :
   Calls Tryd.prog 13 #[.slice A n c, .int .u64 x, .int .i64 k] w fun e w' => ∃ A', e = .returned (.tuple #[.slice A' 0 0, .int .i64 16]) ∧ Below w.heap.size w w' := by
  refine (append_any A n c zs x k w h hb hn hx0 hx1).mono ?_
  rintro e w' ⟨A', m, rfl, hb', hl⟩
  have e2 : appE x k = 16 := by rw [appE, if_pos hk, if_neg hf]
  have e1 : appL zs x k = [] := by rw [appL, e2]; rfl
  rw [e1] at hb'
  obtain rfl : m = 0 := hb'.1.symm
  exact ⟨A', by rw [e2], hl⟩
theorem enc_getD (x : Int) (k i : Nat) (h : i < k) : (enc x k).getD i 0 = x / 2 ^ (8 * i) % 256 := by
  rw [pow_two_eight]
  simp [enc, h]

set_option maxRecDepth 100000 in
set_option maxHeartbeats 4000000 in
theorem codecBytes_walk (a0 : Int) (w : World) (wid : Wid w) (w0 : (Lit.int .u64 a0).wf = true) :
    Calls Tryd.prog 7 #[.int .u64 a0] w fun e w' => e = .returned (.bool true) ∧ Below w.heap.size w w' := by
  have b0 := bounds_u64 w0
  obtain ⟨x0, x1⟩ := b0
  clear w0
  go_enter Tryd.func7, Tryd.ntmps7
  go_wp2_with (go_at_call 29; refine (widths_any _).mono ?_; rintro e w1 ⟨g, rfl, hf, hB1⟩)
  have wid1 := wid.below hB1
  go_loopw [12] (fun i wr => ∃ j : Nat, j ≤ 4 ∧ i = .int .i64 j ∧ Below w1.heap.size w1 wr) (fun i _ => 4 - (intOf i).toNat)
  case atStart => exact ⟨0, by omega, rfl, Below.refl _ _⟩
  case round =>
    obtain ⟨j, hj, rfl, hbl⟩ := hrel
    have widr := wid1.below hbl
    have hfr := hf.below hbl
    obtain ⟨f0, f1, f2, f3⟩ := hfr.cell
    clear hfr
    rcases (show j = 0 ∨ j = 1 ∨ j = 2 ∨ j = 3 ∨ j = 4 from by omega) with rfl | rfl | rfl | rfl | rfl
    · by_cases hlt : a0 < 256
      · have hq : (a0 / 256 == 0) = true := by simp; omega
        have hfit := Lib.hid (show fitsB a0 1 = true from by simp [fitsB, isW]; omega)
        go_wp2_with fail
        refine (append_nil_ok a0 1 _ widr (by decide) x0 (by omega) (by omega)).mono ?_
        rintro e wA ⟨A1, rfl, hbA, hBA⟩
        have widA := widr.below hBA
        obtain ⟨b, o, rfl, hcell⟩ := hbA.2.2 (by omega)
        clear hbA
        go_wp2_with fail
        refine (fits_any _ _ _ widA x0 (by omega)).mono ?_
        rintro e _ ⟨rfl, rfl⟩
        rw [hfit.out]
        go_wp2_with fail
        obtain ⟨wo, hwo⟩ : ∃ wo : World, wo = wA := ⟨_, rfl⟩
        rw [← hwo] at hcell hBA widA ⊢
        clear hwo
        go_loop [57] (fun i => ∃ q : Nat, q ≤ 1 ∧ i = .int .i64 q) (fun i => 1 - (intOf i).toNat)
        case atStart => exact ⟨0, by omega, rfl⟩
        case round =>
          obtain ⟨q, hq1, rfl⟩ := hrel
          by_cases hlq : q < 1
          · have hc := hcell q hlq
            rw [enc_getD _ _ _ hlq] at hc
            clear hcell
            go_wp2_with fail
            go_round
            case rel => exact ⟨q + 1, by omega, by go_num⟩
            case measure => simp [intOf]; omega
          · obtain rfl : q = 1 := by omega
            go_wp2_with fail
            go_roundw
            case rel => exact ⟨1, by omega, rfl, bchain hbl hBA⟩
            case measure => simp [intOf]
      · have hq : (a0 / 256 == 0) = false := by simp; omega
        have hfit := Lib.hid (show fitsB a0 1 = false from by simp [fitsB, isW]; omega)
        go_wp2_with fail
        refine (append_over _ _ _ _ _ _ _ widr (BI.nil _ _) (by omega) (by decide) x0 (by omega) (by simp; omega)).mono ?_
        rintro e wA ⟨A1, rfl, hBA⟩
        have widA := widr.below hBA
        go_wp2_with fail
        refine (fits_any _ _ _ widA x0 (by omega)).mono ?_
        rintro e _ ⟨rfl, rfl⟩
        rw [hfit.out]
        go_wp2_with fail
        go_roundw
        case rel => exact ⟨1, by omega, rfl, bchain hbl hBA⟩
        case measure => simp [intOf]
    · by_cases hlt : a0 < 65536
      · have hq : (a0 / 65536 == 0) = true := by simp; omega
        have hfit := Lib.hid (show fitsB a0 2 = true from by simp [fitsB, isW]; omega)
        go_wp2_with fail
        refine (append_nil_ok a0 2 _ widr (by decide) x0 (by omega) (by omega)).mono ?_
        rintro e wA ⟨A1, rfl, hbA, hBA⟩
        have widA := widr.below hBA
        obtain ⟨b, o, rfl, hcell⟩ := hbA.2.2 (by omega)
        clear hbA
        go_wp2_with fail
        refine (fits_any _ _ _ widA x0 (by omega)).mono ?_
        rintro e _ ⟨rfl, rfl⟩
        rw [hfit.out]
        go_wp2_with fail
        obtain ⟨wo, hwo⟩ : ∃ wo : World, wo = wA := ⟨_, rfl⟩
        rw [← hwo] at hcell hBA widA ⊢
        clear hwo
        go_loop [57] (fun i => ∃ q : Nat, q ≤ 2 ∧ i = .int .i64 q) (fun i => 2 - (intOf i).toNat)
        case atStart => exact ⟨0, by omega, rfl⟩
        case round =>
          obtain ⟨q, hq1, rfl⟩ := hrel
          by_cases hlq : q < 2
          · have hc := hcell q hlq
            rw [enc_getD _ _ _ hlq] at hc
            clear hcell
            go_wp2_with fail
            go_round
            case rel => exact ⟨q + 1, by omega, by go_num⟩
            case measure => simp [intOf]; omega
          · obtain rfl : q = 2 := by omega
            go_wp2_with fail
            go_roundw
            case rel => exact ⟨2, by omega, rfl, bchain hbl hBA⟩
            case measure => simp [intOf]
      · have hq : (a0 / 65536 == 0) = false := by simp; omega
        have hfit := Lib.hid (show fitsB a0 2 = false from by simp [fitsB, isW]; omega)
        go_wp2_with fail
        refine (append_over _ _ _ _ _ _ _ widr (BI.nil _ _) (by omega) (by decide) x0 (by omega) (by simp; omega)).mono ?_
        rintro e wA ⟨A1, rfl, hBA⟩
        have widA := widr.below hBA
        go_wp2_with fail
        refine (fits_any _ _ _ widA x0 (by omega)).mono ?_
        rintro e _ ⟨rfl, rfl⟩
        rw [hfit.out]
        go_wp2_with fail
        go_roundw
        case rel => exact ⟨2, by omega, rfl, bchain hbl hBA⟩
        case measure => simp [intOf]
    · by_cases hlt : a0 < 4294967296
      · have hq : (a0 / 4294967296 == 0) = true := by simp; omega
        have hfit := Lib.hid (show fitsB a0 4 = true from by simp [fitsB, isW]; omega)
        go_wp2_with fail
        refine (append_nil_ok a0 4 _ widr (by decide) x0 (by omega) (by omega)).mono ?_
        rintro e wA ⟨A1, rfl, hbA, hBA⟩
        have widA := widr.below hBA
        obtain ⟨b, o, rfl, hcell⟩ := hbA.2.2 (by omega)
        clear hbA
        go_wp2_with fail
        refine (fits_any _ _ _ widA x0 (by omega)).mono ?_
        rintro e _ ⟨rfl, rfl⟩
        rw [hfit.out]
        go_wp2_with fail
        obtain ⟨wo, hwo⟩ : ∃ wo : World, wo = wA := ⟨_, rfl⟩
        rw [← hwo] at hcell hBA widA ⊢
        clear hwo
        go_loop [57] (fun i => ∃ q : Nat, q ≤ 4 ∧ i = .int .i64 q) (fun i => 4 - (intOf i).toNat)
        case atStart => exact ⟨0, by omega, rfl⟩
        case round =>
          obtain ⟨q, hq1, rfl⟩ := hrel
          by_cases hlq : q < 4
          · have hc := hcell q hlq
            rw [enc_getD _ _ _ hlq] at hc
            clear hcell
            go_wp2_with fail
            go_round
            case rel => exact ⟨q + 1, by omega, by go_num⟩
            case measure => simp [intOf]; omega
          · obtain rfl : q = 4 := by omega
            go_wp2_with fail
            go_roundw
            case rel => exact ⟨3, by omega, rfl, bchain hbl hBA⟩
            case measure => simp [intOf]
      · have hq : (a0 / 4294967296 == 0) = false := by simp; omega
        have hfit := Lib.hid (show fitsB a0 4 = false from by simp [fitsB, isW]; omega)
        go_wp2_with fail
        refine (append_over _ _ _ _ _ _ _ widr (BI.nil _ _) (by omega) (by decide) x0 (by omega) (by simp; omega)).mono ?_
        rintro e wA ⟨A1, rfl, hBA⟩
        have widA := widr.below hBA
        go_wp2_with fail
        refine (fits_any _ _ _ widA x0 (by omega)).mono ?_
        rintro e _ ⟨rfl, rfl⟩
        rw [hfit.out]
        go_wp2_with fail
        go_roundw
        case rel => exact ⟨3, by omega, rfl, bchain hbl hBA⟩
        case measure => simp [intOf]
    · have hlt : a0 < 18446744073709551616 := by omega
      have hfit := Lib.hid (show fitsB a0 8 = true from by simp [fitsB, isW]; omega)
      go_wp2_with fail
      refine (append_nil_ok a0 8 _ widr (by decide) x0 (by omega) (by omega)).mono ?_
      rintro e wA ⟨A1, rfl, hbA, hBA⟩
      have widA := widr.below hBA
      obtain ⟨b, o, rfl, hcell⟩ := hbA.2.2 (by omega)
      clear hbA
      go_wp2_with fail
      refine (fits_any _ _ _ widA x0 (by omega)).mono ?_
      rintro e _ ⟨rfl, rfl⟩
      rw [hfit.out]
      go_wp2_with fail
      obtain ⟨wo, hwo⟩ : ∃ wo : World, wo = wA := ⟨_, rfl⟩
      rw [← hwo] at hcell hBA widA ⊢
      clear hwo
      go_loop [57] (fun i => ∃ q : Nat, q ≤ 8 ∧ i = .int .i64 q) (fun i => 8 - (intOf i).toNat)
      case atStart => exact ⟨0, by omega, rfl⟩
      case round =>
        obtain ⟨q, hq1, rfl⟩ := hrel
        by_cases hlq : q < 8
        · have hc := hcell q hlq
          rw [enc_getD _ _ _ hlq] at hc
          clear hcell
          go_wp2_with fail
          go_round
          case rel => exact ⟨q + 1, by omega, by go_num⟩
          case measure => simp [intOf]; omega
        · obtain rfl : q = 8 := by omega
          go_wp2_with fail
          go_roundw
          case rel => exact ⟨4, by omega, rfl, bchain hbl hBA⟩
          case measure => simp [intOf]
    · go_wp2_with fail
      refine (works_any _ widr).mono ?_
      rintro e wF ⟨rfl, hBF⟩
      go_wp2_with fail
      go_ret
      exact ⟨rfl, bchain (bchain hB1 hbl) hBF⟩
end Go.Proofs.YtheecmkkhdjhhaaDoor
