/- The walk of CodecHex. -/
import Derived.Test.YtheecmkkhdjhhaaDoorRefHex
namespace Go.Proofs.YtheecmkkhdjhhaaDoor
open Go.RowKit Go.PlainAid

theorem rhex_str (A : Option Addr) (n c : Nat) (zs : List Int) (w : World) (t : ByteArray) (ht : t = strOfNums (hexL zs)) (hb : BI w A n zs) (hn : n ≤ 70368744177664) :
    Calls Tryd.prog 23 #[.slice A n c] w fun e w' => e = .returned (.string t) ∧ Below w.heap.size w w' := by
  rw [ht]; exact rhex_any A n c zs w hb hn

theorem parse_no2 (s : ByteArray) (hs : s.size ≤ 1000000) (hk : hexOkS s = false) (w : World) :
    Calls Tryd.prog 20 #[.string s] w fun e w' => ∃ A', e = .returned (.tuple #[.slice A' 0 0, .int .i64 8]) ∧ BI w' A' 0 [] ∧ Below w.heap.size w w' :=
  (parse_no s hs hk w).mono fun _ _ ⟨A', he, hl⟩ => ⟨A', he, BI.nil _ _, hl⟩
theorem rparse_yes (s : ByteArray) (hs : s.size ≤ 1000000) (hk : hexOkS s = true) (w : World) :
    Calls Tryd.prog 21 #[.string s] w fun e w' => ∃ A' m c, e = .returned (.tuple #[.slice A' m c, .int .i64 0]) ∧ BI w' A' m (hexS s (s.size / 2)) ∧ Below w.heap.size w w' := by
  refine (rparse_go s w hs).mono ?_
  rintro e w' ⟨A', m, c, rfl, hbi, hl⟩
  rw [hk, if_pos rfl] at hbi
  exact ⟨A', m, c, by rw [hk]; rfl, hbi, hl⟩
theorem rparse_no (s : ByteArray) (hs : s.size ≤ 1000000) (hk : hexOkS s = false) (w : World) :
    Calls Tryd.prog 21 #[.string s] w fun e w' => ∃ A' m c, e = .returned (.tuple #[.slice A' m c, .int .i64 8]) ∧ BI w' A' m [] ∧ Below w.heap.size w w' := by
  refine (rparse_go s w hs).mono ?_
  rintro e w' ⟨A', m, c, rfl, hbi, hl⟩
  rw [hk] at hbi
  exact ⟨A', m, c, by rw [hk]; rfl, hbi, hl⟩

set_option maxRecDepth 100000 in
set_option maxHeartbeats 2000000 in
theorem codecHex_walk (a0 : Option Addr) (len0 cap0 : Nat) (z0 : List Int) (a1 : ByteArray) (w : World) (wid : Wid w) (w0 : IsRow .u8 w a0 len0 cap0 z0) (w1 : a1.size ≤ maxLen) :
    Calls Tryd.prog 4 #[.slice a0 len0 cap0, .string a1] w fun e w' => e = .returned (.bool true) ∧ Below w.heap.size w w' := by
  have hl := w0.len
  have hb := w0.bi
  clear w0
  obtain ⟨l1, l2⟩ := hl
  unfold maxLen at w1
  by_cases hbig : 1000 < len0
  · go_enter Tryd.func4, Tryd.ntmps4
    go_wp2_with fail
    refine (works_any _ wid).mono ?_
    rintro e wF ⟨rfl, hBF⟩
    go_wp2_with fail
    go_ret
    exact ⟨rfl, hBF⟩
  by_cases hbig2 : 1000 < a1.size
  · go_enter Tryd.func4, Tryd.ntmps4
    go_wp2_with fail
    refine (works_any _ wid).mono ?_
    rintro e wF ⟨rfl, hBF⟩
    go_wp2_with fail
    go_ret
    exact ⟨rfl, hBF⟩
  obtain ⟨t, ht⟩ : ∃ t, t = strOfNums (hexL (z0.take len0)) := ⟨_, rfl⟩
  have HT := Lib.hid ht
  clear ht
  cases hk : hexOkS a1 with
  | true =>
    go_enter Tryd.func4, Tryd.ntmps4
    go_wp2_with fail
    refine (parse_yes _ (by omega) hk _).mono ?_
    rintro e wA ⟨A1, rfl, hb1, hB1⟩
    have hbA := hb.below hB1
    have widA := wid.below hB1
    go_wp2_with fail
    refine (rparse_yes _ (by omega) hk _).mono ?_
    rintro e wB ⟨A2, m2, cc2, rfl, hb2, hB2⟩
    have hbB := hbA.below hB2
    have hb1B := hb1.below hB2
    have widB := widA.below hB2
    go_wp2_with fail
    refine (hex_str _ _ _ _ _ t HT.out hbB (by omega)).mono ?_
    rintro e wC ⟨rfl, hB3⟩
    have hbC := hbB.below hB3
    have hb1C := hb1B.below hB3
    have hb2C := hb2.below hB3
    have widC := widB.below hB3
    go_wp2_with fail
    refine (rhex_str _ _ _ _ _ t HT.out hbC (by omega)).mono ?_
    rintro e wD ⟨rfl, hB4⟩
    have hb1D := hb1C.below hB4
    have hb2D := hb2C.below hB4
    have widD := widC.below hB4
    go_wp2_with fail
    refine (equal_any _ _ _ _ _ _ _ _ _ hb1D hb2D).mono ?_
    rintro e _ ⟨rfl, rfl⟩
    rw [decide_eq_true (rfl : hexS a1 (a1.size / 2) = hexS a1 (a1.size / 2))]
    go_wp2_with fail
    refine (works_any _ widD).mono ?_
    rintro e wF ⟨rfl, hBF⟩
    go_wp2_with fail
    go_ret
    exact ⟨rfl, bchain (bchain (bchain (bchain hB1 hB2) hB3) hB4) hBF⟩
  | false =>
    go_enter Tryd.func4, Tryd.ntmps4
    go_wp2_with fail
    refine (parse_no2 _ (by omega) hk _).mono ?_
    rintro e wA ⟨A1, rfl, hb1, hB1⟩
    have hbA := hb.below hB1
    have widA := wid.below hB1
    go_wp2_with fail
    refine (rparse_no _ (by omega) hk _).mono ?_
    rintro e wB ⟨A2, m2, cc2, rfl, hb2, hB2⟩
    have hbB := hbA.below hB2
    have hb1B := hb1.below hB2
    have widB := widA.below hB2
    go_wp2_with fail
    refine (hex_str _ _ _ _ _ t HT.out hbB (by omega)).mono ?_
    rintro e wC ⟨rfl, hB3⟩
    have hbC := hbB.below hB3
    have hb1C := hb1B.below hB3
    have hb2C := hb2.below hB3
    have widC := widB.below hB3
    go_wp2_with fail
    refine (rhex_str _ _ _ _ _ t HT.out hbC (by omega)).mono ?_
    rintro e wD ⟨rfl, hB4⟩
    have hb1D := hb1C.below hB4
    have hb2D := hb2C.below hB4
    have widD := widC.below hB4
    go_wp2_with fail
    refine (equal_any _ _ _ _ _ _ _ _ _ hb1D hb2D).mono ?_
    rintro e _ ⟨rfl, rfl⟩
    rw [decide_eq_true (rfl : ([] : List Int) = [])]
    go_wp2_with fail
    refine (works_any _ widD).mono ?_
    rintro e wF ⟨rfl, hBF⟩
    go_wp2_with fail
    go_ret
    exact ⟨rfl, bchain (bchain (bchain (bchain hB1 hB2) hB3) hB4) hBF⟩
end Go.Proofs.YtheecmkkhdjhhaaDoor
