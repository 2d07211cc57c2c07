/- The walk of CodecDigitsBack: decimal numerals round trip; a further digit is ten times the number and the digit, or too large. -/
import Derived.Test.YtheecmkkhdjhhaaDoorRefNum
namespace Go.Proofs.YtheecmkkhdjhhaaDoor
open Go.RowKit Go.PlainAid

/-- The decoder at a numeral. -/
theorem parse_numeral (u : Nat) (hu : u < 18446744073709551616) (w : World) : Calls Tryd.prog 24 #[.string (decS u)] w fun e w' => e = .returned (.tuple #[.int .u64 (u : Int), .int .i64 0]) ∧ w = w' := by
  have h := pd_decS u hu
  have := parseDigits_any (decS u) w (by have := decS_le u hu; omega)
  rw [h.1, h.2] at this
  exact this
/-- The decoder at a numeral and a further digit. -/
theorem parse_zero_more (d : Int) (h0 : 0 ≤ d) (h9 : d ≤ 9) (w : World) : Calls Tryd.prog 24 #[.string (decS 0 ++ strOfNums [48 + d])] w fun e w' => e = .returned (.tuple #[.int .u64 0, .int .i64 8]) ∧ w = w' := by
  have h := pd_more 0 d h0 h9
  rw [if_pos rfl, if_pos rfl] at h
  have := parseDigits_any (decS 0 ++ strOfNums [48 + d]) w (by rw [ByteArray.size_append, str_size]; have := decS_le 0 (by omega); simp; omega)
  rw [h.1, h.2] at this
  exact this
theorem parse_over_more (u : Nat) (hu : u < 18446744073709551616) (d : Int) (h0 : 0 ≤ d) (h9 : d ≤ 9) (hz : u ≠ 0) (ho : ¬ 10 * (u : Int) + d < 18446744073709551616) (w : World) : Calls Tryd.prog 24 #[.string (decS u ++ strOfNums [48 + d])] w fun e w' => e = .returned (.tuple #[.int .u64 0, .int .i64 16]) ∧ w = w' := by
  have h := pd_more u d h0 h9
  rw [if_neg hz, if_neg hz, if_neg ho, if_neg ho] at h
  have := parseDigits_any (decS u ++ strOfNums [48 + d]) w (by rw [ByteArray.size_append, str_size]; have := decS_le u hu; simp; omega)
  rw [h.1, h.2] at this
  exact this
theorem parse_fits_more (u : Nat) (hu : u < 18446744073709551616) (d : Int) (h0 : 0 ≤ d) (h9 : d ≤ 9) (hz : u ≠ 0) (ho : 10 * (u : Int) + d < 18446744073709551616) (w : World) : Calls Tryd.prog 24 #[.string (decS u ++ strOfNums [48 + d])] w fun e w' => e = .returned (.tuple #[.int .u64 (10 * (u : Int) + d), .int .i64 0]) ∧ w = w' := by
  have h := pd_more u d h0 h9
  rw [if_neg hz, if_neg hz, if_pos ho, if_pos ho] at h
  have := parseDigits_any (decS u ++ strOfNums [48 + d]) w (by rw [ByteArray.size_append, str_size]; have := decS_le u hu; simp; omega)
  rw [h.1, h.2] at this
  exact this
/-- The decoder at any string: the number of whose numeral it is, or an error. -/
def PdOk (s : ByteArray) (v g : Int) : Prop := (g = 0 ∧ ∃ k : Nat, v = k ∧ k < 18446744073709551616 ∧ decS k = s) ∨ ((g = 8 ∨ g = 16) ∧ v = 0)
theorem pdOk (s : ByteArray) : PdOk s (pdV s) (pdE s) := by
  rcases pd_cases s with h | h
  · obtain ⟨h1, h2, h3⟩ := pd_back s h
    exact .inl ⟨h, (pdV s).toNat, by omega, by omega, h1⟩
  · exact .inr h

theorem parse_ok (s : ByteArray) (hs : s.size ≤ 1000000) (w : World) : Calls Tryd.prog 24 #[.string s] w fun e w' => ∃ v g, e = .returned (.tuple #[.int .u64 v, .int .i64 g]) ∧ w = w' ∧ PdOk s v g :=
  (parseDigits_any s w (by omega)).mono fun _ _ ⟨he, hw⟩ => ⟨_, _, he, hw, pdOk s⟩

set_option maxRecDepth 100000 in
set_option maxHeartbeats 4000000 in
theorem codecDigitsBack_walk (a0 : Int) (a1 : Int) (a2 : ByteArray) (w : World) (wid : Wid w) (pow : Pow w) (w0 : (Lit.int .u64 a0).wf = true) (w1 : (Lit.int .u8 a1).wf = true) (w2 : a2.size ≤ maxLen) :
    Calls Tryd.prog 10 #[.int .u64 a0, .int .u8 a1, .string a2] w fun e w' => e = .returned (.bool true) ∧ Below w.heap.size w w' := by
  obtain ⟨u0, u1⟩ := bounds_u64 w0
  obtain ⟨d0, d1⟩ := bounds_u8 w1
  clear w0 w1
  obtain ⟨u, rfl⟩ := Int.eq_ofNat_of_zero_le u0
  have hu : u < 18446744073709551616 := by omega
  have hs := decS_le u hu
  have q0 : (0 : Int) ≤ a1 % 10 := by omega
  have q1 : a1 % 10 ≤ 9 := by omega
  have q2 : a1.tmod 10 = a1 % 10 := Int.tmod_eq_emod_of_nonneg d0
  unfold maxLen at w2
  go_enter Tryd.func10, Tryd.ntmps10
  go_wp2_with fail
  refine (digits_any _ hu _ pow).mono ?_
  rintro e wA ⟨rfl, hB1⟩
  have widA := wid.below hB1
  have powA := pow.below hB1
  go_wp2_with fail
  refine (parse_numeral _ hu _).mono ?_
  rintro e _ ⟨rfl, rfl⟩
  go_wp2_with fail
  refine (formatUint_any _ hu _ powA).mono ?_
  rintro e wB ⟨rfl, hB2⟩
  have widB := widA.below hB2
  have powB := powA.below hB2
  have hz1 : (strOfNums [48 + a1 % 10]).size = 1 := str_size _
  have hcv := conv_bytes (wB.alloc (.cells #[.int .u8 (48 + a1 % 10)] 5)) (some ⟨wB.heap.size, 0, none⟩) 1 1 [48 + a1 % 10] (lit_bi wB [48 + a1 % 10] (by intro z hz; simp at hz; omega))
  have hB3 : Below wB.heap.size wB (wB.alloc (.cells #[.int .u8 (48 + a1 % 10)] 5)) := (Below.refl _ _).alloc (Nat.le_refl _) _
  have widC := widB.below hB3
  have powC := powB.below hB3
  have hB := bchain (bchain hB1 hB2) hB3
  by_cases hz : u = 0
  · subst hz
    go_wp2_with fail
    refine (parse_zero_more _ q0 q1 _).mono ?_
    rintro e _ ⟨rfl, rfl⟩
    by_cases hlong : 300 < a2.size
    · go_wp2_with fail
      refine (works_any _ widC).mono ?_
      rintro e wF ⟨rfl, hBF⟩
      go_wp2_with fail
      go_ret
      exact ⟨rfl, bchain hB hBF⟩
    go_wp2_with fail
    refine (parse_ok _ (by omega) _).mono ?_
    rintro e _ ⟨v, g, rfl, rfl, ⟨rfl, k, rfl, hk, hks⟩ | ⟨rfl | rfl, rfl⟩⟩
    · have HK := Lib.hid hks
      clear hks
      go_wp2_with fail
      refine (digits_any _ hk _ powC).mono ?_
      rintro e wD ⟨rfl, hBD⟩
      have widD := widC.below hBD
      rw [HK.out]
      go_wp2_with fail
      refine (works_any _ widD).mono ?_
      rintro e wF ⟨rfl, hBF⟩
      go_wp2_with fail
      go_ret
      exact ⟨rfl, bchain (bchain hB hBD) hBF⟩
    · go_wp2_with fail
      refine (works_any _ widC).mono ?_
      rintro e wF ⟨rfl, hBF⟩
      go_wp2_with fail
      go_ret
      exact ⟨rfl, bchain hB hBF⟩
    · go_wp2_with fail
      refine (works_any _ widC).mono ?_
      rintro e wF ⟨rfl, hBF⟩
      go_wp2_with fail
      go_ret
      exact ⟨rfl, bchain hB hBF⟩
  have hzi : (u : Int) ≠ 0 := by omega
  by_cases ho : 10 * (u : Int) + a1 % 10 < 18446744073709551616
  · go_wp2_with fail
    refine (parse_fits_more _ hu _ q0 q1 hz ho _).mono ?_
    rintro e _ ⟨rfl, rfl⟩
    by_cases hlong : 300 < a2.size
    · go_wp2_with fail
      refine (works_any _ widC).mono ?_
      rintro e wF ⟨rfl, hBF⟩
      go_wp2_with fail
      go_ret
      exact ⟨rfl, bchain hB hBF⟩
    go_wp2_with fail
    refine (parse_ok _ (by omega) _).mono ?_
    rintro e _ ⟨v, g, rfl, rfl, ⟨rfl, k, rfl, hk, hks⟩ | ⟨rfl | rfl, rfl⟩⟩
    · have HK := Lib.hid hks
      clear hks
      go_wp2_with fail
      refine (digits_any _ hk _ powC).mono ?_
      rintro e wD ⟨rfl, hBD⟩
      have widD := widC.below hBD
      rw [HK.out]
      go_wp2_with fail
      refine (works_any _ widD).mono ?_
      rintro e wF ⟨rfl, hBF⟩
      go_wp2_with fail
      go_ret
      exact ⟨rfl, bchain (bchain hB hBD) hBF⟩
    · go_wp2_with fail
      refine (works_any _ widC).mono ?_
      rintro e wF ⟨rfl, hBF⟩
      go_wp2_with fail
      go_ret
      exact ⟨rfl, bchain hB hBF⟩
    · go_wp2_with fail
      refine (works_any _ widC).mono ?_
      rintro e wF ⟨rfl, hBF⟩
      go_wp2_with fail
      go_ret
      exact ⟨rfl, bchain hB hBF⟩
  · go_wp2_with fail
    refine (parse_over_more _ hu _ q0 q1 hz (by omega) _).mono ?_
    rintro e _ ⟨rfl, rfl⟩
    by_cases hlong : 300 < a2.size
    · go_wp2_with fail
      refine (works_any _ widC).mono ?_
      rintro e wF ⟨rfl, hBF⟩
      go_wp2_with fail
      go_ret
      exact ⟨rfl, bchain hB hBF⟩
    go_wp2_with fail
    refine (parse_ok _ (by omega) _).mono ?_
    rintro e _ ⟨v, g, rfl, rfl, ⟨rfl, k, rfl, hk, hks⟩ | ⟨rfl | rfl, rfl⟩⟩
    · have HK := Lib.hid hks
      clear hks
      go_wp2_with fail
      refine (digits_any _ hk _ powC).mono ?_
      rintro e wD ⟨rfl, hBD⟩
      have widD := widC.below hBD
      rw [HK.out]
      go_wp2_with fail
      refine (works_any _ widD).mono ?_
      rintro e wF ⟨rfl, hBF⟩
      go_wp2_with fail
      go_ret
      exact ⟨rfl, bchain (bchain hB hBD) hBF⟩
    · go_wp2_with fail
      refine (works_any _ widC).mono ?_
      rintro e wF ⟨rfl, hBF⟩
      go_wp2_with fail
      go_ret
      exact ⟨rfl, bchain hB hBF⟩
    · go_wp2_with fail
      refine (works_any _ widC).mono ?_
      rintro e wF ⟨rfl, hBF⟩
      go_wp2_with fail
      go_ret
      exact ⟨rfl, bchain hB hBF⟩
end Go.Proofs.YtheecmkkhdjhhaaDoor
