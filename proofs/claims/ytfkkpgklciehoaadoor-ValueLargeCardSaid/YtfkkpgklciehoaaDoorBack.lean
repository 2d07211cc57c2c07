/- Plain mathematics: string forms are decoded, and joined. -/
import Derived.Test.YtfkkpgklciehoaaDoorRPrs
import Derived.Test.YtfkkpgklciehoaaDoorSho
namespace Go.Proofs.YtfkkpgklciehoaaDoor
open Go.RowKit Go.PlainAid

theorem form_nil {s : ByteArray} (h : s.size = 0) : form s = ⟨#[45]⟩ := if_pos h
theorem form_hex {s : ByteArray} (h : ¬ s.size = 0) : form s = strOfNums (hexL (bts s)) := if_neg h
theorem form_size {s : ByteArray} (h : ¬ s.size = 0) : (form s).size = 2 * s.size := by rw [form_hex h, strOfNums_size, hexL_length, bts_length]
theorem size_ne {s t : ByteArray} (h : s.size ≠ t.size) : ¬ s = t := fun e => h (by rw [e])
theorem form_not_dash {s : ByteArray} (h : ¬ s.size = 0) : ¬ form s = ⟨#[45]⟩ := size_ne (by rw [form_size h]; show _ ≠ 1; omega)
theorem form_ok (s : ByteArray) (h : ¬ s.size = 0) : hexOkS (form s) = true ∧ hexS (form s) ((form s).size / 2) = bts s := by
  have k := hex_back (bts s) (bts_bd s)
  rw [form_size h, show 2 * s.size / 2 = s.size by omega, form_hex h]
  rw [bts_length] at k
  exact k
theorem form_back (s : ByteArray) (h : s.size ≤ 512) : prsE (form s) = 0 ∧ prsS (form s) = s := by
  by_cases h0 : s.size = 0
  · rw [form_nil h0]
    exact ⟨if_pos rfl, (if_pos rfl).trans (nil_of_size h0).symm⟩
  · have hd := form_not_dash h0
    have hz := form_size h0
    obtain ⟨k1, k2⟩ := form_ok s h0
    have e : prsE (form s) = 0 := by unfold prsE; rw [if_neg hd, if_neg (by omega), k1, if_pos rfl, if_neg (by omega)]
    refine ⟨e, ?_⟩
    unfold prsS
    rw [if_neg hd, if_pos e, k2, str_bts]
theorem tail_size (t : ByteArray) : (t.extract 1 t.size).size = t.size - 1 := by rw [← bts_length, bts_extract, List.length_take, List.length_drop, bts_length]; omega
theorem form_tail (s : ByteArray) : prsE ((form s).extract 1 (form s).size) = 8 ∧ prsS ((form s).extract 1 (form s).size) = ⟨#[]⟩ := by
  by_cases h0 : s.size = 0
  · rw [form_nil h0]
    exact ⟨by decide +kernel, by decide +kernel⟩
  · have hz := form_size h0
    have ht := tail_size (form s)
    have hd : ¬ (form s).extract 1 (form s).size = ⟨#[45]⟩ := by
      intro e
      have hb := bts_extract (form s) 1 (form s).size
      rw [e] at hb
      have hl := congrArg List.length hb
      rw [List.length_take, List.length_drop, bts_length, bts_length] at hl
      have h1 : s.size = 1 := by have : (⟨#[45]⟩ : ByteArray).size = 1 := rfl; omega
      have h2 := congrArg (fun l => l.getD 0 0) hb
      have h3 := (yes_parts (form_ok s h0).1).2 1 (by omega)
      rw [← bts_getD] at h3
      have h4 : (bts (form s)).getD 1 0 = 45 := by
        rw [show (45 : Int) = (bts ⟨#[45]⟩).getD 0 0 from rfl, hb, hz, h1]
        simp
      rw [h4] at h3
      revert h3
      decide
    exact prs_form hd (odd_of (by omega))

/-- What Parse returns, in three ways. -/
theorem prs_three (t : ByteArray) : (prsE t = 8 ∧ prsS t = ⟨#[]⟩) ∨ (prsE t = 12 ∧ prsS t = ⟨#[]⟩ ∧ 1024 < t.size) ∨ (prsE t = 0 ∧ txtE (prsS t) = 0 ∧ txtS (prsS t) = t ∧ (prsS t).size ≤ 512) := by
  by_cases hd : t = ⟨#[45]⟩
  · subst hd
    exact .inr (.inr ⟨by decide +kernel, by decide +kernel, by decide +kernel, by decide +kernel⟩)
  by_cases h0 : t.size = 0
  · have e2 : prsE t = 8 := by unfold prsE; rw [if_neg hd, if_pos h0]
    exact .inl ⟨e2, prs_bad hd (by decide) e2⟩
  cases hk : hexOkS t with
  | false => exact .inl (prs_form hd hk)
  | true =>
    by_cases h3 : 512 < t.size / 2
    · have e2 : prsE t = 12 := by unfold prsE; rw [if_neg hd, if_neg h0, hk, if_pos rfl, if_pos h3]
      exact .inr (.inl ⟨e2, prs_bad hd (by decide) e2, by omega⟩)
    · have e2 : prsE t = 0 := by unfold prsE; rw [if_neg hd, if_neg h0, hk, if_pos rfl, if_neg h3]
      have e1 : prsS t = strOfNums (hexS t (t.size / 2)) := by unfold prsS; rw [if_neg hd, if_pos e2]
      have hz : (prsS t).size = t.size / 2 := by rw [e1, strOfNums_size, hexS_length]
      have hp := (yes_parts hk).1
      refine .inr (.inr ⟨e2, if_neg (by omega), ?_, by omega⟩)
      unfold txtS
      rw [if_neg (by omega), form_hex (by omega), e1, bts_str _ (hexS_bd _ _)]
      exact hex_forth t hk

theorem form_inj {a b : ByteArray} (ha : a.size ≤ 512) (hb : b.size ≤ 512) : decide (form a = form b) = decide (a = b) := by
  rw [decide_eq_decide]
  refine ⟨fun h => ?_, fun h => by rw [h]⟩
  rw [← (form_back a ha).2, h, (form_back b hb).2]
theorem form_join {a b : ByteArray} (ha : ¬ a.size = 0) (hb : ¬ b.size = 0) : form (a ++ b) = form a ++ form b := by
  rw [form_hex (by rw [ByteArray.size_append]; omega), form_hex ha, form_hex hb, bts_append, hexL_append, str_app]
end Go.Proofs.YtfkkpgklciehoaaDoor
