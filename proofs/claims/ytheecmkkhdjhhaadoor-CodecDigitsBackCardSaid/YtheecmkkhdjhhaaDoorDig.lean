/- Decimal numerals: what a number's numeral decodes to, and which number's numeral a decoded string is. -/
import Derived.Test.YtheecmkkhdjhhaaDoorFmt
import Derived.Test.YtheecmkkhdjhhaaDoorDec
import Derived.Test.YtheecmkkhdjhhaaDoorRefHex
namespace Go.Proofs.YtheecmkkhdjhhaaDoor
open Go.RowKit Go.PlainAid

/-- The numeral's bytes as numbers. -/
def decN (u : Nat) : List Int := if u < 10 then [48 + (u : Int)] else decN (u / 10) ++ [48 + ((u % 10 : Nat) : Int)]
termination_by u
decreasing_by omega
theorem decN_small {u : Nat} (h : u < 10) : decN u = [48 + (u : Int)] := by rw [decN, if_pos h]
theorem decN_big {u : Nat} (h : ¬ u < 10) : decN u = decN (u / 10) ++ [48 + ((u % 10 : Nat) : Int)] := by rw [decN, if_neg h]

theorem decN_map (u : Nat) : (decN u).map (fun z => UInt8.ofNat z.toNat) = Lib.decDigits u := by
  induction u using Nat.strongRecOn with
  | _ u ih =>
    by_cases h : u < 10
    · rw [decN_small h, Lib.decDigits, dif_pos h]
      simp only [List.map_cons, List.map_nil]
      rw [show (48 + (u : Int)).toNat = 48 + u from by omega]
    · rw [decN_big h, Lib.decDigits, dif_neg h, List.map_append, ih (u / 10) (by omega)]
      simp only [List.map_cons, List.map_nil]
      rw [show (48 + ((u % 10 : Nat) : Int)).toNat = 48 + u % 10 from by omega]
theorem decS_eq (u : Nat) : decS u = strOfNums (decN u) := by
  apply ByteArray.ext
  unfold decS strOfNums
  simp [← decN_map u]
theorem decN_bd (u : Nat) : ∀ z ∈ decN u, 48 ≤ z ∧ z ≤ 57 := by
  induction u using Nat.strongRecOn with
  | _ u ih =>
    by_cases h : u < 10
    · rw [decN_small h]; intro z hz; simp at hz; omega
    · rw [decN_big h]; intro z hz
      rcases List.mem_append.1 hz with hz | hz
      · exact ih (u / 10) (by omega) z hz
      · simp at hz; omega
theorem decN_len (u : Nat) : (decN u).length = Lib.nDigits u := by
  rw [← Lib.decDigits_length, ← decN_map, List.length_map]
theorem decS_size (u : Nat) : (decS u).size = Lib.nDigits u := by rw [decS_eq, str_size, decN_len]
theorem nDigits_pos (u : Nat) : 1 ≤ Lib.nDigits u := by
  by_cases h : u < 10
  · rw [Lib.nDigits_small h]; omega
  · rw [Lib.nDigits_big h]; omega
theorem decS_le (u : Nat) (h : u < 18446744073709551616) : (decS u).size ≤ 20 := by
  rw [decS_size]
  by_cases h1 : 1 ≤ u
  · have := Lib.numDigits_eq u h1 h; split at this <;> omega
  · rw [Lib.nDigits_small (by omega)]; omega

/-- The number of a list of digits. -/
def lv (L : List Int) : Int := L.foldl (fun a z => 10 * a + (z - 48)) 0
theorem lv_snoc (L : List Int) (z : Int) : lv (L ++ [z]) = 10 * lv L + (z - 48) := by simp [lv]
theorem lv_decN (u : Nat) : lv (decN u) = u := by
  induction u using Nat.strongRecOn with
  | _ u ih =>
    by_cases h : u < 10
    · rw [decN_small h]; simp [lv]; omega
    · rw [decN_big h, lv_snoc, ih (u / 10) (by omega)]; omega
theorem decN_head (u : Nat) (h1 : 1 ≤ u) : (decN u).getD 0 0 ≠ 48 := by
  induction u using Nat.strongRecOn with
  | _ u ih =>
    by_cases h : u < 10
    · rw [decN_small h]; simp; omega
    · have hl : 0 < (decN (u / 10)).length := by rw [decN_len]; exact nDigits_pos _
      have := ih (u / 10) (by omega) (by omega)
      rw [decN_big h, List.getD, List.getElem?_append_left hl]
      exact this

theorem dval_str (L : List Int) (hL : ∀ z ∈ L, 0 ≤ z ∧ z ≤ 255) : ∀ j, j ≤ L.length → dval (strOfNums L) j = lv (L.take j)
  | 0, _ => by simp [dval, lv]
  | j + 1, hj => by
    rw [dval_succ, dval_str L hL j (by omega), take_succ_ints L j (by omega), lv_snoc, bt_str L hL j (by omega), List.getD]
theorem ok_str (L : List Int) (hL : ∀ z ∈ L, 48 ≤ z ∧ z ≤ 57) (h0 : 0 < L.length) : decOkS (strOfNums L) = !(decide (1 < L.length) && (L.getD 0 0 == 48)) := by
  have hL' : ∀ z ∈ L, 0 ≤ z ∧ z ≤ 255 := fun z hz => by have := hL z hz; omega
  have ha : ((List.range (strOfNums L).size).all fun i => dig (bt (strOfNums L) i)) = true := by
    simp only [List.all_eq_true, List.mem_range]
    intro i hi
    rw [str_size] at hi
    rw [bt_str L hL' i hi, List.getD, List.getElem?_eq_getElem hi]
    have := hL L[i] (List.getElem_mem hi)
    simp [dig]; omega
  unfold decOkS
  rw [ha, bt_str L hL' 0 h0, str_size]
  simp [h0]

theorem pd_of {s : ByteArray} (v : Int) (h1 : decOkS s = true) (h2 : dval s s.size = v) : pdE s = (if v < 18446744073709551616 then 0 else 16) ∧ pdV s = (if v < 18446744073709551616 then v else 0) := by
  have e1 : pdE s = (if v < 18446744073709551616 then 0 else 16) := by unfold pdE; rw [h1, h2]; rfl
  refine ⟨e1, ?_⟩
  unfold pdV; rw [e1, h2]
  split <;> simp

theorem pd_decS (u : Nat) (hu : u < 18446744073709551616) : pdE (decS u) = 0 ∧ pdV (decS u) = u := by
  have hb := decN_bd u
  have hp : 0 < (decN u).length := by rw [decN_len]; exact nDigits_pos u
  have hk : decOkS (decS u) = true := by
    rw [decS_eq, ok_str _ hb hp]
    by_cases h : u < 10
    · rw [decN_small h]; simp
    · have hne : ((decN u).getD 0 0 == 48) = false := beq_eq_false_iff_ne.2 (decN_head u (by omega))
      rw [hne, Bool.and_false]; rfl
  have hv : dval (decS u) (decS u).size = u := by
    rw [decS_eq, str_size, dval_str _ (fun z hz => by have := hb z hz; omega) _ (Nat.le_refl _), List.take_length, lv_decN]
  have := pd_of (u : Int) hk hv
  rw [if_pos (by omega), if_pos (by omega)] at this
  exact this

/-- A further digit. -/
theorem pd_more (u : Nat) (d : Int) (h0 : 0 ≤ d) (h9 : d ≤ 9) :
    pdE (decS u ++ strOfNums [48 + d]) = (if u = 0 then 8 else if 10 * (u : Int) + d < 18446744073709551616 then 0 else 16) ∧
    pdV (decS u ++ strOfNums [48 + d]) = (if u = 0 then 0 else if 10 * (u : Int) + d < 18446744073709551616 then 10 * (u : Int) + d else 0) := by
  have hb := decN_bd u
  have hp : 0 < (decN u).length := by rw [decN_len]; exact nDigits_pos u
  have hb' : ∀ z ∈ decN u ++ [48 + d], 48 ≤ z ∧ z ≤ 57 := by
    intro z hz
    rcases List.mem_append.1 hz with hz | hz
    · exact hb z hz
    · simp at hz; omega
  have hl : 1 < (decN u ++ [48 + d]).length := by simp; omega
  have hh : (decN u ++ [48 + d]).getD 0 0 = (decN u).getD 0 0 := by rw [List.getD, List.getElem?_append_left hp]; rfl
  have hok := ok_str _ hb' (by omega)
  rw [hh] at hok
  rw [decS_eq, str_app]
  by_cases hz : u = 0
  · subst hz
    have hk : decOkS (strOfNums (decN 0 ++ [48 + d])) = false := by
      rw [hok, decN_small (by omega)]; simp
    have e : pdE (strOfNums (decN 0 ++ [48 + d])) = 8 := by simp [pdE, hk]
    rw [if_pos rfl, if_pos rfl]
    exact ⟨e, by rw [pdV, e]; rfl⟩
  · rw [if_neg hz, if_neg hz]
    refine pd_of _ ?_ ?_
    · rw [hok]
      have := decN_head u (by omega)
      simp at this
      simp [this]
    · rw [str_size, dval_str _ (fun z hz => by have := hb' z hz; omega) _ (Nat.le_refl _), List.take_length, lv_snoc, lv_decN]
      omega

theorem decN_back {s : ByteArray} (hd : Digs s s.size) (h48 : 1 < s.size → bt s 0 ≠ 48) : ∀ j, j < s.size → decN (dval s (j + 1)).toNat = (List.range (j + 1)).map (bt s) ∧ (bt s 0 ≠ 48 → 1 ≤ dval s (j + 1))
  | 0, h => by
    have := hd 0 h
    simp [dig] at this
    rw [dval_succ, dval_zero, decN_small (by omega)]
    refine ⟨?_, by omega⟩
    simp
    omega
  | j + 1, h => by
    have := hd (j + 1) h
    simp [dig] at this
    obtain ⟨i1, i2⟩ := decN_back hd h48 j (by omega)
    have i3 := i2 (h48 (by omega))
    rw [dval_succ]
    refine ⟨?_, by omega⟩
    rw [decN_big (by omega), show (10 * dval s (j + 1) + (bt s (j + 1) - 48)).toNat / 10 = (dval s (j + 1)).toNat from by omega, i1, List.range_succ (n := j + 1), List.map_append]
    simp
    omega

theorem pd_back (s : ByteArray) (h : pdE s = 0) : decS (pdV s).toNat = s ∧ 0 ≤ pdV s ∧ pdV s < 18446744073709551616 := by
  have hk : decOkS s = true := by
    cases hk : decOkS s with
    | true => rfl
    | false => simp [pdE, hk] at h
  have hlt : dval s s.size < 18446744073709551616 := by
    by_cases hc : dval s s.size < 18446744073709551616
    · exact hc
    · simp [pdE, hk, hc] at h
  have hd := digs_of hk
  have hv : pdV s = dval s s.size := by rw [pdV, if_pos h]
  have hp : 0 < s.size := by
    simp only [decOkS, Bool.and_eq_true, decide_eq_true_eq] at hk
    exact hk.1.1
  have h48 : 1 < s.size → bt s 0 ≠ 48 := by
    intro h1 h2
    simp [decOkS, h1, h2] at hk
  have := (decN_back hd h48 (s.size - 1) (by omega)).1
  rw [show s.size - 1 + 1 = s.size from by omega] at this
  rw [hv]
  refine ⟨by rw [decS_eq, this, str_of_bt], dval_nonneg hd _ (Nat.le_refl _), hlt⟩

theorem pd_cases (s : ByteArray) : (pdE s = 0) ∨ ((pdE s = 8 ∨ pdE s = 16) ∧ pdV s = 0) := by
  unfold pdV pdE
  split
  · split
    · exact .inl rfl
    · exact .inr ⟨.inr rfl, rfl⟩
  · exact .inr ⟨.inl rfl, rfl⟩
end Go.Proofs.YtheecmkkhdjhhaaDoor
