/- Plain mathematics: what is repeated has a period; descriptions tell lengths and first bytes apart. -/
import Derived.Test.YtfkkpgklciehoaaDoorBack
namespace Go.Proofs.YtfkkpgklciehoaaDoor
open Go.RowKit Go.PlainAid

theorem rep_bt (s : ByteArray) (n i : Nat) (h : i < n) : bt (strOfNums (repL s n)) i = bt s (i % s.size) := by
  rw [← bts_getD, bts_str _ (repL_bd s n), repL_getD s n i h]
theorem rep_take (s : ByteArray) (n m : Nat) (h : m ≤ n) : strOfNums (repL s m) = (strOfNums (repL s n)).extract 0 m := by
  apply bts_inj
  rw [bts_pre, bts_str _ (repL_bd s n), bts_str _ (repL_bd s m)]
  refine ext_getD (by rw [repL_length, List.length_take, repL_length]; omega) fun i hi => ?_
  rw [repL_length] at hi
  have e : ((repL s n).take m).getD i 0 = (repL s n).getD i 0 := by rw [List.getD, List.getD, List.getElem?_take_of_lt hi]
  rw [repL_getD s m i hi, e, repL_getD s n i (by omega)]
theorem mod_back (i n : Nat) (h : n ≤ i) : i % n = (i - n) % n := Nat.mod_eq_sub_mod h

theorem hexL_inj {a b : List Int} (ha : ∀ z ∈ a, 0 ≤ z ∧ z ≤ 255) (hb : ∀ z ∈ b, 0 ≤ z ∧ z ≤ 255) (h : hexL a = hexL b) : a = b := by
  have l := congrArg List.length h
  rw [hexL_length, hexL_length] at l
  rw [← (hex_back a ha).2, h, show a.length = b.length by omega, (hex_back b hb).2]
theorem split58 : ∀ (a b x y : List Int), (∀ z ∈ a, z ≠ 58) → (∀ z ∈ b, z ≠ 58) → a ++ 58 :: x = b ++ 58 :: y → a = b ∧ x = y
  | [], [], x, y, _, _, h => by simp at h; exact ⟨rfl, h⟩
  | [], d :: b, x, y, _, hb, h => by simp at h; exact absurd h.1.symm (hb d (by simp))
  | c :: a, [], x, y, ha, _, h => by simp at h; exact absurd h.1 (ha c (by simp))
  | c :: a, d :: b, x, y, ha, hb, h => by
    simp at h
    have := split58 a b x y (fun z hz => ha z (by simp [hz])) (fun z hz => hb z (by simp [hz])) h.2
    exact ⟨by rw [h.1, this.1], this.2⟩
theorem shoL_eq (s : ByteArray) : shoL s = decN s.size ++ 58 :: (hexL ((bts s).take 8) ++ (if 8 < s.size then [46, 46] else [])) := by
  unfold shoL
  simp only [List.append_assoc, List.cons_append, List.nil_append]
theorem shoL_inj {a b : ByteArray} : shoL a = shoL b ↔ a.size = b.size ∧ (bts a).take 8 = (bts b).take 8 := by
  constructor
  · intro h
    rw [shoL_eq, shoL_eq] at h
    obtain ⟨h1, h2⟩ := split58 _ _ _ _ (fun z hz => by have := decN_bd _ z hz; omega) (fun z hz => by have := decN_bd _ z hz; omega) h
    have h3 := decN_inj h1
    refine ⟨h3, ?_⟩
    rw [h3] at h2
    exact hexL_inj (take_bd a 8) (take_bd b 8) (List.append_cancel_right h2)
  · rintro ⟨h1, h2⟩
    unfold shoL
    rw [h1, h2]
/-- The tests of the law: the descriptions, the lengths, the first bytes. -/
theorem sho_test (a b : ByteArray) (m n : Nat) (hm : m = min 8 a.size) (hn : n = min 8 b.size) :
    ((strOfNums (shoL a)).toList == (strOfNums (shoL b)).toList) = (decide (a.size = b.size) && ((a.extract 0 m).toList == (b.extract 0 n).toList)) := by
  have pre : ∀ (s : ByteArray) (q : Nat), q = min 8 s.size → (bts s).take q = (bts s).take 8 := by
    intro s q hq
    by_cases h : 8 ≤ s.size
    · rw [show q = 8 by omega]
    · rw [List.take_of_length_le (by rw [bts_length]; omega), List.take_of_length_le (by rw [bts_length]; omega)]
  rw [toList_beq, toList_beq, Bool.eq_iff_iff, Bool.and_eq_true, decide_eq_true_iff, decide_eq_true_iff, decide_eq_true_iff]
  have e1 : (strOfNums (shoL a) = strOfNums (shoL b)) ↔ shoL a = shoL b := ⟨fun h => by rw [← bts_str _ (shoL_bd a), h, bts_str _ (shoL_bd b)], fun h => by rw [h]⟩
  have e2 : (a.extract 0 m = b.extract 0 n) ↔ (bts a).take 8 = (bts b).take 8 := by
    rw [← pre a m hm, ← pre b n hn, ← bts_pre, ← bts_pre]
    exact ⟨fun h => by rw [h], bts_inj⟩
  rw [e1, e2, shoL_inj]

/-- What the law reads of a description. -/
theorem sho_len (s : ByteArray) : (shoL s).length = (decN s.size).length + 1 + 2 * min 8 s.size + (if 8 < s.size then 2 else 0) := by
  unfold shoL
  rw [List.length_append, List.length_append, List.length_append, hexL_length, List.length_take, bts_length]
  split <;> rfl
theorem sho_digit (s : ByteArray) (j : Nat) (h : j < (decN s.size).length) : bt (strOfNums (shoL s)) j = (decN s.size).getD j 0 ∧ 48 ≤ (decN s.size).getD j 0 ∧ (decN s.size).getD j 0 ≤ 57 := by
  constructor
  · rw [← bts_getD, bts_str _ (shoL_bd s), shoL_eq, List.getD, List.getD, List.getElem?_append_left h]
  · rw [List.getD, List.getElem?_eq_getElem h]
    exact decN_bd _ _ (List.getElem_mem _)
theorem sho_colon (s : ByteArray) : bt (strOfNums (shoL s)) (decN s.size).length = 58 := by
  rw [← bts_getD, bts_str _ (shoL_bd s), shoL_eq, List.getD, List.getElem?_append_right (Nat.le_refl _), Nat.sub_self]
  rfl
theorem sho_dots (s : ByteArray) (h : 8 < s.size) : (strOfNums (shoL s)).extract ((shoL s).length - 2) (shoL s).length = ⟨#[46, 46]⟩ := by
  apply bts_inj
  rw [bts_extract, bts_str _ (shoL_bd s)]
  have e : shoL s = (decN s.size ++ [58] ++ hexL ((bts s).take 8)) ++ [46, 46] := by unfold shoL; rw [if_pos h]
  rw [e]
  rw [List.length_append]
  show List.take (_ + 2 - (_ + 2 - 2)) (List.drop (_ + 2 - 2) _) = _
  rw [Nat.add_sub_cancel, List.drop_left, Nat.add_sub_cancel_left]
  rfl
/-- The number of the first j digits. -/
theorem lv_step (s : ByteArray) (j : Nat) (h : j < (decN s.size).length) : lv ((decN s.size).take (j + 1)) = 10 * lv ((decN s.size).take j) + ((decN s.size).getD j 0 - 48) := by
  rw [take_succ_ints _ _ h, lv_snoc]
theorem lv_take_bd (s : ByteArray) : ∀ j, j ≤ (decN s.size).length → 0 ≤ lv ((decN s.size).take j) ∧ lv ((decN s.size).take j) ≤ s.size := by
  have up : ∀ d j, j + d = (decN s.size).length → 0 ≤ lv ((decN s.size).take j) ∧ lv ((decN s.size).take j) ≤ s.size := by
    have nn : ∀ j, j ≤ (decN s.size).length → 0 ≤ lv ((decN s.size).take j) := by
      intro j
      induction j with
      | zero => intro _; simp [lv]
      | succ j ih =>
        intro h
        have := ih (by omega)
        have := (sho_digit s j (by omega)).2
        rw [lv_step s j (by omega)]
        omega
    intro d
    induction d with
    | zero =>
      intro j h
      have e : (decN s.size).take j = decN s.size := List.take_of_length_le (by omega)
      rw [e, lv_decN]
      omega
    | succ d ih =>
      intro j h
      have h1 := ih (j + 1) (by omega)
      have h2 := nn j (by omega)
      have h3 := (sho_digit s j (by omega)).2
      rw [lv_step s j (by omega)] at h1
      omega
  intro j h
  exact up ((decN s.size).length - j) j (by omega)
theorem lv_all (s : ByteArray) : lv ((decN s.size).take (decN s.size).length) = s.size := by rw [List.take_length, lv_decN]
theorem decN_pos (u : Nat) : 0 < (decN u).length := by rw [decN_len]; exact nDigits_pos u
end Go.Proofs.YtfkkpgklciehoaaDoor
