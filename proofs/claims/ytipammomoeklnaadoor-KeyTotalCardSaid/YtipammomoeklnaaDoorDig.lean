/- Decimal numerals: their bytes, their numbers, their order. -/
import Derived.Test.YtipammomoeklnaaDoorFmt
import Derived.Test.YtipammomoeklnaaDoorMath
namespace Go.Proofs.YtipammomoeklnaaDoor
open Go.RowKit Go.PlainAid

/-- The numeral's bytes as numbers. -/
def decN (u : Nat) : List Int := if u < 10 then [48 + (u : Int)] else decN (u / 10) ++ [48 + ((u % 10 : Nat) : Int)]
termination_by u
decreasing_by omega
theorem decN_small {u : Nat} (h : u < 10) : decN u = [48 + (u : Int)] := by rw [decN, if_pos h]
theorem decN_big {u : Nat} (h : ¬ u < 10) : decN u = decN (u / 10) ++ [48 + ((u % 10 : Nat) : Int)] := by rw [decN, if_neg h]

theorem decN_map (u : Nat) : (decN u).map (fun z => UInt8.ofNat z.toNat) = Lib.decDigits u := by
  induction u using Nat.strongRecOn with
  | _ u ih =>
    by_cases h : u < 10
    · rw [decN_small h, Lib.decDigits, dif_pos h]
      simp only [List.map_cons, List.map_nil]
      rw [show (48 + (u : Int)).toNat = 48 + u from by omega]
    · rw [decN_big h, Lib.decDigits, dif_neg h, List.map_append, ih (u / 10) (by omega)]
      simp only [List.map_cons, List.map_nil]
      rw [show (48 + ((u % 10 : Nat) : Int)).toNat = 48 + u % 10 from by omega]
theorem decS_eq (u : Nat) : decS u = strOfNums (decN u) := by
  apply ByteArray.ext
  unfold decS strOfNums
  simp [← decN_map u]
theorem decN_bd (u : Nat) : ∀ z ∈ decN u, 48 ≤ z ∧ z ≤ 57 := by
  induction u using Nat.strongRecOn with
  | _ u ih =>
    by_cases h : u < 10
    · rw [decN_small h]; intro z hz; simp at hz; omega
    · rw [decN_big h]; intro z hz
      rcases List.mem_append.1 hz with hz | hz
      · exact ih (u / 10) (by omega) z hz
      · simp at hz; omega
theorem decN_len (u : Nat) : (decN u).length = Lib.nDigits u := by
  rw [← Lib.decDigits_length, ← decN_map, List.length_map]
theorem decS_size (u : Nat) : (decS u).size = Lib.nDigits u := by rw [decS_eq, strOfNums_size, decN_len]
theorem nDigits_pos (u : Nat) : 1 ≤ Lib.nDigits u := by
  by_cases h : u < 10
  · rw [Lib.nDigits_small h]; omega
  · rw [Lib.nDigits_big h]; omega
theorem decS_le (u : Nat) (h : u < 18446744073709551616) : (decS u).size ≤ 20 := by
  rw [decS_size]
  by_cases h1 : 1 ≤ u
  · have := Lib.numDigits_eq u h1 h; split at this <;> omega
  · rw [Lib.nDigits_small (by omega)]; omega

/-- The number of a list of digits. -/
def lv (L : List Int) : Int := L.foldl (fun a z => 10 * a + (z - 48)) 0
theorem lv_snoc (L : List Int) (z : Int) : lv (L ++ [z]) = 10 * lv L + (z - 48) := by simp [lv]
theorem lv_decN (u : Nat) : lv (decN u) = u := by
  induction u using Nat.strongRecOn with
  | _ u ih =>
    by_cases h : u < 10
    · rw [decN_small h]; simp [lv]; omega
    · rw [decN_big h, lv_snoc, ih (u / 10) (by omega)]; omega
theorem decN_head (u : Nat) (h1 : 1 ≤ u) : (decN u).getD 0 0 ≠ 48 := by
  induction u using Nat.strongRecOn with
  | _ u ih =>
    by_cases h : u < 10
    · rw [decN_small h]; simp; omega
    · have hl : 0 < (decN (u / 10)).length := by rw [decN_len]; exact nDigits_pos _
      have := ih (u / 10) (by omega) (by omega)
      rw [decN_big h, List.getD, List.getElem?_append_left hl]
      exact this


theorem lv_from (L : List Int) : ∀ a : Int, L.foldl (fun a z => 10 * a + (z - 48)) a = a * 10 ^ L.length + lv L := by
  induction L with
  | nil => intro a; simp [lv]
  | cons z L ih =>
    intro a
    have e : lv (z :: L) = L.foldl (fun a z => 10 * a + (z - 48)) (z - 48) := by simp [lv]
    rw [List.foldl_cons, ih, e, ih, List.length_cons, Int.pow_succ, Int.add_mul, Int.mul_comm 10 a, Int.mul_assoc, Int.mul_comm 10 (10 ^ L.length)]
    omega
theorem lv_cons (z : Int) (L : List Int) : lv (z :: L) = (z - 48) * 10 ^ L.length + lv L := by
  have e : lv (z :: L) = L.foldl (fun a z => 10 * a + (z - 48)) (z - 48) := by simp [lv]
  rw [e, lv_from]
theorem lv_bd (L : List Int) (h : ∀ z ∈ L, 48 ≤ z ∧ z ≤ 57) : 0 ≤ lv L ∧ lv L < 10 ^ L.length := by
  induction L with
  | nil => simp [lv]
  | cons z L ih =>
    have h1 := h z (by simp)
    have h2 := ih fun y hy => h y (by simp [hy])
    rw [lv_cons, List.length_cons, Int.pow_succ]
    generalize (10 : Int) ^ L.length = p at *
    have h3 : 0 ≤ (z - 48) * p := Int.mul_nonneg (by omega) (by omega)
    have h4 : (z - 48) * p ≤ 9 * p := Int.mul_le_mul_of_nonneg_right (by omega) (by omega)
    omega
theorem cmp_lv : ∀ (L M : List Int), L.length = M.length → (∀ z ∈ L, 48 ≤ z ∧ z ≤ 57) → (∀ z ∈ M, 48 ≤ z ∧ z ≤ 57) → (cmp L M < 0 ↔ lv L < lv M)
  | [], [], _, _, _ => by simp [cmp]
  | [], _ :: _, h, _, _ => by simp at h
  | _ :: _, [], h, _, _ => by simp at h
  | a :: L, b :: M, h, hL, hM => by
    have hl : L.length = M.length := by simpa using h
    have hL' : ∀ z ∈ L, 48 ≤ z ∧ z ≤ 57 := fun z hz => hL z (List.mem_cons_of_mem _ hz)
    have hM' : ∀ z ∈ M, 48 ≤ z ∧ z ≤ 57 := fun z hz => hM z (List.mem_cons_of_mem _ hz)
    have ih := cmp_lv L M hl hL' hM'
    have l1 := lv_bd L hL'
    have l2 := lv_bd M hM'
    rw [cmp_cons, lv_cons, lv_cons]
    rw [hl] at l1 ⊢
    generalize (10 : Int) ^ M.length = p at *
    by_cases h1 : a < b
    · rw [if_pos h1]
      have : (a - 48) * p + p ≤ (b - 48) * p := by
        have := Int.mul_le_mul_of_nonneg_right (show a - 48 + 1 ≤ b - 48 by omega) (show 0 ≤ p by omega)
        rw [Int.add_mul, Int.one_mul] at this
        exact this
      omega
    · by_cases h2 : b < a
      · rw [if_neg h1, if_pos h2]
        have : (b - 48) * p + p ≤ (a - 48) * p := by
          have := Int.mul_le_mul_of_nonneg_right (show b - 48 + 1 ≤ a - 48 by omega) (show 0 ≤ p by omega)
          rw [Int.add_mul, Int.one_mul] at this
          exact this
        omega
      · obtain rfl : a = b := by omega
        rw [if_neg h1, if_neg h2, ih]
        omega
theorem decN_cmp (m n : Nat) (h : (decN m).length = (decN n).length) : cmp (decN m) (decN n) < 0 ↔ m < n := by
  rw [cmp_lv _ _ h (decN_bd m) (decN_bd n), lv_decN, lv_decN]
  omega
theorem decN_inj {m n : Nat} (h : decN m = decN n) : m = n := by
  have := congrArg lv h
  rw [lv_decN, lv_decN] at this
  omega
end Go.Proofs.YtipammomoeklnaaDoor
