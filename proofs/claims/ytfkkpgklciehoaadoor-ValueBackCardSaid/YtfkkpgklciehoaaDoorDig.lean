/- Decimal numerals: their bytes, their numbers. -/
import Derived.Test.YtfkkpgklciehoaaDoorFmt
import Derived.Test.YtfkkpgklciehoaaDoorMath
namespace Go.Proofs.YtfkkpgklciehoaaDoor
open Go.RowKit Go.PlainAid

/-- The numeral's bytes as numbers. -/
def decN (u : Nat) : List Int := if u < 10 then [48 + (u : Int)] else decN (u / 10) ++ [48 + ((u % 10 : Nat) : Int)]
termination_by u
decreasing_by omega
theorem decN_small {u : Nat} (h : u < 10) : decN u = [48 + (u : Int)] := by rw [decN, if_pos h]
theorem decN_big {u : Nat} (h : ¬ u < 10) : decN u = decN (u / 10) ++ [48 + ((u % 10 : Nat) : Int)] := by rw [decN, if_neg h]

theorem decN_map (u : Nat) : (decN u).map (fun z => UInt8.ofNat z.toNat) = Lib.decDigits u := by
  induction u using Nat.strongRecOn with
  | _ u ih =>
    by_cases h : u < 10
    · rw [decN_small h, Lib.decDigits, dif_pos h]
      simp only [List.map_cons, List.map_nil]
      rw [show (48 + (u : Int)).toNat = 48 + u from by omega]
    · rw [decN_big h, Lib.decDigits, dif_neg h, List.map_append, ih (u / 10) (by omega)]
      simp only [List.map_cons, List.map_nil]
      rw [show (48 + ((u % 10 : Nat) : Int)).toNat = 48 + u % 10 from by omega]
theorem decS_eq (u : Nat) : decS u = strOfNums (decN u) := by
  apply ByteArray.ext
  unfold decS strOfNums
  simp [← decN_map u]
theorem decN_bd (u : Nat) : ∀ z ∈ decN u, 48 ≤ z ∧ z ≤ 57 := by
  induction u using Nat.strongRecOn with
  | _ u ih =>
    by_cases h : u < 10
    · rw [decN_small h]; intro z hz; simp at hz; omega
    · rw [decN_big h]; intro z hz
      rcases List.mem_append.1 hz with hz | hz
      · exact ih (u / 10) (by omega) z hz
      · simp at hz; omega
theorem decN_len (u : Nat) : (decN u).length = Lib.nDigits u := by
  rw [← Lib.decDigits_length, ← decN_map, List.length_map]
theorem decS_size (u : Nat) : (decS u).size = Lib.nDigits u := by rw [decS_eq, strOfNums_size, decN_len]
theorem nDigits_pos (u : Nat) : 1 ≤ Lib.nDigits u := by
  by_cases h : u < 10
  · rw [Lib.nDigits_small h]; omega
  · rw [Lib.nDigits_big h]; omega
theorem decS_le (u : Nat) (h : u < 18446744073709551616) : (decS u).size ≤ 20 := by
  rw [decS_size]
  by_cases h1 : 1 ≤ u
  · have := Lib.numDigits_eq u h1 h; split at this <;> omega
  · rw [Lib.nDigits_small (by omega)]; omega

/-- The number of a list of digits. -/
def lv (L : List Int) : Int := L.foldl (fun a z => 10 * a + (z - 48)) 0
theorem lv_snoc (L : List Int) (z : Int) : lv (L ++ [z]) = 10 * lv L + (z - 48) := by simp [lv]
theorem lv_decN (u : Nat) : lv (decN u) = u := by
  induction u using Nat.strongRecOn with
  | _ u ih =>
    by_cases h : u < 10
    · rw [decN_small h]; simp [lv]; omega
    · rw [decN_big h, lv_snoc, ih (u / 10) (by omega)]; omega
theorem decN_head (u : Nat) (h1 : 1 ≤ u) : (decN u).getD 0 0 ≠ 48 := by
  induction u using Nat.strongRecOn with
  | _ u ih =>
    by_cases h : u < 10
    · rw [decN_small h]; simp; omega
    · have hl : 0 < (decN (u / 10)).length := by rw [decN_len]; exact nDigits_pos _
      have := ih (u / 10) (by omega) (by omega)
      rw [decN_big h, List.getD, List.getElem?_append_left hl]
      exact this

theorem decN_inj {m n : Nat} (h : decN m = decN n) : m = n := by
  have := congrArg lv h
  rw [lv_decN, lv_decN] at this
  omega
end Go.Proofs.YtfkkpgklciehoaaDoor
