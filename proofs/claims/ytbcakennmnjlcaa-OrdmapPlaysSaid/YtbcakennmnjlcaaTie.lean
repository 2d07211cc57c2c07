/- The map's items beside the reference's keys and values. -/
import Derived.Test.YtbcakennmnjlcaaSSNear
import Derived.Test.YtbcakennmnjlcaaSSDel
import Derived.Test.YtbcakennmnjlcaaRefDel
import Derived.Test.YtbcakennmnjlcaaRefFrom
namespace Go.Proofs.Ytbcakennmnjlcaa
open Go.RowKit

def valsOf (l : List (SS.K × SS.V)) : List ByteArray := l.map Prod.snd
theorem vals_len (l : List (SS.K × SS.V)) : (valsOf l).length = l.length := List.length_map ..
theorem keys_len (l : List (SS.K × SS.V)) : (keysOf l).length = l.length := by simp
theorem rk_tie (ks : List ByteArray) (k : ByteArray) : rk ks k = rkB SS.lt ks k := rfl
theorem beq_tie (a b : ByteArray) : (a.toList == b.toList) = (a == b) := by
  rw [Bool.eq_iff_iff, beq_iff_eq, beq_iff_eq]
  constructor
  · intro h
    rw [ByteArray.toList_eq, ByteArray.toList_eq] at h
    exact Go.WideShapes.bytes_inj h
  · rintro rfl
    rfl
theorem has_tie (ks : List ByteArray) (k : ByteArray) : hasK ks k = hasB SS.lt ks k := by
  unfold hasK
  rw [rk_tie]
  rcases Nat.lt_or_ge (rkB SS.lt ks k) ks.length with h | h
  · rw [hasB_eq h, decide_eq_true h, Bool.true_and, beq_tie, List.getD_eq_getElem?_getD, List.getElem?_eq_getElem h]
    rfl
  · rw [hasB_false h, decide_eq_false (by omega), Bool.false_and]
theorem vals_get (l : List (SS.K × SS.V)) (i : Nat) : (valsOf l).getD i ⟨#[]⟩ = (l.getD i SS.z0).2 := by
  unfold valsOf
  rw [List.getD_eq_getElem?_getD, List.getD_eq_getElem?_getD, List.getElem?_map]
  cases l[i]? <;> rfl
theorem keys_get (l : List (SS.K × SS.V)) (i : Nat) : (keysOf l).getD i ⟨#[]⟩ = (l.getD i SS.z0).1 := by
  unfold keysOf
  rw [List.getD_eq_getElem?_getD, List.getD_eq_getElem?_getD, List.getElem?_map]
  cases l[i]? <;> rfl
theorem get_tie (l : List (SS.K × SS.V)) (k : ByteArray) : getV (keysOf l) (valsOf l) k = getL SS.lt l k SS.z0 := by
  unfold getV getL
  rw [has_tie, rk_tie, vals_get]
  rfl
theorem key_at {l : List (SS.K × SS.V)} {k : ByteArray} (h : hasB SS.lt (keysOf l) k = true) : (keysOf l)[rkB SS.lt (keysOf l) k]? = some k := by
  have hl := hasB_lt h
  rw [hasB_eq hl, beq_iff_eq] at h
  rw [List.getElem?_eq_getElem hl, h]
theorem set_self {α : Type} : ∀ (l : List α) (i : Nat) (x : α), l[i]? = some x → l.set i x = l
  | [], i, x, h => by simp at h
  | y :: l, 0, x, h => by simpa using h.symm
  | y :: l, i + 1, x, h => by rw [List.set_cons_succ, set_self l i x (by simpa using h)]
theorem put_keys (l : List (SS.K × SS.V)) (k v : ByteArray) : keysOf (putL SS.lt l k v) = setK (keysOf l) k := by
  unfold putL setK
  rw [has_tie, rk_tie]
  cases h : hasB SS.lt (keysOf l) k with
  | true =>
    simp only [if_true]
    have e : keysOf (l.set (rkB SS.lt (keysOf l) k) (k, v)) = (keysOf l).set (rkB SS.lt (keysOf l) k) k := by
      unfold keysOf; rw [List.map_set]
    rw [e, set_self _ _ _ (key_at h)]
  | false =>
    simp [keysOf, List.map_take, List.map_drop]
theorem put_vals (l : List (SS.K × SS.V)) (k v : ByteArray) : valsOf (putL SS.lt l k v) = setV (keysOf l) (valsOf l) k v := by
  unfold putL setV
  rw [has_tie, rk_tie]
  cases h : hasB SS.lt (keysOf l) k with
  | true =>
    simp only [if_true]
    unfold valsOf; rw [List.map_set]
  | false =>
    simp [valsOf, List.map_take, List.map_drop]
theorem del_keys (l : List (SS.K × SS.V)) (k : ByteArray) : keysOf (delL SS.lt l k) = delK (keysOf l) k := by
  unfold delL delK
  rw [has_tie, rk_tie]
  cases h : hasB SS.lt (keysOf l) k with
  | true => simp [keysOf, List.map_take, List.map_drop]
  | false => simp
theorem del_vals (l : List (SS.K × SS.V)) (k : ByteArray) : valsOf (delL SS.lt l k) = delV (keysOf l) (valsOf l) k := by
  unfold delL delV
  rw [has_tie, rk_tie]
  cases h : hasB SS.lt (keysOf l) k with
  | true => simp [valsOf, List.map_take, List.map_drop]
  | false => simp
/-- The item with an index. -/
def nth (l : List (SS.K × SS.V)) (i : Int) : Option (SS.K × SS.V) := if 0 ≤ i ∧ i < l.length then l[i.toNat]? else none
theorem at_tie (l : List (SS.K × SS.V)) (i : Int) : Value.tuple #[.string (atK (keysOf l) i), .string (atK (valsOf l) i), .bool (atB (keysOf l) i)] = SS.ans (nth l i) := by
  unfold atK atB nth
  rw [keys_len, vals_len]
  by_cases h : 0 ≤ i ∧ i < l.length
  · rw [if_pos h, if_pos h, if_pos h, decide_eq_true h, keys_get, vals_get, List.getD_eq_getElem?_getD, List.getElem?_eq_getElem (by omega)]
    rfl
  · rw [if_neg h, if_neg h, if_neg h, decide_eq_false h]
    rfl
theorem at_tieE (l : List (SS.K × SS.V)) (i : Int) : Value.tuple #[.string (atK (keysOf l) i), .string (atK (valsOf l) i), .int .i64 (atE (keysOf l) i)] = SS.atV l i := by
  unfold atK atE SS.atV
  rw [keys_len, vals_len]
  by_cases h : 0 ≤ i ∧ i < l.length
  · rw [if_pos h, if_pos h, if_pos h, if_pos h, keys_get, vals_get]
  · rw [if_neg h, if_neg h, if_neg h, if_neg h]
theorem nth_nat (l : List (SS.K × SS.V)) (i : Nat) : nth l (i : Nat) = l[i]? := by
  unfold nth
  by_cases h : i < l.length
  · rw [if_pos (by omega)]; rfl
  · rw [if_neg (by omega), List.getElem?_eq_none (by omega)]
theorem ceil_tie (l : List (SS.K × SS.V)) (k : ByteArray) : nth l (rk (keysOf l) k : Nat) = (l.drop (rkB SS.lt (keysOf l) k)).head? := by
  rw [nth_nat, rk_tie, List.head?_drop]
theorem min_tie (l : List (SS.K × SS.V)) : nth l 0 = l.head? := by
  rw [show (0 : Int) = ((0 : Nat) : Int) from rfl, nth_nat, List.head?_eq_getElem?]
theorem last_tie (l : List (SS.K × SS.V)) {n : Nat} (hn : n ≤ l.length) : nth l ((n : Int) - 1) = (l.take n).getLast? := by
  rcases Nat.eq_zero_or_pos n with rfl | h
  · simp [nth]
  · rw [SS.last_take hn h, show (n : Int) - 1 = ((n - 1 : Nat) : Int) by omega, nth_nat, List.getD_eq_getElem?_getD, List.getElem?_eq_getElem (by omega)]
    rfl
theorem max_tie (l : List (SS.K × SS.V)) : nth l ((keysOf l).length - 1) = l.getLast? := by
  have := last_tie l (Nat.le_refl l.length)
  rw [List.take_length] at this
  rw [keys_len]
  exact this
theorem floor_tie {l : List (SS.K × SS.V)} (ha : Asc SS.lt (keysOf l)) (k : ByteArray) : nth l (flI (keysOf l) k) = (l.take (rkL SS.lt (keysOf l) k)).getLast? := by
  have h1 := rkL_eq SS.kord ha k
  have h2 := rkL_le (lt := SS.lt) (keysOf l) k
  rw [keys_len] at h2
  rw [← last_tie l h2]
  congr 1
  unfold flI
  rw [has_tie, rk_tie, h1]
  cases hasB SS.lt (keysOf l) k with
  | true => simp
  | false => simp
theorem drop_keys (l : List (SS.K × SS.V)) (r : Nat) : keysOf (l.drop r) = (keysOf l).drop r := by unfold keysOf; rw [List.map_drop]
theorem drop_vals (l : List (SS.K × SS.V)) (r : Nat) : valsOf (l.drop r) = (valsOf l).drop r := by unfold valsOf; rw [List.map_drop]
theorem rk_empty (ks : List ByteArray) : rk ks ⟨#[]⟩ = 0 := by
  rw [rk_tie]
  unfold rkB
  rw [List.countP_eq_zero]
  intro s _
  unfold SS.lt
  rw [Go.Proofs.bytesLess_eq]
  simp [ByteArray.toList_eq]
end Go.Proofs.Ytbcakennmnjlcaa
