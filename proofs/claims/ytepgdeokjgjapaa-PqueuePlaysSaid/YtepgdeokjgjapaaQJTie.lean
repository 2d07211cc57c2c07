/- The marks of the reference's queue, as items. -/
import Derived.Test.YtepgdeokjgjapaaQJNil
import Derived.Test.YtepgdeokjgjapaaQJMore
import Derived.Test.YtepgdeokjgjapaaSort
namespace Go.Proofs.Ytepgdeokjgjapaa.QJ
open Go.RowKit
def one (k : Nat) (x : Mk) : List It := if x.1 then [(k, x.2)] else []
/-- The marked ids with their numbers, counted from k on. -/
def marked : Nat → List Mk → List It
  | _, [] => []
  | k, x :: l => one k x ++ marked (k + 1) l
theorem marked_append (a b : List Mk) : ∀ k, marked k (a ++ b) = marked k a ++ marked (k + a.length) b := by
  induction a with
  | nil => intro k; rfl
  | cons x a ih =>
    intro k
    show one k x ++ marked (k + 1) (a ++ b) = one k x ++ marked (k + 1) a ++ marked (k + (a.length + 1)) b
    rw [ih, List.append_assoc, show k + 1 + a.length = k + (a.length + 1) by omega]
theorem mem_marked (L : List Mk) : ∀ k (y : It), y ∈ marked k L ↔ ∃ j, y.1 = k + j ∧ L[j]? = some (true, y.2) := by
  induction L with
  | nil => intro k y; simp [marked]
  | cons x L ih =>
    intro k y
    show y ∈ one k x ++ marked (k + 1) L ↔ _
    rw [List.mem_append, ih]
    constructor
    · rintro (h | ⟨j, h1, h2⟩)
      · refine ⟨0, ?_, ?_⟩
        · unfold one at h; split at h
          · simp at h; rw [h]; rfl
          · cases h
        · unfold one at h; split at h
          · rename_i hx
            simp at h
            rw [h]
            show some x = _
            rw [← hx]
          · cases h
      · exact ⟨j + 1, by omega, h2⟩
    · rintro ⟨j, h1, h2⟩
      cases j with
      | zero =>
        left
        have e : x = (true, y.2) := by simpa using h2
        rw [e]
        show y ∈ [(k, y.2)]
        obtain ⟨a, b⟩ := y
        have : a = k := h1
        rw [this]; simp
      | succ j => exact .inr ⟨j, by omega, h2⟩
theorem mem_marked0 {L : List Mk} {y : It} : y ∈ marked 0 L ↔ L[y.1]? = some (true, y.2) := by
  rw [mem_marked]
  exact ⟨fun ⟨j, h1, h2⟩ => by rw [h1, Nat.zero_add]; exact h2, fun h => ⟨y.1, by omega, h⟩⟩
theorem marked_len (L : List Mk) : ∀ k, (marked k L).length = L.countP (·.1) := by
  induction L with
  | nil => intro k; rfl
  | cons x L ih =>
    intro k
    show (one k x ++ marked (k + 1) L).length = _
    rw [List.length_append, ih, List.countP_cons]
    unfold one
    split <;> simp <;> omega
theorem marked_split {L : List Mk} {i : Nat} {x : Mk} (h : L[i]? = some x) : ∃ t, (marked 0 L).Perm (one i x ++ t) ∧ ∀ y, (marked 0 (L.set i y)).Perm (one i y ++ t) := by
  obtain ⟨hi, hx⟩ := List.getElem?_eq_some_iff.1 h
  have e : L = L.take i ++ x :: L.drop (i + 1) := by
    rw [← hx, ← List.drop_eq_getElem_cons hi, List.take_append_drop]
  have hl : (L.take i).length = i := by rw [List.length_take]; omega
  have key : ∀ y, marked 0 (L.take i ++ y :: L.drop (i + 1)) = marked 0 (L.take i) ++ (one i y ++ marked (i + 1) (L.drop (i + 1))) := fun y => by
    rw [marked_append, hl, Nat.zero_add]; rfl
  have sw : ∀ y, (marked 0 (L.take i) ++ (one i y ++ marked (i + 1) (L.drop (i + 1)))).Perm (one i y ++ (marked 0 (L.take i) ++ marked (i + 1) (L.drop (i + 1)))) := fun y => by
    rw [← List.append_assoc, ← List.append_assoc]
    exact List.perm_append_comm.append_right _
  refine ⟨marked 0 (L.take i) ++ marked (i + 1) (L.drop (i + 1)), ?_, fun y => ?_⟩
  · conv => lhs; rw [e]
    rw [key]
    exact sw x
  · rw [List.set_eq_take_append_cons_drop, if_pos hi, key]
    exact sw y
theorem marked_off {L : List Mk} {i : Nat} {q : Int} (h : L[i]? = some (false, q)) : ∀ y ∈ marked 0 L, y.1 ≠ i := by
  intro y hy e
  rw [mem_marked0, e, h] at hy
  cases hy
theorem marked_nil {L : List Mk} {n : Nat} (hn : L.length = n) : marked 0 L = [] ↔ Best L n none := by
  constructor
  · intro h j q _ e
    have : ((j, q) : It) ∈ marked 0 L := mem_marked0.2 e
    rw [h] at this
    cases this
  · intro h
    rw [List.eq_nil_iff_forall_not_mem]
    intro y hy
    rw [mem_marked0] at hy
    exact h y.1 y.2 (by have := (List.getElem?_eq_some_iff.1 hy).1; omega) hy
theorem best_head {L : List Mk} {n : Nat} (hn : L.length = n) {x : It} {t : List It} (hs : Rising lt (x :: t)) (hp : (x :: t).Perm (marked 0 L)) : Best L n (some (x.1, x.2)) := by
  have hx := mem_marked0.1 (hp.mem_iff.1 (List.mem_cons_self ..))
  refine ⟨by have := (List.getElem?_eq_some_iff.1 hx).1; omega, hx, fun j q _ e => ?_⟩
  have hm : ((j, q) : It) ∈ x :: t := hp.mem_iff.2 (mem_marked0.2 e)
  rcases List.mem_cons.1 hm with h | h
  · have e1 : x.1 = j := by rw [← h]
    have e2 : @Eq Int x.2 q := by rw [← h]
    exact ⟨Int.le_of_eq e2, fun h3 => absurd h3 (by omega)⟩
  · have h1 := (List.pairwise_cons.1 hs).1 _ h
    simp only [lt, ltP, Bool.or_eq_true, Bool.and_eq_true, Bool.not_eq_true', decide_eq_true_eq, decide_eq_false_iff_not] at h1
    have h2 : @LT.lt Int _ x.2 q ∨ (¬ @LT.lt Int _ q x.2 ∧ x.1 < j) := h1
    exact ⟨by show @LE.le Int _ x.2 q; omega, fun h3 => by show @LT.lt Int _ x.2 q; omega⟩
end Go.Proofs.Ytepgdeokjgjapaa.QJ
