/- A queue of strings beside a row of wishes: what 'made' makes. -/
import Derived.Test.YtfpolnokdebncaaQTHas
namespace Go.Proofs.Ytfpolnokdebncaa.QT
open Go.RowKit

/-- The string that stands for a number. -/
def lett (p : Nat) : ByteArray := ⟨#[UInt8.ofNat p]⟩
/-- The items that a row of wishes asks for, from id k on. -/
def itemsFrom : Nat → List (Option Nat) → List It
  | _, [] => []
  | k, none :: t => itemsFrom (k + 1) t
  | k, some p :: t => (k, lett p) :: itemsFrom (k + 1) t
theorem items_ids : ∀ (l : List (Option Nat)) (k : Nat) (y : It), y ∈ itemsFrom k l → k ≤ y.1 ∧ y.1 < k + l.length
  | [], k, y, h => by simp [itemsFrom] at h
  | none :: t, k, y, h => by
    have := items_ids t (k + 1) y (by simpa [itemsFrom] using h)
    simp only [List.length_cons]
    omega
  | some p :: t, k, y, h => by
    simp only [itemsFrom, List.mem_cons] at h
    simp only [List.length_cons]
    rcases h with rfl | h
    · dsimp only
      omega
    · have := items_ids t (k + 1) y h
      omega
theorem items_put (p : Nat) : ∀ (l : List (Option Nat)) (k i : Nat), l[i]? = some none → (itemsFrom k (l.set i (some p))).Perm ((k + i, lett p) :: itemsFrom k l)
  | [], k, i, h => by simp at h
  | x :: t, k, 0, h => by
    obtain rfl : x = none := by simpa using h
    simp [itemsFrom]
  | none :: t, k, i + 1, h => by
    have ih := items_put p t (k + 1) i (by simpa using h)
    rw [show k + 1 + i = k + (i + 1) by omega] at ih
    simpa [itemsFrom] using ih
  | some q :: t, k, i + 1, h => by
    have ih := items_put p t (k + 1) i (by simpa using h)
    rw [show k + 1 + i = k + (i + 1) by omega] at ih
    simp only [List.set_cons_succ, itemsFrom]
    exact (ih.cons _).trans (List.Perm.swap _ _ _)
theorem items_out (q : Nat) : ∀ (l : List (Option Nat)) (k i : Nat), l[i]? = some (some q) → (itemsFrom k l).Perm ((k + i, lett q) :: itemsFrom k (l.set i none))
  | [], k, i, h => by simp at h
  | x :: t, k, 0, h => by
    obtain rfl : x = some q := by simpa using h
    simp [itemsFrom]
  | none :: t, k, i + 1, h => by
    have ih := items_out q t (k + 1) i (by simpa using h)
    rw [show k + 1 + i = k + (i + 1) by omega] at ih
    simpa [itemsFrom] using ih
  | some r :: t, k, i + 1, h => by
    have ih := items_out q t (k + 1) i (by simpa using h)
    rw [show k + 1 + i = k + (i + 1) by omega] at ih
    simp only [List.set_cons_succ, itemsFrom]
    exact (ih.cons _).trans (List.Perm.swap _ _ _)
theorem items_new {l : List (Option Nat)} {i q : Nat} (p : Nat) (h : l[i]? = some (some q)) : (itemsFrom 0 (l.set i (some p))).Perm ((i, lett p) :: itemsFrom 0 (l.set i none)) := by
  have hi : i < l.length := (List.getElem?_eq_some_iff.1 h).1
  have := items_put p (l.set i none) 0 i (by simp [hi])
  rwa [List.set_set, Nat.zero_add] at this
theorem items_no : ∀ (l : List (Option Nat)) (k i : Nat), l[i]? = some none → ∀ y ∈ itemsFrom k l, y.1 ≠ k + i
  | [], k, i, h => by simp at h
  | x :: t, k, 0, h => by
    obtain rfl : x = none := by simpa using h
    intro y hy
    have := items_ids t (k + 1) y (by simpa [itemsFrom] using hy)
    omega
  | none :: t, k, i + 1, h => by
    intro y hy
    have := items_no t (k + 1) i (by simpa using h) y (by simpa [itemsFrom] using hy)
    omega
  | some q :: t, k, i + 1, h => by
    intro y hy
    simp only [itemsFrom, List.mem_cons] at hy
    rcases hy with rfl | hy
    · dsimp only
      omega
    · have := items_no t (k + 1) i (by simpa using h) y hy
      omega
theorem items_none (n k : Nat) : itemsFrom k (List.replicate n none) = [] := by
  induction n generalizing k with
  | zero => rfl
  | succ n ih => exact ih (k + 1)
/-- A wish, as the row holds it. -/
def wish : Option Nat → Value
  | none => .int .i64 (-1)
  | some p => .int .i64 (p : Nat)
/-- The queue at block P with the items S, made behind w0, and beside it the object o at block Z. -/
def QBy (w0 w : World) (P n : Nat) (S : List It) (Z : Nat) (o : Obj) : Prop :=
  ∃ v G pl, QOwn w w0.heap.size P n v G pl ∧ G.Perm S ∧ Below w0.heap.size w0 w ∧ w.heap[Z]? = some o ∧ Z ≠ P ∧ v.ownBlock ≠ some Z ∧ w0.heap.size ≤ Z
section
variable {w0 w : World} {P n Z : Nat} {S : List It} {o : Obj}
theorem QBy.below {w' : World} (h : QBy w0 w P n S Z o) (hb : Below w.heap.size w w') : QBy w0 w' P n S Z o := by
  obtain ⟨v, G, pl, h1, h2, h3, h4, h5⟩ := h
  exact ⟨v, G, pl, h1.below hb, h2, h3.trans (hb.mono h3.size), (hb.block Z (lt_of_heap h4)).trans h4, h5⟩
theorem QBy.has (h : QBy w0 w P n S Z o) : QHas w0 w P n S := by
  obtain ⟨v, G, pl, h1, h2, h3, _⟩ := h
  exact ⟨v, G, pl, h1, h2, h3⟩
theorem QBy.perm {S' : List It} (h : QBy w0 w P n S Z o) (hp : S.Perm S') : QBy w0 w P n S' Z o := by
  obtain ⟨v, G, pl, h1, h2, h3⟩ := h
  exact ⟨v, G, pl, h1, h2.trans hp, h3⟩
theorem beside {w' : World} {v v' : Value} (hc : Chg w w' P v v') (hz : w.heap[Z]? = some o) (hne : Z ≠ P) (hv : v.ownBlock ≠ some Z) : w'.heap[Z]? = some o ∧ v'.ownBlock ≠ some Z := by
  have hl := lt_of_heap hz
  refine ⟨(hc.but.block Z hl (by rintro (e | e); exact hne e; exact hv e)).trans hz, fun e => ?_⟩
  rcases hc.row Z e with h | h
  · exact hv h
  · omega
theorem by_push (h : QBy w0 w P n S Z o) (i : Nat) (p : Pr) (hi : i < n) (hno : ∀ y ∈ S, y.1 ≠ i) : Calls Try.prog 38 #[.pointer (some ⟨P, 0, none⟩), .int .i64 (i : Nat), .string p] w fun e w' => e = .returned (.int .i64 0) ∧ Hid (QBy w0 w' P n ((i, p) :: S) Z o) := by
  obtain ⟨v, G, pl, hO, hp, hb, hz, hne, hv, hZ⟩ := h
  refine (push_any w _ P n i v G pl p hO hi (fun y hy => hno y (hp.mem_iff.1 hy))).mono ?_
  rintro e w' ⟨rfl, v', G', pl', h1, h2, h3⟩
  have := beside h3 hz hne hv
  exact ⟨rfl, v', G', pl', h1, h2.trans ((hp.append_right _).trans List.perm_append_comm), chg_below hO hb h3, this.1, hne, this.2, hZ⟩
theorem by_change (h : QBy w0 w P n S Z o) {y : It} {t : List It} (p : Pr) (hp : S.Perm (y :: t)) : Calls Try.prog 39 #[.pointer (some ⟨P, 0, none⟩), .int .i64 (y.1 : Nat), .string p] w fun e w' => e = .returned (.int .i64 0) ∧ Hid (QBy w0 w' P n ((y.1, p) :: t) Z o) := by
  obtain ⟨v, G, pl, hO, hG, hb, hz, hne, hv, hZ⟩ := h
  obtain ⟨k, hk⟩ := mem_at (hG.mem_iff.2 (hp.mem_iff.2 (List.mem_cons_self ..)))
  refine (change_any hO k y p hk).mono ?_
  rintro e w' ⟨rfl, v', G', pl', h1, h2, h3⟩
  have hbs := beside h3 hz hne hv
  refine ⟨rfl, v', G', pl', h1, h2.trans ?_, chg_below hO hb h3, hbs.1, hne, hbs.2, hZ⟩
  have h4 := set_swap G k y (y.1, p) hk
  have h5 : (y :: G.set k (y.1, p)).Perm (y :: (y.1, p) :: t) := h4.trans (((hG.trans hp).cons _).trans (List.Perm.swap _ _ _))
  exact h5.cons_inv
theorem by_remove (h : QBy w0 w P n S Z o) {y : It} {t : List It} (hp : S.Perm (y :: t)) : Calls Try.prog 41 #[.pointer (some ⟨P, 0, none⟩), .int .i64 (y.1 : Nat)] w fun e w' => e = .returned (.tuple #[.string y.2, .bool true]) ∧ Hid (QBy w0 w' P n t Z o) := by
  obtain ⟨v, G, pl, hO, hG, hb, hz, hne, hv, hZ⟩ := h
  obtain ⟨k, hk⟩ := mem_at (hG.mem_iff.2 (hp.mem_iff.2 (List.mem_cons_self ..)))
  refine (remove_any hO k y hk).mono ?_
  rintro e w' ⟨rfl, v', G', pl', h1, h2, h3⟩
  have hbs := beside h3 hz hne hv
  exact ⟨rfl, v', G', pl', h1, (h2.symm.trans (hG.trans hp)).cons_inv, chg_below hO hb h3, hbs.1, hne, hbs.2, hZ⟩
theorem by_remove_none (h : QBy w0 w P n S Z o) (i : Nat) (hi : i < n) (hno : ∀ y ∈ S, y.1 ≠ i) : Calls Try.prog 41 #[.pointer (some ⟨P, 0, none⟩), .int .i64 (i : Nat)] w fun e w' => e = .returned (.tuple #[.string ⟨#[]⟩, .bool false]) ∧ w = w' := by
  obtain ⟨v, G, pl, hO, hG, _⟩ := h
  exact remove_none hO i hi (fun y hy => hno y (hG.mem_iff.1 hy))
/-- The row beside the queue is written. -/
theorem QBy.set {cs : Array Value} {t : TypeId} (h : QBy w0 w P n S Z (.cells cs t (0, 0))) (i : Nat) (u : Value) : QBy w0 (w.setCell ⟨Z, i, none⟩ u) P n S Z (.cells (cs.setIfInBounds i u) t (0, 0)) := by
  obtain ⟨v, G, pl, h1, h2, h3, h4, h5, h6, h7⟩ := h
  have keep : ∀ g, g ≠ Z → (w.setCell ⟨Z, i, none⟩ u).heap[g]? = w.heap[g]? := fun g hg => Below.heap_setCell w ⟨Z, i, none⟩ u g hg
  refine ⟨v, G, pl, ⟨⟨h1.qs.hP, (keep P (Ne.symm h5)).trans h1.qs.blk, owns_of_block h1.qs.row fun g hg => keep g (fun e => h6 (e ▸ hg)), h1.qs.len⟩, h1.heap, h1.plc, h1.nd, h1.ids, h1.hn⟩, h2, h3.setCell h7 _, heap_setCell_same w Z i _ _ u h4, h5, h6, h7⟩
end
end Go.Proofs.Ytfpolnokdebncaa.QT
