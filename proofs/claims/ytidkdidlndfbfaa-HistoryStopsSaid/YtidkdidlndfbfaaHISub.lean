/- slices.Clone of a part of a row. -/
import Derived.Test.YtidkdidlndfbfaaHICopy
namespace Go.Proofs.Ytidkdidlndfbfaa.HI
open Go.RowKit
theorem clone_sl {w : World} {A : Option Addr} {n c : Nat} {xs : List E} (h : SL w A n xs) (hlen : n ≤ 100000) (hA : ∀ a, A = some a → ∃ g, a = ⟨g, 0, none⟩) :
    Calls Try.prog 30 #[.slice A n c] w fun e w' => ∃ v', e = .returned v' ∧ Hid (w'.ownsRow w.heap.size 3 1 v' n (vs xs) ∧ Below w.heap.size w w') := by
  obtain ⟨i0, hi, hz0, hz1, hz2⟩ := info_parts infoE
  cases A with
  | none =>
    have h0 : n = 0 := by
      rcases Nat.eq_zero_or_pos n with h0 | hp
      · exact h0
      · obtain ⟨b, e, _⟩ := h.2 hp
        cases e
    subst h0
    obtain rfl : xs = [] := List.eq_nil_of_length_eq_zero h.1
    refine (Try.slices_Clone_nil_f30 0 c w).mono ?_
    rintro e w' ⟨rfl, rfl⟩
    exact ⟨_, rfl, World.ownsRow_nil _ _ _ _, Below.refl _ _⟩
  | some a =>
    obtain ⟨g, rfl⟩ := hA a rfl
    have hc2 : ∀ j u, (vs xs)[j]? = some u → w.cell? ⟨g, 0 + j, none⟩ = some u := fun j u hj => by
      have hj' : j < xs.length := by have := (List.getElem?_eq_some_iff.1 hj).1; rwa [length_vs] at this
      obtain ⟨b, e, hc⟩ := h.2 (by have := h.1; omega)
      cases e
      have hx := List.getElem?_eq_getElem hj'
      rw [vs_some hx] at hj
      rw [Nat.zero_add, ← hj]
      exact hc j _ hx
    refine (Try.slices_Clone_f30 i0 _ 1 8 hi hz0 hz1 hz2 rfl (by decide) Try.sizeOf3 g 0 n c (vs xs) w (by rw [length_vs, h.1, Nat.mul_one]) (by unfold maxLen; omega) (by omega) hc2 (vs_one xs)).mono ?_
    rintro e w' ⟨v', rfl, hrow, _, hb⟩
    exact ⟨v', rfl, hrow, hb⟩
end Go.Proofs.Ytidkdidlndfbfaa.HI
