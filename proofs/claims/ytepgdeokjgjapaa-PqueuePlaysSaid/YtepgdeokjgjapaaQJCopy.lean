/- Copy of a queue of strings. -/
import Derived.Test.YtepgdeokjgjapaaQJClone
import Derived.Test.YtepgdeokjgjapaaQJHas
namespace Go.Proofs.Ytepgdeokjgjapaa.QJ
open Go.RowKit
theorem clone_any {w : World} {B : Nat} {v : Value} {l : List It} (h : w.ownsRow B 104 2 v l.length (flat l)) (hlen : l.length ≤ 1024) :
    Calls Try.prog 65 #[v] w fun e w' => ∃ v', e = .returned v' ∧ Hid (w'.ownsRow w.heap.size 104 2 v' l.length (flat l) ∧ Below w.heap.size w w') := by
  obtain ⟨i0, hi, hz0, hz1, hz2⟩ := info_parts infoI
  have h0 := h
  rcases h.2 with ⟨rfl, h1⟩ | ⟨g, cap, cur, rfl, _, _, hc, hm, _⟩
  · refine (AnyE.slices_Clone_nil Try.cloneJJ 0 0 w).mono ?_
    rintro e w' ⟨rfl, rfl⟩
    refine ⟨_, rfl, ?_⟩
    have e : l = [] := List.eq_nil_of_length_eq_zero h1
    rw [e]
    exact ⟨World.ownsRow_nil _ _ _ _, Below.refl _ _⟩
  · have hc2 : ∀ j u, (flat l)[j]? = some u → w.cell? ⟨g, 0 + j, none⟩ = some u := fun j u hj => by
      have := h0.cells (g := g) rfl j u hj
      rwa [add_plain] at this
    refine (AnyE.slices_Clone Try.cloneJJ i0 _ 2 _ hi hz0 hz1 hz2 rfl (by decide) Try.sizeOf104 g 0 l.length cap (flat l) w (length_flat l) (by unfold maxLen; omega) (by omega) hc2 (flat_one l)).mono ?_
    rintro e w' ⟨v', rfl, hrow, _, hb⟩
    exact ⟨v', rfl, hrow, hb⟩
end Go.Proofs.Ytepgdeokjgjapaa.QJ
