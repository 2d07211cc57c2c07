/- Items in their order. -/
import Derived.Test.YtepgdeokjgjapaaHeap
namespace Go.Proofs.Ytepgdeokjgjapaa
section
variable {α : Type} {lt : α → α → Bool}
theorem rising_ins (ho : IOrd lt) (x : α) : ∀ (s : List α), Rising lt s → x ∉ s → ∃ s', Rising lt s' ∧ s'.Perm (x :: s)
  | [], _, _ => ⟨[x], List.pairwise_singleton _ _, List.Perm.refl _⟩
  | a :: t, hs, hx => by
    obtain ⟨h1, h2⟩ := List.pairwise_cons.1 hs
    cases hxa : lt x a with
    | true => exact ⟨x :: a :: t, List.pairwise_cons.2 ⟨fun y hy => by
        rcases List.mem_cons.1 hy with rfl | hy
        · exact hxa
        · exact ho.trans _ _ _ hxa (h1 y hy), hs⟩, List.Perm.refl _⟩
    | false =>
      have hax : lt a x = true := by
        cases h : lt a x with
        | true => rfl
        | false => exact absurd (ho.tri _ _ hxa h) (fun e => hx (by rw [e]; exact List.mem_cons_self ..))
      obtain ⟨s', r, p⟩ := rising_ins ho x t h2 (fun h => hx (List.mem_cons_of_mem _ h))
      refine ⟨a :: s', List.pairwise_cons.2 ⟨fun y hy => ?_, r⟩, (p.cons a).trans (List.Perm.swap _ _ _)⟩
      rcases List.mem_cons.1 (p.mem_iff.1 hy) with rfl | hy
      · exact hax
      · exact h1 y hy
/-- Whatever is told apart can be put in order. -/
theorem rising_of (ho : IOrd lt) : ∀ (l : List α), l.Nodup → ∃ s, Rising lt s ∧ s.Perm l
  | [], _ => ⟨[], List.Pairwise.nil, List.Perm.refl _⟩
  | x :: l, h => by
    obtain ⟨h1, h2⟩ := List.nodup_cons.1 h
    obtain ⟨s, r, p⟩ := rising_of ho l h2
    obtain ⟨s', r', p'⟩ := rising_ins ho x s r (fun hx => h1 (p.mem_iff.1 hx))
    exact ⟨s', r', p'.trans (p.cons x)⟩
end
end Go.Proofs.Ytepgdeokjgjapaa
