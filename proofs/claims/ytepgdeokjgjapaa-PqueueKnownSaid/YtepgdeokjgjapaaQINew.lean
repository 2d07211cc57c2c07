/- New. -/
import Derived.Test.YtepgdeokjgjapaaQIPush
namespace Go.Proofs.Ytepgdeokjgjapaa.QI
open Go.RowKit
theorem new_bad (n : Int) (w : World) (h : n < 1 ∨ 1024 < n) : Calls Try.prog 44 #[.int .i64 n] w fun e w' => e = .returned (.tuple #[.pointer none, .int .i64 2]) ∧ w = w' := by
  rcases h with h1 | h1
  · go_enter Try.func44, Try.ntmps44
    go_wp2
    go_ret2
    exact ⟨rfl, rfl⟩
  · have h2 : ¬ (n < 1) := by omega
    go_enter Try.func44, Try.ntmps44
    go_wp2
    go_ret2
    exact ⟨rfl, rfl⟩
theorem zeros122 : Try.zeroCells122 = ((.pointer none) :: (.int .i64 0) :: (.slice none 0 0) :: (List.replicate 1024 0).map fun i => Value.int .i64 ((i : Nat) : Int)).toArray := by kernel_rfl
theorem new_cells (P n : Nat) : (Try.zeroCells122.setIfInBounds 1 (.int .i64 (n : Nat))).setIfInBounds 0 (.pointer (some ⟨P, 0, none⟩)) = qcells P n (.slice none 0 0) (List.replicate 1024 0) := by
  rw [zeros122]
  unfold qcells
  generalize ((List.replicate 1024 0).map fun i => Value.int .i64 ((i : Nat) : Int)) = r
  simp
theorem new_any (n : Nat) (w : World) (h1 : 1 ≤ n) (h2 : n ≤ 1024) : Calls Try.prog 44 #[.int .i64 (n : Nat)] w fun e w' => e = .returned (.tuple #[.pointer (some ⟨w.heap.size, 0, none⟩), .int .i64 0]) ∧ Hid (QOwn w' w.heap.size w.heap.size n (.slice none 0 0) [] (List.replicate 1024 0) ∧ Below w.heap.size w w') := by
  have i1 : (1 : Int) ≤ (n : Int) := by omega
  have i2 : (n : Int) ≤ 1024 := by omega
  go_enter Try.func44, Try.ntmps44
  go_wp2_with fail
  go_ret2
  rw [new_cells]
  refine ⟨rfl, ⟨⟨Nat.le_refl _, World.alloc_heap_new _ _, World.ownsRow_nil _ _ _ _, List.length_replicate⟩, fun i x y _ hx => by simp at hx, fun i hi _ => ⟨fun j y hy => by simp at hy, fun _ => ?_⟩, List.Pairwise.nil, fun y hy => (by cases hy), h2⟩, (Below.refl _ w).alloc (Nat.le_refl _) _⟩
  rw [List.length_replicate] at hi
  rw [List.getElem?_replicate, if_pos hi]
end Go.Proofs.Ytepgdeokjgjapaa.QI
