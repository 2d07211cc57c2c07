/- A region that draws, by an invariant over what has been done: inside a round too. -/
import Derived.Test.YtbcakennmnjlcaaChecked
import Derived.OrdersIn
import Derived.RegionIn
namespace Go.Proofs.Ytbcakennmnjlcaa
open Go
/-- The sets of operations done that may be met, by how many are left. -/
def metAt (ops : Array Oper) : Nat → List (Array Bool)
  | 0 => [Array.replicate ops.size false]
  | k + 1 => ((metAt ops k).flatMap fun l => (Region.ready .any ops l).map fun i => l.setIfInBounds i true).eraseDups
def metAll (ops : Array Oper) (need : Nat → Array Bool → Bool) : Bool :=
  ((List.range ops.size).all fun k => (metAt ops k).all fun l => (Region.ready .any ops l).all fun i => need i l && (metAt ops (k + 1)).contains (l.setIfInBounds i true)) &&
    ((metAt ops ops.size).all fun l => (Region.ready .any ops l).isEmpty && l.all fun b => b) && ((List.range ops.size).all fun k => (metAt ops k).all fun l => !(Region.ready .any ops l).isEmpty)
theorem wpIn_region_inv {F : Fence} {n : Nat} {P : Program} {id : Nat} {ops : Array Oper} {Q : Exit → Act → World → Prop} {a : Act} {w : World} (hm : P.follows .mixedOrders = true)
    (need : Nat → Array Bool → Bool) (hmet : metAll ops need = true) (I : Array Bool → Act → World → Prop) (h0 : I (Array.replicate ops.size false) a w.drew)
    (hstep : ∀ l i a w, need i l = true → I l a w → wpOpIn F n P ops Q i (I (l.setIfInBounds i true)) a w)
    (hend : ∀ l a w, l.all (fun b => b) = true → I l a w → Q .normal a w) : (Code.region id ops true).wpIn F n P Q a w := by
  simp only [metAll, Bool.and_eq_true, List.all_eq_true, List.mem_range, List.contains_iff_mem, Bool.not_eq_true'] at hmet
  obtain ⟨⟨hm1, hm2⟩, hm3⟩ := hmet
  refine wpIn_region_any hm ?_
  have key : ∀ k f, k + f = ops.size → ∀ l ∈ metAt ops k, ∀ a w, I l a w → wpAnyIn F n P .any ops Q f l a w := by
    intro k f
    induction f generalizing k with
    | zero =>
      intro hk l hl a w hI
      obtain rfl : k = ops.size := by omega
      have h2 := hm2 l hl
      exact ⟨List.isEmpty_iff.1 h2.1, hend l a w h2.2 hI⟩
    | succ f ih =>
      intro hk l hl a w hI
      refine ⟨fun e => ?_, fun i hi => ?_⟩
      · have := hm3 k (by omega) l hl
        rw [e] at this
        cases this
      · have h1 := hm1 k (by omega) l hl i hi
        exact wpOpIn_mono (fun a w h => ih (k + 1) (by omega) _ h1.2 a w h) (hstep l i a w h1.1 hI)
  exact key 0 ops.size (by omega) _ (by simp [metAt]) a _ h0
end Go.Proofs.Ytbcakennmnjlcaa
