/- Regions that draw their order, whose calls make memory: one walk for all orders. -/
import Derived.Test.YtepgdeokjgjapaaChecked
import Derived.Handy
import Derived.Deep.Draws
import Derived.BigQuiet
import Derived.Sort.QuietIn
import Derived.Laws.AppendOwn
import Derived.Below
namespace Go.Proofs.Ytepgdeokjgjapaa
open Go.RowKit

/-- A world behind X in which all that lay in X lies as it lay. -/
structure After (X : World) where
  w : World
  below : Below X.heap.size X w
instance {X : World} : Nonempty (After X) := ⟨⟨X, Below.refl _ _⟩⟩
theorem wp_region_after {P : Program} {id : Nat} {Q : Exit → Act → World → Prop} {a : Act} {X : World} {l : List Oper} (hm : P.follows .mixedOrders = true) (hB : Region.lexB .any l.toArray = true)
    (h : wpQuiet P l.toArray (fun w' => ∃ y : After X, w' = y.w) (fun a' => ∀ w', (∃ y : After X, w' = y.w) → Q .normal a' w') l a) : (Code.region id l.toArray true).wp P Q a X :=
  wp_region_quiet (C := fun w' => ∃ y : After X, w' = y.w) hm hB ⟨⟨_, (Below.refl _ X).drew⟩, rfl⟩ (by simpa using h)
theorem wpIn_region_after {F : Fence} {n : Nat} {P : Program} {id : Nat} {Q : Exit → Act → World → Prop} {a : Act} {X : World} {l : List Oper} (hro : F.round = none) (hm : P.follows .mixedOrders = true) (hB : Region.lexB .any l.toArray = true)
    (h : wpQuietIn F n P l.toArray (fun w' => ∃ y : After X, w' = y.w) (fun a' => ∀ w', (∃ y : After X, w' = y.w) → Q .normal a' w') l a) : (Code.region id l.toArray true).wpIn F n P Q a X :=
  wpIn_region_quiet (C := fun w' => ∃ y : After X, w' = y.w) hro hm hB ⟨⟨_, (Below.refl _ X).drew⟩, rfl⟩ (by simpa using h)
theorem After.ends {X w' : World} {y : After X} {e : Ending} {v : Value} (h : e = .returned v ∧ Below y.w.heap.size y.w w') : e = .returned v ∧ ∃ z : After X, w' = z.w :=
  ⟨h.1, ⟨w', y.below.trans (h.2.mono y.below.size)⟩, rfl⟩
theorem After.same {X w' : World} {y : After X} {e : Ending} {v : Value} (h : e = .returned v ∧ y.w = w') : e = .returned v ∧ ∃ z : After X, w' = z.w := ⟨h.1, y, h.2.symm⟩
end Go.Proofs.Ytepgdeokjgjapaa
