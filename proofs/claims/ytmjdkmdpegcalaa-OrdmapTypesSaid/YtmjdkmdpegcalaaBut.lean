/- Worlds that differ in some blocks alone. -/
import Derived.Laws.AppendOwn
import Derived.Laws.OwnMore
import Derived.Below
namespace Go.Proofs.Ytmjdkmdpegcalaa
open Go.RowKit

/-- Only the blocks of F may have changed. -/
structure But (F : Nat → Prop) (w w' : World) : Prop where
  os : w'.os = w.os
  tape : w'.tape = w.tape
  output : w'.output = w.output
  size : w.heap.size ≤ w'.heap.size
  block : ∀ b, b < w.heap.size → ¬ F b → w'.heap[b]? = w.heap[b]?
theorem But.of_below {F : Nat → Prop} {w w' : World} (h : Below w.heap.size w w') : But F w w' := ⟨h.os, h.tape, h.output, h.size, fun b hb _ => h.block b hb⟩
theorem But.trans {F : Nat → Prop} {a b c : World} (h : But F a b) (k : But F b c) : But F a c :=
  ⟨k.os.trans h.os, k.tape.trans h.tape, k.output.trans h.output, Nat.le_trans h.size k.size, fun i hi hF => (k.block i (Nat.lt_of_lt_of_le hi h.size) hF).trans (h.block i hi hF)⟩
theorem But.mono {F G : Nat → Prop} {w w' : World} (h : But F w w') (hg : ∀ b, b < w.heap.size → F b → G b) : But G w w' := ⟨h.os, h.tape, h.output, h.size, fun b hb hG => h.block b hb fun hF => hG (hg b hb hF)⟩
theorem But.setCell {F : Nat → Prop} {a w : World} (h : But F a w) {p : Addr} (hp : F p.block ∨ a.heap.size ≤ p.block) (u : Value) : But F a (w.setCell p u) :=
  ⟨h.os, h.tape, h.output, by simp [World.setCell]; exact h.size, fun b hb hF => (Below.heap_setCell w p u b (fun e => by
    rcases hp with hp | hp
    · exact hF (e ▸ hp)
    · omega)).trans (h.block b hb hF)⟩
theorem owns_of_block {w w' : World} {B e sz n : Nat} {v : Value} {xs : List Value} (h : w.ownsRow B e sz v n xs) (hb : ∀ g, v.ownBlock = some g → w'.heap[g]? = w.heap[g]?) : w'.ownsRow B e sz v n xs := by
  refine ⟨h.1, ?_⟩
  rcases h.2 with h0 | ⟨g, cap, cur, hv, hg, hh, r⟩
  · exact Or.inl h0
  · exact Or.inr ⟨g, cap, cur, hv, hg, (hb g (by rw [hv]; rfl)).trans hh, r⟩
theorem But.alloc {F : Nat → Prop} {a w : World} (h : But F a w) (o : Obj) : But F a (w.alloc o) :=
  ⟨h.os, h.tape, h.output, by simp; have := h.size; omega, fun b hb hF => (Below.heap_alloc w o b (Nat.lt_of_lt_of_le hb h.size)).trans (h.block b hb hF)⟩
theorem But.drew {F : Nat → Prop} {a w : World} (h : But F a w) : But F a w.drew := ⟨h.os, h.tape, h.output, h.size, h.block⟩
theorem But.grown {F : Nat → Prop} {a w w' : World} {row : Option Nat} (h : But F a w) (hg : w.grownBy w' row) (hr : ∀ g, row = some g → a.heap.size ≤ g) : But F a w' :=
  ⟨hg.os.trans h.os, hg.tape.trans h.tape, hg.output.trans h.output, Nat.le_trans h.size hg.size, fun b hb hF => (hg.block b (Nat.lt_of_lt_of_le hb h.size) (fun e => by have := hr b e.symm; omega)).trans (h.block b hb hF)⟩
theorem But.cell {F : Nat → Prop} {a w : World} (h : But F a w) {p : Addr} {v : Value} (hp : p.block < a.heap.size) (hF : ¬ F p.block) (hc : a.cell? p = some v) : w.cell? p = some v :=
  (World.cell?_of_block (w := a) (h.block p.block hp hF)).trans hc
theorem but_below {F : Nat → Prop} {a w w' : World} (h : But F a w) (hb : Below a.heap.size w w') : But F a w' :=
  ⟨hb.os.trans h.os, hb.tape.trans h.tape, hb.output.trans h.output, Nat.le_trans h.size hb.size, fun b hl hF => (hb.block b hl).trans (h.block b hl hF)⟩

/-- Which blocks may have changed, and whose the new row is. -/
structure Chg (w w' : World) (P : Nat) (v v' : Value) : Prop where
  but : But (fun b => b = P ∨ v.ownBlock = some b) w w'
  row : ∀ g, v'.ownBlock = some g → v.ownBlock = some g ∨ w.heap.size ≤ g
theorem grown_of_below {w w' : World} {row : Option Nat} (h : Below w.heap.size w w') : w.grownBy w' row := ⟨h.os, h.tape, h.output, h.size, fun k hk _ => h.block k hk⟩
theorem But.of_grown {F : Nat → Prop} {w w' : World} {row : Option Nat} (hg : w.grownBy w' row) (h : ∀ b, row = some b → F b) : But F w w' :=
  ⟨hg.os, hg.tape, hg.output, hg.size, fun b hb hF => hg.block b hb (fun e => hF (h b e.symm))⟩
theorem owns_lt' {w : World} {B e sz n : Nat} {v : Value} {xs : List Value} (h : w.ownsRow B e sz v n xs) {g : Nat} (hg : v.ownBlock = some g) : B ≤ g ∧ g < w.heap.size := h.lt g hg
end Go.Proofs.Ytmjdkmdpegcalaa
