/- Worlds that differ in some blocks alone; what an object takes up. -/
import Derived.Test.YtaohlblhfmlpbaaChecked
import Derived.WalkKit
import Derived.WalkSpells
import Derived.WalkLawsBesides
import Derived.Handy
import Derived.Lib.Hide
import Derived.Outline
import Derived.Deep.Draws
import Derived.BigQuiet
import Derived.RegionTactic
import Derived.Maps.AppendAt
import Derived.Laws.AppendOwn
import Derived.Laws.OwnMore
import Derived.LaidEqlPtr
import Derived.Deep.RegionWith
import Derived.Deep.RegionHeld3
import Derived.WideShapes
import Derived.Below
namespace Go.Proofs.Ytaohlblhfmlpbaa
open Go.RowKit
theorem lt_of_heap {w : World} {b : Nat} {o : Obj} (h : w.heap[b]? = some o) : b < w.heap.size := (Array.getElem?_eq_some_iff.1 h).1
theorem lt_of_cell {w : World} {b o : Nat} {v : Value} (h : w.cell? ⟨b, o, none⟩ = some v) : b < w.heap.size := by
  rcases Nat.lt_or_ge b w.heap.size with hlt | hge
  · exact hlt
  · simp [World.cell?, Array.getElem?_eq_none hge] at h
theorem add_plain (b o j : Nat) : (⟨b, o, none⟩ : Addr).add j = ⟨b, o + j, none⟩ := by unfold Addr.add; split <;> simp_all
/-- Only the blocks of F may have changed. -/
structure But (F : Nat → Prop) (w w' : World) : Prop where
  os : w'.os = w.os
  tape : w'.tape = w.tape
  output : w'.output = w.output
  size : w.heap.size ≤ w'.heap.size
  block : ∀ b, b < w.heap.size → ¬ F b → w'.heap[b]? = w.heap[b]?
theorem But.of_below {F : Nat → Prop} {w w' : World} (h : Below w.heap.size w w') : But F w w' := ⟨h.os, h.tape, h.output, h.size, fun b hb _ => h.block b hb⟩
theorem But.refl (F : Nat → Prop) (w : World) : But F w w := .of_below (Below.refl _ _)
theorem But.trans {F : Nat → Prop} {a b c : World} (h : But F a b) (k : But F b c) : But F a c :=
  ⟨k.os.trans h.os, k.tape.trans h.tape, k.output.trans h.output, Nat.le_trans h.size k.size, fun i hi hF => (k.block i (Nat.lt_of_lt_of_le hi h.size) hF).trans (h.block i hi hF)⟩
theorem But.setCell {F : Nat → Prop} {a w : World} (h : But F a w) {p : Addr} (hp : F p.block ∨ a.heap.size ≤ p.block) (u : Value) : But F a (w.setCell p u) :=
  ⟨h.os, h.tape, h.output, by simp [World.setCell]; exact h.size, fun b hb hF => (Below.heap_setCell w p u b (fun e => by
    rcases hp with hp | hp
    · exact hF (e ▸ hp)
    · omega)).trans (h.block b hb hF)⟩
theorem But.mono' {F G : Nat → Prop} {w w' : World} (h : But F w w') (hg : ∀ b, F b → G b) : But G w w' := ⟨h.os, h.tape, h.output, h.size, fun b hb hG => h.block b hb fun hF => hG (hg b hF)⟩
theorem But.alloc {F : Nat → Prop} {a w : World} (h : But F a w) (o : Obj) : But F a (w.alloc o) :=
  ⟨h.os, h.tape, h.output, by simp; have := h.size; omega, fun b hb hF => (Below.heap_alloc w o b (Nat.lt_of_lt_of_le hb h.size)).trans (h.block b hb hF)⟩
theorem But.drew {F : Nat → Prop} {a w : World} (h : But F a w) : But F a w.drew := ⟨h.os, h.tape, h.output, h.size, h.block⟩
theorem But.grown {F : Nat → Prop} {a w w' : World} {row : Option Nat} (h : But F a w) (hg : w.grownBy w' row) (hr : ∀ g, row = some g → F g ∨ a.heap.size ≤ g) : But F a w' :=
  ⟨hg.os.trans h.os, hg.tape.trans h.tape, hg.output.trans h.output, Nat.le_trans h.size hg.size, fun b hb hF => (hg.block b (Nat.lt_of_lt_of_le hb h.size) (fun e => by
    rcases hr b e.symm with h | h
    · exact hF h
    · omega)).trans (h.block b hb hF)⟩
theorem But.cell {F : Nat → Prop} {a w : World} {p : Addr} {v : Value} (h : But F a w) (hp : p.block < a.heap.size) (hF : ¬ F p.block) (hc : a.cell? p = some v) : w.cell? p = some v :=
  (World.cell?_of_block (w := a) (h.block p.block hp hF)).trans hc
theorem But.below {F : Nat → Prop} {a w : World} {B : Nat} (h : But F a w) (hB : B ≤ a.heap.size) (hF : ∀ b, F b → B ≤ b) : Below B a w :=
  ⟨h.os, h.tape, h.output, h.size, fun k hk => h.block k (Nat.lt_of_lt_of_le hk hB) (fun e => by have := hF k e; omega)⟩
theorem owns_of_block {w w' : World} {B e sz n : Nat} {v : Value} {xs : List Value} (h : w.ownsRow B e sz v n xs) (hb : ∀ g, v.ownBlock = some g → w'.heap[g]? = w.heap[g]?) : w'.ownsRow B e sz v n xs := by
  refine ⟨h.1, ?_⟩
  rcases h.2 with h0 | ⟨g, cap, cur, hv, hg, hh, r⟩
  · exact Or.inl h0
  · exact Or.inr ⟨g, cap, cur, hv, hg, (hb g (by rw [hv]; rfl)).trans hh, r⟩
theorem owns_below {w w' : World} {B e sz n : Nat} {v : Value} {xs : List Value} (h : w.ownsRow B e sz v n xs) (hb : Below w.heap.size w w') : w'.ownsRow B e sz v n xs := owns_of_block h fun g hg => hb.block g (h.lt g hg).2
theorem owns_le {w : World} {B B' e sz n : Nat} {v : Value} {xs : List Value} (h : w.ownsRow B e sz v n xs) (hb : B' ≤ B) : w.ownsRow B' e sz v n xs :=
  ⟨h.1, h.2.elim Or.inl fun ⟨g, cap, cur, hv, hg, r⟩ => Or.inr ⟨g, cap, cur, hv, Nat.le_trans hb hg, r⟩⟩
/-- What an object takes up: its block, and its row's. -/
def Foot (P : Nat) (v : Value) : Nat → Prop := fun b => b = P ∨ v.ownBlock = some b
/-- Only F has turned; what is taken up now was so before, or is new. -/
structure Turn (F F' : Nat → Prop) (w w' : World) : Prop where
  but : But F w w'
  own : ∀ b, F' b → F b ∨ w.heap.size ≤ b
theorem Turn.refl (F : Nat → Prop) (w : World) : Turn F F w w := ⟨But.refl F w, fun _ h => .inl h⟩
theorem Turn.of_below {F : Nat → Prop} {w w' : World} (h : Below w.heap.size w w') : Turn F F w w' := ⟨.of_below h, fun _ h => .inl h⟩
theorem Turn.trans {F F' F'' : Nat → Prop} {a b c : World} (h : Turn F F' a b) (k : Turn F' F'' b c) : Turn F F'' a c := by
  refine ⟨⟨k.but.os.trans h.but.os, k.but.tape.trans h.but.tape, k.but.output.trans h.but.output, Nat.le_trans h.but.size k.but.size, fun i hi hF => (k.but.block i (Nat.lt_of_lt_of_le hi h.but.size) fun hF' => ?_).trans (h.but.block i hi hF)⟩, fun i hi => ?_⟩
  · rcases h.own i hF' with h1 | h1
    · exact hF h1
    · omega
  · rcases k.own i hi with h1 | h1
    · exact h.own i h1
    · exact .inr (Nat.le_trans h.but.size h1)
theorem Turn.below {F F' : Nat → Prop} {a b : World} {B : Nat} (h : Turn F F' a b) (hB : B ≤ a.heap.size) (hF : ∀ i, F i → B ≤ i) : Below B a b ∧ ∀ i, F' i → B ≤ i :=
  ⟨h.but.below hB hF, fun i hi => (h.own i hi).elim (hF i) (fun h => Nat.le_trans hB h)⟩
def Apart (F G : Nat → Prop) : Prop := ∀ b, F b → ¬ G b
theorem Apart.symm {F G : Nat → Prop} (h : Apart F G) : Apart G F := fun b hg hf => h b hf hg
theorem Turn.apart {F F' G : Nat → Prop} {a b : World} (h : Turn F F' a b) (hA : Apart F G) (hG : ∀ i, G i → i < a.heap.size) : Apart F' G := fun i hi hg => by
  rcases h.own i hi with h1 | h1
  · exact hA i h1 hg
  · have := hG i hg
    omega
theorem Turn.same {F F' G : Nat → Prop} {a b : World} (h : Turn F F' a b) (hA : Apart F G) (hG : ∀ i, G i → i < a.heap.size) : ∀ i, G i → b.heap[i]? = a.heap[i]? := fun i hi => h.but.block i (hG i hi) fun hF => hA i hF hi
end Go.Proofs.Ytaohlblhfmlpbaa
