/- A loop that appends to a boxed slice what an iterator yields. -/
import Derived.Test.YtidkdidlndfbfaaHSIter
import Derived.Test.YtidkdidlndfbfaaHSOps
import Derived.Maps.OwnIn
namespace Go.Proofs.Ytidkdidlndfbfaa.HS
open Go.RowKit Go.Shelf
/-- The boxed slice has what was yielded. -/
def Grows (B0 z : Nat) (pre : List E) (F : Nat → Prop) (U : World) : Prop := ∃ v, F = Foot z v ∧ Boxed U z 39 v ∧ U.ownsRow B0 9 1 v pre.length (vs pre) ∧ B0 ≤ U.heap.size
theorem grows_steady {B B0 z : Nat} : Steady B (Grows B0 z) := by
  rintro pre F A C ⟨v, rfl, hb, hr, hs⟩ hc
  exact ⟨v, rfl, (hc.block z (lt_of_heap hb) (fun h => h.2 (.inl rfl))).trans hb, owns_of_block hr fun g hg => hc.block g (hr.lt g hg).2 (fun h => h.2 (.inr hg)), Nat.le_trans hs hc.size⟩
theorem but_steady {β : Type} {B : Nat} {G : Nat → Prop} {V : World} (h : V.heap.size ≤ B) : Steady B (fun (_ : β) _ U => But G V U) := fun _ _ _ _ hs hc =>
  ⟨hc.os.trans hs.os, hc.tape.trans hs.tape, hc.output.trans hs.output, Nat.le_trans hs.size hc.size, fun b hb hG => (hc.block b (Nat.lt_of_lt_of_le hb hs.size) (fun h2 => by have := h2.1; omega)).trans (hs.block b hb hG)⟩
theorem pure_steady {β : Type} {B : Nat} (p : β → Prop) : Steady B (fun s _ (_ : World) => p s) := fun _ _ _ _ hs _ => hs
theorem grows_nil {B0 z : Nat} {U : World} (hb : Boxed U z 39 (.slice none 0 0)) (hs : B0 ≤ U.heap.size) : Grows B0 z [] (Foot z (.slice none 0 0)) U := ⟨_, rfl, hb, World.ownsRow_nil _ _ _ _, hs⟩
/-- An append in a round. -/
theorem grows_more {B0 z : Nat} {pre : List E} {x : E} {v v' : Value} {U w1 : World} (hb : Boxed U z 39 v) (hr : U.ownsRow B0 9 1 v pre.length (vs pre)) (hs : B0 ≤ U.heap.size)
    (hr1 : w1.ownsRow B0 9 1 v' (pre.length + 1) (vs pre ++ vs [x])) (hg : (U.alloc (.cells #[(.string (x))] 9)).grownBy w1 v.ownBlock) (hat : v'.ownBlock = v.ownBlock ∨ v'.ownBlock = some (U.alloc (.cells #[(.string (x))] 9)).heap.size) :
    Turn (Foot z v) (Foot z v') U (w1.setCell ⟨z, 0, none⟩ v') ∧ Grows B0 z (pre ++ [x]) (Foot z v') (w1.setCell ⟨z, 0, none⟩ v') := by
  have hz := lt_of_heap hb
  have hb1 : Boxed w1 z 39 v := (hb.alloc _).kept hg (hb.not_row (by decide) hr)
  have hne : v'.ownBlock ≠ some z := by
    intro e
    rcases hat with h2 | h2
    · exact hb.not_row (by decide) hr (h2 ▸ e).symm
    · rw [e] at h2
      have := Option.some.inj h2
      rw [World.size_alloc] at this
      omega
  have hT : Turn (Foot z v) (Foot z v') U (w1.setCell ⟨z, 0, none⟩ v') := by
    refine ⟨(((But.refl (Foot z v) U).alloc _).grown hg (fun g e => .inl (.inr e))).setCell (.inl (.inl rfl)) _, fun b h => ?_⟩
    rcases h with rfl | h
    · exact .inl (.inl rfl)
    · rcases hat with h2 | h2
      · exact .inl (.inr (h2 ▸ h))
      · rw [h] at h2
        have := Option.some.inj h2
        rw [World.size_alloc] at this
        exact .inr (by omega)
  refine ⟨hT, ⟨v', rfl, hb1.set _, ?_, Nat.le_trans hs hT.but.size⟩⟩
  rw [List.length_append, vs_append]
  exact owns_of_block hr1 fun g hg' => Below.heap_setCell w1 _ _ g (fun e => hne (by rw [← show g = z from e]; exact hg'))
theorem grows_add {B0 z : Nat} {pre : List E} {x : E} {v v' : Value} {V U w1 : World} (hb : Boxed U z 39 v) (hr : U.ownsRow B0 9 1 v pre.length (vs pre)) (hs : B0 ≤ U.heap.size) (hV : But (fun b => b = z) V U) (hVB : V.heap.size ≤ B0)
    (hr1 : w1.ownsRow B0 9 1 v' (pre.length + 1) (vs pre ++ vs [x])) (hg : (U.alloc (.cells #[(.string (x))] 9)).grownBy w1 v.ownBlock) (hat : v'.ownBlock = v.ownBlock ∨ v'.ownBlock = some (U.alloc (.cells #[(.string (x))] 9)).heap.size) :
    Turn (Foot z v) (Foot z v') U (w1.setCell ⟨z, 0, none⟩ v') ∧ Grows B0 z (pre ++ [x]) (Foot z v') (w1.setCell ⟨z, 0, none⟩ v') ∧ But (fun b => b = z) V (w1.setCell ⟨z, 0, none⟩ v') := by
  obtain ⟨hT, hG⟩ := grows_more hb hr hs hr1 hg hat
  refine ⟨hT, hG, hT.but.os.trans hV.os, hT.but.tape.trans hV.tape, hT.but.output.trans hV.output, Nat.le_trans hV.size hT.but.size, fun b hb' hG => (hT.but.block b (Nat.lt_of_lt_of_le hb' hV.size) ?_).trans (hV.block b hb' hG)⟩
  rintro (h | h)
  · exact hG h
  · have := (hr.lt b h).1
    omega
theorem turn_steady {β : Type} {B : Nat} {F₀ : Nat → Prop} {V : World} (h : V.heap.size ≤ B) : Steady B (fun (_ : β) F U => Turn F₀ F V U) := fun _ _ _ _ hs hc =>
  ⟨⟨hc.os.trans hs.but.os, hc.tape.trans hs.but.tape, hc.output.trans hs.but.output, Nat.le_trans hs.but.size hc.size, fun b hb hG => (hc.block b (Nat.lt_of_lt_of_le hb hs.but.size) (fun h2 => by have := h2.1; omega)).trans (hs.but.block b hb hG)⟩, hs.own⟩
theorem grows_foot {B0 z : Nat} {pre : List E} {F : Nat → Prop} {U : World} (h : Grows B0 z pre F U) : ∀ b, F b → b = z ∨ B0 ≤ b := by
  obtain ⟨v, rfl, _, hr, _⟩ := h
  rintro b (h | h)
  · exact .inl h
  · exact .inr (hr.lt b h).1
theorem src_box (U : World) (x : E) : ∀ j u, (vs [x])[j]? = some u → (U.alloc (.cells #[(.string (x))] 9)).cell? ((⟨U.heap.size, 0, none⟩ : Addr).add j) = some u := src_one U x
end Go.Proofs.Ytidkdidlndfbfaa.HS
