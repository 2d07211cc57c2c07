/- A list of integers beside rows that stay; what moves do to the elements. -/
import Derived.Test.YtidkdidlndfbfaaMoved
import Derived.Test.YtidkdidlndfbfaaElem
import Derived.Test.YtidkdidlndfbfaaWorks
import Derived.Test.YtidkdidlndfbfaaMoves
namespace Go.Proofs.Ytidkdidlndfbfaa.HI
open Go.RowKit
theorem SL.same {w w' : World} {A : Option Addr} {n : Nat} {l : List E} (h : SL w A n l) (hb : ∀ b, A = some ⟨b, 0, none⟩ → w'.heap[b]? = w.heap[b]?) : SL w' A n l := by
  refine ⟨h.1, fun hn => ?_⟩
  obtain ⟨b, rfl, hc⟩ := h.2 hn
  exact ⟨b, rfl, fun i x hx => (World.cell?_of_block (w := w) (hb b rfl)).trans (hc i x hx)⟩
/-- A list, and blocks S that are none of its own. -/
def Beside (w0 : World) (P lim mk : Nat) (l : List E) (S : Nat → Prop) (w : World) : Prop := ∃ v, HOwn w w0.heap.size P lim mk v l ∧ Below w0.heap.size w0 w ∧ ∀ b, S b → ¬ Foot P v b ∧ b < w.heap.size
section
variable {w0 w : World} {P lim mk : Nat} {l : List E} {S S' : Nat → Prop}
theorem Beside.has (h : Beside w0 P lim mk l S w) : Has w0 P lim mk l w := by
  obtain ⟨v, h1, h2, _⟩ := h
  exact ⟨v, h1, h2⟩
theorem Has.beside (h : Has w0 P lim mk l w) : Beside w0 P lim mk l (fun _ => False) w := by
  obtain ⟨v, h1, h2⟩ := h
  exact ⟨v, h1, h2, fun _ h => h.elim⟩
theorem Beside.below {w' : World} (h : Beside w0 P lim mk l S w) (hb : Below w.heap.size w w') : Beside w0 P lim mk l S w' := by
  obtain ⟨v, h1, h2, h3⟩ := h
  exact ⟨v, h1.below hb, h2.trans (hb.mono h2.size), fun b hS => ⟨(h3 b hS).1, Nat.lt_of_lt_of_le (h3 b hS).2 hb.size⟩⟩
/-- Other blocks: those that are new. -/
theorem Beside.fresh {w' : World} (h : Beside w0 P lim mk l S w) (hb : Below w.heap.size w w') (hS : ∀ b, S' b → w.heap.size ≤ b ∧ b < w'.heap.size) : Beside w0 P lim mk l S' w' := by
  obtain ⟨v, h1, h2, _⟩ := h
  exact ⟨v, h1.below hb, h2.trans (hb.mono h2.size), fun b hb' => ⟨fun hF => by have := h1.foot_lt b hF; have := (hS b hb').1; omega, (hS b hb').2⟩⟩
theorem Beside.lt (h : Beside w0 P lim mk l S w) {b : Nat} (hb : S b) : b < w.heap.size := by
  obtain ⟨v, h1, h2, h3⟩ := h
  exact (h3 b hb).2
/-- A further block. -/
theorem Beside.add {w' : World} (h : Beside w0 P lim mk l S w) (hb : Below w.heap.size w w') (hs : w.heap.size < w'.heap.size) : Beside w0 P lim mk l (fun b => S b ∨ b = w.heap.size) w' := by
  obtain ⟨v, h1, h2, h3⟩ := h
  refine ⟨v, h1.below hb, h2.trans (hb.mono h2.size), fun b hb' => ?_⟩
  rcases hb' with hb' | rfl
  · exact ⟨(h3 b hb').1, Nat.lt_of_lt_of_le (h3 b hb').2 hb.size⟩
  · exact ⟨fun hF => Nat.lt_irrefl _ (h1.foot_lt _ hF), hs⟩
theorem Beside.mono (h : Beside w0 P lim mk l S w) (hS : ∀ b, S' b → S b) : Beside w0 P lim mk l S' w := by
  obtain ⟨v, h1, h2, h3⟩ := h
  exact ⟨v, h1, h2, fun b hb => h3 b (hS b hb)⟩
theorem Beside.left {v : Value} {m : Nat} {l' : List E} {w' : World} (h : HOwn w w0.heap.size P lim mk v l) (hb : Below w0.heap.size w0 w) (hS : ∀ b, S b → ¬ Foot P v b ∧ b < w.heap.size) (hl : Left w w0.heap.size P lim m v l' w') :
    Beside w0 P lim m l' S w' ∧ ∀ b, S b → w'.heap[b]? = w.heap[b]? := by
  obtain ⟨v', h1, h2⟩ := hl
  refine ⟨⟨v', h1, hb.trans (h2.below hb.size h.foot_le).1, fun b hb' => ⟨fun hF => ?_, Nat.lt_of_lt_of_le (hS b hb').2 h2.but.size⟩⟩, fun b hb' => h2.but.block b (hS b hb').2 (hS b hb').1⟩
  rcases h2.own b hF with h3 | h3
  · exact (hS b hb').1 h3
  · have := (hS b hb').2
    omega
theorem b_moved (h : Beside w0 P lim mk l S w) (k n : Nat) (hk : k < 256) (hn : n < 65536) : Calls Try.prog 25 #[.agg #[.int .u8 (k : Nat), .int .u16 (n : Nat)], .pointer (some ⟨P, 0, none⟩), .int .i64 (lim : Nat)] w fun e w' => e = .returned (.bool true) ∧ Hid (Beside w0 P lim (mvd lim k n mk l).1 (mvd lim k n mk l).2 S w' ∧ ∀ b, S b → w'.heap[b]? = w.heap[b]?) := by
  obtain ⟨v, h1, h2, h3⟩ := h
  exact (moved_any h1 k n hk hn).mono fun e w' h4 => ⟨h4.1, Beside.left h1 h2 h3 h4.2⟩
theorem h_elements (h : Has w0 P lim mk l w) : Calls Try.prog 26 #[.pointer (some ⟨P, 0, none⟩), .int .i64 (lim : Nat)] w fun e w' => ∃ v', e = .returned (.tuple #[v', .bool true]) ∧ Hid (w'.ownsRow w.heap.size 3 1 v' l.length (vs l) ∧ Below w.heap.size w w') := by
  obtain ⟨v, h1, _⟩ := h
  exact elements_any h1 lim h1.le
end
/-- Moves do not change what is marked, until Clear; an element stays until it is cut. -/
theorem mvd_keeps {most k n mk : Nat} {l : List E} (hm : mk ≤ l.length) (hc : ¬ (k % 8 = 7 ∧ n % 4 = 0)) :
    mk ≤ (mvd most k n mk l).2.length ∧ (mvd most k n mk l).2.take mk = l.take mk ∧ (mvd most k n mk l).2.take (min l.length (mvd most k n mk l).2.length) = l.take (min l.length (mvd most k n mk l).2.length) := by
  unfold mvd
  by_cases h5 : k % 8 = 5
  · rw [if_pos h5]
    exact ⟨hm, rfl, rfl⟩
  · rw [if_neg h5]
    by_cases h6 : k % 8 = 6
    · rw [if_pos h6]
      have hcut : n % (l.length - mk + 1) < l.length - mk + 1 := Nat.mod_lt _ (by omega)
      generalize hr : mk + n % (l.length - mk + 1) = r
      have h1 : mk ≤ r ∧ r ≤ l.length := by omega
      have hl : (l.take r).length = r := by rw [List.length_take]; omega
      refine ⟨by show mk ≤ (l.take r).length; omega, ?_, ?_⟩
      · show (l.take r).take mk = _
        rw [List.take_take, Nat.min_eq_left h1.1]
      · show (l.take r).take (min l.length (l.take r).length) = l.take (min l.length (l.take r).length)
        rw [hl, Nat.min_eq_right h1.2, List.take_take, Nat.min_self]
    · rw [if_neg h6]
      by_cases h7 : k % 8 = 7
      · rw [if_pos h7, if_neg (fun h4 => hc ⟨h7, h4⟩)]
        exact ⟨hm, rfl, rfl⟩
      · rw [if_neg h7]
        by_cases hl : l.length < most
        · rw [if_pos hl]
          refine ⟨by simp; omega, List.take_append_of_le_length hm, ?_⟩
          have e : min l.length (l ++ [(n : Int)]).length = l.length := by simp
          show (l ++ [(n : Int)]).take (min l.length (l ++ [(n : Int)]).length) = l.take (min l.length (l ++ [(n : Int)]).length)
          rw [e, List.take_append_of_le_length (Nat.le_refl _)]
        · rw [if_neg hl]
          exact ⟨hm, rfl, rfl⟩
end Go.Proofs.Ytidkdidlndfbfaa.HI
