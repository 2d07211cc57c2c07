/- The iterators, told by the items' numbers: a body is walked for an item of the map alone. -/
import Derived.Test.YtmjdkmdpegcalaaBPIter
import Derived.RangeFuncBound
namespace Go.Proofs.Ytmjdkmdpegcalaa.BP
open Go.RowKit Go.Lib

/-- The item of a number; the first one where there is none of it. -/
def itemAt (l : List (K × V)) (i : Nat) : K × V := l.getD i (l.headD z0)
theorem itemAt_mem {l : List (K × V)} (h : 0 < l.length) (i : Nat) : itemAt l i ∈ l := by
  unfold itemAt
  cases l with
  | nil => simp at h
  | cons y l =>
    rcases Nat.lt_or_ge i (y :: l).length with hi | hi
    · simp [List.getD, List.getElem?_eq_getElem hi]
    · simp [List.getD, List.getElem?_eq_none hi]
theorem itemAt_eq {l : List (K × V)} {i : Nat} (h : i < l.length) : itemAt l i = l[i] := by simp [itemAt, List.getD, List.getElem?_eq_getElem h]
def encAt (l : List (K × V)) (i : Nat) : Array Value := encs (itemAt l i)
/-- A loop over numbers, as the loop over the items sees it. -/
def OfIdx (l : List (K × V)) (J : List Nat → World → Prop) (pre : List (K × V)) (W : World) : Prop := pre <+: l ∧ J (List.range pre.length) W
theorem next_of_prefix {l pre : List (K × V)} {x : K × V} (h : pre ++ [x] <+: l) : itemAt l pre.length = x := by
  obtain ⟨t, rfl⟩ := h
  simp [itemAt, List.getD]
theorem range_snoc {pre : List (K × V)} {x : K × V} : List.range (pre ++ [x]).length = List.range pre.length ++ [pre.length] := by
  rw [List.length_append, List.length_singleton, List.range_succ]
theorem rounds_idx {m lp n₀ : Nat} {l : List (K × V)} {J Jx : List Nat → World → Prop}
    (hY : ∀ pre x W1, J pre W1 → pre.length < l.length → YieldAt Fence.wide m Try.prog lp (encAt l x) W1 fun e W' => (e = .returned (.bool true) ∧ J (pre ++ [x]) W' ∧ Below n₀ W1 W') ∨ (e = .returned (.bool false) ∧ Jx (pre ++ [x]) W')) :
    Rounds m lp n₀ l (OfIdx l J) (OfIdx l Jx) := by
  intro pre x W hj hp
  have h := hY (List.range pre.length) pre.length W hj.2 (by rw [List.length_range]; exact lt_of_prefix hp)
  rw [encAt, next_of_prefix hp, ← range_snoc] at h
  refine h.mono fun e W' h => ?_
  rcases h with ⟨h1, h2, h3⟩ | ⟨h1, h2⟩
  · exact Or.inl ⟨h1, ⟨hp, h2⟩, h3⟩
  · exact Or.inr ⟨h1, ⟨hp, h2⟩⟩
theorem range_snoc_nat {pre : List Nat} {x : Nat} : List.range (pre ++ [x]).length = List.range pre.length ++ [pre.length] := by
  rw [List.length_append, List.length_singleton, List.range_succ]
/-- How the loop over the numbers ends. -/
def WalkedIdx (n : Nat) (J Jx : List Nat → World → Prop) (e : Ending) (W' : World) : Prop :=
  (∃ v, e = .returned v) ∧ ((∃ xs, xs = List.range n ∧ J xs W') ∨ (∃ pre, (pre = List.range pre.length ∧ pre.length ≤ n) ∧ Jx pre W'))
theorem walked_idx {l : List (K × V)} {J Jx : List Nat → World → Prop} {e : Ending} {W' : World} (h : Walked l (OfIdx l J) (OfIdx l Jx) e W') : WalkedIdx l.length J Jx e W' := by
  refine ⟨⟨_, h.1⟩, ?_⟩
  rcases h.2 with ⟨ys, rfl, h2⟩ | ⟨pre, h1, h2⟩
  · exact Or.inl ⟨_, rfl, h2.2⟩
  · exact Or.inr ⟨_, ⟨by rw [List.length_range], by rw [List.length_range]; exact h1.length_le⟩, h2.2⟩
/-- All, by numbers. -/
theorem all_idx (n n₀ Bm : Nat) (p A : Option Addr) (c : Nat) (l : List (K × V)) (w : World) (hm : w.cell? ⟨Bm, 0, none⟩ = some (.pointer p)) (h : Has w p A c l) (hA : Under n₀ A) (hW : n₀ ≤ w.heap.size) :
    SeqStopsK Fence.wide n Try.prog 116 #[.pointer (some ⟨Bm, 0, none⟩)] (encAt l) (Below n₀) (fun ys => ys = List.range l.length) (fun pre => pre = List.range pre.length ∧ pre.length ≤ l.length) l.length w := fun lp J Jx W hb hJ _ hY h0 =>
  callsIn_wide.2 ((all1_any (n - 1) lp n₀ Bm p A c l (OfIdx l J) (OfIdx l Jx) (fun s W W' hs hg => ⟨hs.1, hJ _ W W' none hs.2 hg (fun r e => by cases e)⟩) (rounds_idx hY) W ((hb.cell (lt_of_cell hm)).trans hm) (h.below hb) hA (Nat.le_trans hW hb.size) ⟨List.nil_prefix, h0⟩).mono
    fun e w' h => walked_idx h)
end Go.Proofs.Ytmjdkmdpegcalaa.BP
