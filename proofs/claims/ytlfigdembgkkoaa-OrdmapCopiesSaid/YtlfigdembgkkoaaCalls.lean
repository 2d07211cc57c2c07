/- A slice of calls, opened. -/
import Derived.Test.YtlfigdembgkkoaaFrame
import Derived.Test.YtlfigdembgkkoaaIIFill
import Derived.Deep.Slices
import Derived.Deep.Fields
import Derived.ChangeSame
namespace Go.Proofs.Ytlfigdembgkkoaa
open Go.ChangeShapes Go.WideShapes Go.Deep Go.RowKit
section
variable {H : Type} {enc : TypeId × Value → H} {w : World} {base : Nat} {spare : Nat → Bool} {held : Bool}
theorem k16 {x : Int} (h : (Lit.int .i16 x).wf = true) : II.K16 x := by
  have h1 : IntKind.i16.min = -32768 := rfl
  have h2 : IntKind.i16.max = 32767 := rfl
  simp [Lit.wf, h1, h2] at h
  exact h
theorem three {α : Type} : ∀ (l : List α), l.length = 3 → ∃ a b c, l = [a, b, c]
  | [a, b, c], _ => ⟨a, b, c, rfl⟩
theorem cellsC : Try.prog.cellsOf 77 = 3 := by kernel_rfl
theorem cellsB : Try.prog.cellsOf 4 = 1 := by kernel_rfl
theorem cells16 : Try.prog.cellsOf 75 = 1 := by kernel_rfl
theorem open_call {fuel : Nat} {cs : List Value} {x : DataW H × List MemPlace} (h : DataW.trod enc Try.prog w base spare held fuel 77 cs = some x) :
    ∃ c : II.C, cs = [.bool c.1, .int .i16 c.2.1, .int .i16 c.2.2] ∧ II.K16 c.2.1 ∧ II.K16 c.2.2 := by
  obtain ⟨ys, n', _, _, hlen, hyl, hf⟩ := DataW.trod_struct Try.underlying77 h
  replace hlen := hlen.trans cellsC
  clear h
  replace hyl : ys.length = 3 := hyl
  obtain ⟨c0, c1, c2, rfl⟩ := three cs hlen
  obtain ⟨y0, y1, y2, rfl⟩ := three ys hyl
  · · have h0 := hf 0 _ rfl
      have h1 := hf 1 _ rfl
      have h2 := hf 2 _ rfl
      simp only [List.getElem_toArray, List.getElem_cons_zero, cellsB] at h0
      simp only [List.getElem_toArray, List.getElem_cons_succ, List.getElem_cons_zero, cells16] at h1 h2
      obtain ⟨d, e0, _⟩ := DataW.trod_bool Try.underlying4 h0
      obtain ⟨k, e1, _, w1⟩ := DataW.trod_int Try.underlying75 h1
      obtain ⟨v, e2, _, w2⟩ := DataW.trod_int Try.underlying75 h2
      obtain rfl : c0 = .bool d := by simpa using e0
      obtain rfl : c1 = .int .i16 k := by simpa using e1
      obtain rfl : c2 = .int .i16 v := by simpa using e2
      exact ⟨(d, k, v), rfl, k16 w1, k16 w2⟩
theorem open_calls {fuel : Nat} {cs : List Value} {x : DataW H × List MemPlace} (h : DataW.trod enc Try.prog w base spare held fuel 45 cs = some x) :
    ∃ A n cap l, cs = [.slice A n cap] ∧ II.CS w A n l ∧ n ≤ cap ∧ cap ≤ 9223372036854775807 := by
  rcases open_slice Try.underlying45 h with ⟨rfl, _⟩ | ⟨a, len, cap, m, n, D, Pl, rfl, _, hl, hm, hmm, _, hi⟩
  · exact ⟨none, 0, 0, [], rfl, ⟨rfl, (by simp), fun h => absurd h (by decide)⟩, Nat.le_refl _, by decide⟩
  · have key : ∀ i, ∃ c : II.C, i < len → II.K16 c.2.1 ∧ II.K16 c.2.2 ∧ w.cell? (a.add (i * 3)) = some (.bool c.1) ∧ w.cell? (a.add (i * 3 + 1)) = some (.int .i16 c.2.1) ∧ w.cell? (a.add (i * 3 + 1 + 1)) = some (.int .i16 c.2.2) := by
      intro i
      by_cases hil : i < len
      · obtain ⟨cs', hc, ht⟩ := hi i (by rw [hmm]; split <;> omega)
        simp only [cellsC] at hc
        obtain ⟨_, _, hat⟩ := World.cells?_some hc
        obtain ⟨c, rfl, h1, h2⟩ := open_call ht
        have a0 := hat 0 (by omega)
        have a1 := hat 1 (by omega)
        have a2 := hat 2 (by omega)
        rw [Go.Deep.add_add] at a0 a1 a2
        exact ⟨c, fun _ => ⟨h1, h2, a0, a1, a2⟩⟩
      · exact ⟨(false, 0, 0), fun h => absurd h hil⟩
    obtain ⟨f, hf⟩ : ∃ f : Nat → II.C, ∀ i, i < len → II.K16 (f i).2.1 ∧ II.K16 (f i).2.2 ∧ w.cell? (a.add (i * 3)) = some (.bool (f i).1) ∧ w.cell? (a.add (i * 3 + 1)) = some (.int .i16 (f i).2.1) ∧ w.cell? (a.add (i * 3 + 1 + 1)) = some (.int .i16 (f i).2.2) :=
      ⟨fun i => Classical.choose (key i), fun i => Classical.choose_spec (key i)⟩
    refine ⟨some a, len, cap, (List.range len).map f, rfl, ⟨by simp, fun c hc => ?_, fun hp => ?_⟩, hl, by unfold maxLen at hm; omega⟩
    · obtain ⟨i, hi', rfl⟩ := List.mem_map.1 hc
      exact ⟨(hf i (List.mem_range.1 hi')).1, (hf i (List.mem_range.1 hi')).2.1⟩
    · obtain ⟨b, o, sp⟩ := a
      have h0 := (hf 0 hp).2.2.1
      have hs : sp = none := by simpa [Addr.add] using World.cell?_spot h0
      subst hs
      refine ⟨b, o, rfl, ?_, fun j c hj => ?_⟩
      · have := II.lt_of_cell (w := w) (b := b) (o := o + 0 * 3) (by rw [← II.add_plain]; exact h0)
        exact this
      · have hjl : j < len := by have := (List.getElem?_eq_some_iff.1 hj).1; simpa using this
        obtain rfl : f j = c := by simpa [hjl] using hj
        have h := (hf j hjl).2.2
        rw [II.add_plain, II.add_plain, II.add_plain] at h
        exact h
end
end Go.Proofs.Ytlfigdembgkkoaa
