/- A slice of steps, opened. -/
import Derived.Test.YtepgdeokjgjapaaFrame
import Derived.Deep.Slices
import Derived.Deep.Fields
import Derived.ChangeSame
import Derived.Test.YtepgdeokjgjapaaQJAlike
namespace Go.Proofs.Ytepgdeokjgjapaa
open Go.ChangeShapes Go.WideShapes Go.Deep Go.RowKit
/-- A step: what is done, its id, its priority. -/
abbrev Stp : Type := Int × Int × Int
/-- The steps that a slice holds. -/
def StS (w : World) (A : Option Addr) (n : Nat) (ts : List Stp) : Prop :=
  ts.length = n ∧
  (0 < n → ∃ b o, A = some ⟨b, o, none⟩ ∧ b < w.heap.size ∧ ∀ j t, ts[j]? = some t → w.cell? ⟨b, o + j * 3, none⟩ = some (.int .i64 t.1) ∧ w.cell? ⟨b, o + j * 3 + 1, none⟩ = some (.int .i64 t.2.1) ∧ w.cell? ⟨b, o + j * 3 + 1 + 1, none⟩ = some (.int .i64 t.2.2))
theorem StS.below {w w' : World} {A : Option Addr} {n : Nat} {ts : List Stp} (h : StS w A n ts) (hb : Below w.heap.size w w') : StS w' A n ts := by
  refine ⟨h.1, fun h0 => ?_⟩
  obtain ⟨b, o, e, hl, hc⟩ := h.2 h0
  refine ⟨b, o, e, Nat.lt_of_lt_of_le hl hb.size, fun j t hj => ?_⟩
  obtain ⟨h1, h2, h3⟩ := hc j t hj
  exact ⟨(hb.cell (p := ⟨b, o + j * 3, none⟩) hl).trans h1, (hb.cell (p := ⟨b, o + j * 3 + 1, none⟩) hl).trans h2, (hb.cell (p := ⟨b, o + j * 3 + 1 + 1, none⟩) hl).trans h3⟩
section
variable {H : Type} {enc : TypeId × Value → H} {w : World} {base : Nat} {spare : Nat → Bool} {held : Bool}
theorem three {α : Type} : ∀ (l : List α), l.length = 3 → ∃ a b c, l = [a, b, c]
  | [a, b, c], _ => ⟨a, b, c, rfl⟩
theorem cellsS : Try.prog.cellsOf 32 = 3 := by kernel_rfl
theorem cellsI : Try.prog.cellsOf 3 = 1 := by kernel_rfl
theorem cellsJ : Try.prog.cellsOf 2 = 1 := by kernel_rfl
theorem open_step {fuel : Nat} {cs : List Value} {x : DataW H × List MemPlace} (h : DataW.trod enc Try.prog w base spare held fuel 32 cs = some x) :
    ∃ t : Stp, cs = [.int .i64 t.1, .int .i64 t.2.1, .int .i64 t.2.2] := by
  obtain ⟨ys, n', _, _, hlen, hyl, hf⟩ := DataW.trod_struct Try.underlying32 h
  replace hlen := hlen.trans cellsS
  clear h
  replace hyl : ys.length = 3 := hyl
  obtain ⟨c0, c1, c2, rfl⟩ := three cs hlen
  obtain ⟨y0, y1, y2, rfl⟩ := three ys hyl
  have h0 := hf 0 _ rfl
  have h1 := hf 1 _ rfl
  have h2 := hf 2 _ rfl
  simp only [List.getElem_toArray, List.getElem_cons_zero, cellsI] at h0
  simp only [List.getElem_toArray, List.getElem_cons_succ, List.getElem_cons_zero, cellsI, cellsJ] at h1 h2
  obtain ⟨d, e0, _, _⟩ := DataW.trod_int Try.underlying3 h0
  obtain ⟨k, e1, _, _⟩ := DataW.trod_int Try.underlying3 h1
  obtain ⟨v, e2, _, _⟩ := DataW.trod_int Try.underlying2 h2
  obtain rfl : c0 = .int .i64 d := by simpa using e0
  obtain rfl : c1 = .int .i64 k := by simpa using e1
  obtain rfl : c2 = .int .i64 v := by simpa using e2
  exact ⟨(d, k, v), rfl⟩
theorem open_steps {fuel : Nat} {cs : List Value} {x : DataW H × List MemPlace} (h : DataW.trod enc Try.prog w base spare held fuel 22 cs = some x) :
    ∃ A n cap l, cs = [.slice A n cap] ∧ StS w A n l ∧ n ≤ cap ∧ cap ≤ 9223372036854775807 := by
  rcases open_slice Try.underlying22 h with ⟨rfl, _⟩ | ⟨a, len, cap, m, n, D, Pl, rfl, _, hl, hm, hmm, _, hi⟩
  · exact ⟨none, 0, 0, [], rfl, ⟨rfl, fun h => absurd h (by decide)⟩, Nat.le_refl _, by decide⟩
  · have key : ∀ i, ∃ t : Stp, i < len → w.cell? (a.add (i * 3)) = some (.int .i64 t.1) ∧ w.cell? (a.add (i * 3 + 1)) = some (.int .i64 t.2.1) ∧ w.cell? (a.add (i * 3 + 1 + 1)) = some (.int .i64 t.2.2) := by
      intro i
      by_cases hil : i < len
      · obtain ⟨cs', hc, ht⟩ := hi i (by rw [hmm]; split <;> omega)
        simp only [cellsS] at hc
        obtain ⟨_, _, hat⟩ := World.cells?_some hc
        obtain ⟨c, rfl⟩ := open_step ht
        have a0 := hat 0 (by omega)
        have a1 := hat 1 (by omega)
        have a2 := hat 2 (by omega)
        rw [Go.Deep.add_add] at a0 a1 a2
        exact ⟨c, fun _ => ⟨a0, a1, a2⟩⟩
      · exact ⟨(0, 0, 0), fun h => absurd h hil⟩
    obtain ⟨f, hf⟩ : ∃ f : Nat → Stp, ∀ i, i < len → w.cell? (a.add (i * 3)) = some (.int .i64 (f i).1) ∧ w.cell? (a.add (i * 3 + 1)) = some (.int .i64 (f i).2.1) ∧ w.cell? (a.add (i * 3 + 1 + 1)) = some (.int .i64 (f i).2.2) :=
      ⟨fun i => Classical.choose (key i), fun i => Classical.choose_spec (key i)⟩
    refine ⟨some a, len, cap, (List.range len).map f, rfl, ⟨by simp, fun hp => ?_⟩, hl, by unfold maxLen at hm; omega⟩
    obtain ⟨b, o, sp⟩ := a
    have h0 := (hf 0 hp).1
    have hs : sp = none := by simpa [Addr.add] using World.cell?_spot h0
    subst hs
    refine ⟨b, o, rfl, ?_, fun j c hj => ?_⟩
    · exact QJ.lt_of_cell (w := w) (b := b) (o := o + 0 * 3) (by rw [← QJ.add_plain]; exact h0)
    · have hjl : j < len := by have := (List.getElem?_eq_some_iff.1 hj).1; simpa using this
      obtain rfl : f j = c := by simpa [hjl] using hj
      have h := hf j hjl
      rw [QJ.add_plain, QJ.add_plain, QJ.add_plain] at h
      exact h
end
end Go.Proofs.Ytepgdeokjgjapaa
