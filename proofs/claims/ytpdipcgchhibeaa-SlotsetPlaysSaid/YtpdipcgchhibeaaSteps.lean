/- A slice of steps, opened. -/
import Derived.Test.YtpdipcgchhibeaaFrame
import Derived.ChangeMaps5
import Derived.Deep.Matrix
namespace Go.Proofs.Ytpdipcgchhibeaa
open Go.ChangeShapes Go.WideShapes Go.Deep Go.RowKit
/-- A step: what is done, its slot, the slice of slots and what it reads as. -/
structure Stp where
  d : Int
  i : Int
  A : Option Addr
  len : Nat
  cap : Nat
  zs : List Int
/-- The steps that a slice holds. -/
def StS (w : World) (A : Option Addr) (n : Nat) (ts : List Stp) : Prop :=
  ts.length = n ∧ (∀ t ∈ ts, IsRow .i64 w t.A t.len t.cap t.zs) ∧
  (0 < n → ∃ b o, A = some ⟨b, o, none⟩ ∧ b < w.heap.size ∧ ∀ j t, ts[j]? = some t → w.cell? ⟨b, o + j * 3, none⟩ = some (.int .i64 t.d) ∧ w.cell? ⟨b, o + j * 3 + 1, none⟩ = some (.int .i64 t.i) ∧ w.cell? ⟨b, o + j * 3 + 2, none⟩ = some (.slice t.A t.len t.cap))
/-- One step in memory, in a world that has come of the first. -/
theorem StS.at {w w' : World} {A : Option Addr} {n : Nat} {ts : List Stp} (h : StS w A n ts) (hb : Below w.heap.size w w') {k : Nat} (hk : k < n) : ∃ (b o : Nat) (t : Stp), ts[k]? = some t ∧ A = some ⟨b, o, none⟩ ∧ IsRow .i64 w t.A t.len t.cap t.zs ∧ w'.cell? ⟨b, o + k * 3, none⟩ = some (.int .i64 t.d) ∧ w'.cell? ⟨b, o + k * 3 + 1, none⟩ = some (.int .i64 t.i) ∧ w'.cell? ⟨b, o + k * 3 + 2, none⟩ = some (.slice t.A t.len t.cap) := by
  obtain ⟨b, o, e, hl, hc⟩ := h.2.2 (by omega)
  have hk' : k < ts.length := by rw [h.1]; exact hk
  have ht : ts[k]? = some ts[k] := List.getElem?_eq_getElem hk'
  obtain ⟨h1, h2, h4⟩ := hc k _ ht
  have h3 := h.2.1 _ (List.getElem_mem hk')
  exact ⟨b, o, _, ht, e, h3, (hb.cell (p := ⟨b, o + k * 3, none⟩) hl).trans h1, (hb.cell (p := ⟨b, o + k * 3 + 1, none⟩) hl).trans h2, (hb.cell (p := ⟨b, o + k * 3 + 2, none⟩) hl).trans h4⟩
section
variable {H : Type} {enc : TypeId × Value → H} {w : World} {base : Nat} {held : Bool}
theorem three {α : Type} : ∀ (l : List α), l.length = 3 → ∃ a b c, l = [a, b, c]
  | [a, b, c], _ => ⟨a, b, c, rfl⟩
theorem cellsStep : Try.prog.cellsOf 26 = 3 := by kernel_rfl
theorem cellsInt : Try.prog.cellsOf 3 = 1 := by kernel_rfl
theorem cellsInts : Try.prog.cellsOf 24 = 1 := by kernel_rfl
theorem open_row {fuel : Nat} {cs : List Value} {x : DataW H × List MemPlace} (hf : DataW.trod enc Try.prog w base (fun _ => true) held fuel 24 cs = some x) : ∃ A len cap zs, cs = [.slice A len cap] ∧ IsRow .i64 w A len cap zs := by
  rcases open_ints Try.underlying24 Try.underlying3 (by kernel_rfl) hf with ⟨hcs, _⟩ | ⟨x, l, c, zs, hcs, _, hl, hm, hz, _, hcell, hwz⟩
  · exact ⟨none, 0, 0, [], by simpa using hcs, .inl ⟨rfl, rfl, rfl, rfl⟩⟩
  · exact ⟨_, _, _, zs, by simpa using hcs, .inr ⟨_, rfl, hl, hm, by simpa using hz, hcell, hwz⟩⟩
theorem open_step {fuel : Nat} {cs : List Value} {x : DataW H × List MemPlace} (h : DataW.trod enc Try.prog w base (fun _ => true) held fuel 26 cs = some x) :
    ∃ t : Stp, cs = [.int .i64 t.d, .int .i64 t.i, .slice t.A t.len t.cap] ∧ IsRow .i64 w t.A t.len t.cap t.zs := by
  obtain ⟨ys, n', _, _, hlen, hyl, hf⟩ := DataW.trod_struct Try.underlying26 h
  replace hlen := hlen.trans cellsStep
  clear h
  replace hyl : ys.length = 3 := hyl
  obtain ⟨c0, c1, c2, rfl⟩ := three cs hlen
  obtain ⟨y0, y1, y2, rfl⟩ := three ys hyl
  have h0 := hf 0 _ rfl
  have h1 := hf 1 _ rfl
  have h2 := hf 2 _ rfl
  simp only [List.getElem_toArray, List.getElem_cons_zero, cellsInt] at h0
  simp only [List.getElem_toArray, List.getElem_cons_succ, List.getElem_cons_zero, cellsInt] at h1
  simp only [List.getElem_toArray, List.getElem_cons_succ, List.getElem_cons_zero, cellsInts] at h2
  obtain ⟨d, e1, _, _⟩ := DataW.trod_int Try.underlying3 h0
  obtain ⟨i, e2, _, _⟩ := DataW.trod_int Try.underlying3 h1
  obtain ⟨A, len, cap, zs, e3, hr⟩ := open_row h2
  obtain rfl : c0 = .int .i64 d := by simpa using e1
  obtain rfl : c1 = .int .i64 i := by simpa using e2
  obtain rfl : c2 = .slice A len cap := by simpa using e3
  exact ⟨⟨d, i, A, len, cap, zs⟩, rfl, hr⟩
theorem open_steps {fuel : Nat} {cs : List Value} {x : DataW H × List MemPlace} (h : DataW.trod enc Try.prog w base (fun _ => true) held fuel 22 cs = some x) :
    ∃ A n cap l, cs = [.slice A n cap] ∧ StS w A n l ∧ n ≤ cap ∧ cap ≤ 9223372036854775807 := by
  rcases open_slice Try.underlying22 h with ⟨rfl, _⟩ | ⟨a, len, cap, m, n, D, Pl, rfl, _, hl, hm, hmm, _, hi⟩
  · exact ⟨none, 0, 0, [], rfl, ⟨rfl, (by simp), fun h => absurd h (by decide)⟩, Nat.le_refl _, by decide⟩
  · have key : ∀ i, ∃ t : Stp, i < len → IsRow .i64 w t.A t.len t.cap t.zs ∧ w.cell? (a.add (i * 3)) = some (.int .i64 t.d) ∧ w.cell? (a.add (i * 3 + 1)) = some (.int .i64 t.i) ∧ w.cell? (a.add (i * 3 + 2)) = some (.slice t.A t.len t.cap) := by
      intro i
      by_cases hil : i < len
      · obtain ⟨cs', hc, ht⟩ := hi i (by rw [hmm]; split <;> omega)
        simp only [cellsStep] at hc
        obtain ⟨_, _, hat⟩ := World.cells?_some hc
        obtain ⟨c, rfl, h1⟩ := open_step ht
        have a0 := hat 0 (by omega)
        have a1 := hat 1 (by omega)
        have a2 := hat 2 (by omega)
        rw [Go.Deep.add_add] at a0 a1 a2
        exact ⟨c, fun _ => ⟨h1, a0, a1, a2⟩⟩
      · exact ⟨⟨0, 0, none, 0, 0, []⟩, fun h => absurd h hil⟩
    obtain ⟨f, hf⟩ : ∃ f : Nat → Stp, ∀ i, i < len → IsRow .i64 w (f i).A (f i).len (f i).cap (f i).zs ∧ w.cell? (a.add (i * 3)) = some (.int .i64 (f i).d) ∧ w.cell? (a.add (i * 3 + 1)) = some (.int .i64 (f i).i) ∧ w.cell? (a.add (i * 3 + 2)) = some (.slice (f i).A (f i).len (f i).cap) :=
      ⟨fun i => Classical.choose (key i), fun i => Classical.choose_spec (key i)⟩
    refine ⟨some a, len, cap, (List.range len).map f, rfl, ⟨by simp, fun c hc => ?_, fun hp => ?_⟩, hl, by unfold maxLen at hm; omega⟩
    · obtain ⟨i, hi', rfl⟩ := List.mem_map.1 hc
      exact (hf i (List.mem_range.1 hi')).1
    · obtain ⟨b, o, sp⟩ := a
      have h0 := (hf 0 hp).2.1
      have hs : sp = none := by simpa [Addr.add] using World.cell?_spot h0
      subst hs
      refine ⟨b, o, rfl, ?_, fun j c hj => ?_⟩
      · exact lt_of_cell (w := w) (b := b) (o := o + 0 * 3) (by rw [← add_plain]; exact h0)
      · have hjl : j < len := by have := (List.getElem?_eq_some_iff.1 hj).1; simpa using this
        obtain rfl : f j = c := by simpa [hjl] using hj
        have h := (hf j hjl).2
        rw [add_plain, add_plain, add_plain] at h
        exact h
end
end Go.Proofs.Ytpdipcgchhibeaa
