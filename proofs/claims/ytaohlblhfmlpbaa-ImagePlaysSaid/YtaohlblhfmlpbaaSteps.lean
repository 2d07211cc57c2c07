/- A slice of steps, opened. -/
import Derived.Test.YtaohlblhfmlpbaaMoves
import Derived.Test.YtaohlblhfmlpbaaImg
import Derived.ChangeMaps5
import Derived.Deep.Matrix
namespace Go.Proofs.Ytaohlblhfmlpbaa
open Go.ChangeShapes Go.WideShapes Go.Deep Go.RowKit
/-- A step: what is done, its slice of bytes and what it reads as, its number. -/
structure Stp where
  d : Int
  A : Option Addr
  len : Nat
  cap : Nat
  xs : List UInt8
  n : Int
/-- What a step's parts keep to. -/
def Sok (w : World) (t : Stp) : Prop := SB w t.A t.len t.xs ∧ (t.A = none → t.cap = 0) ∧ t.len ≤ 9223372036854775807 ∧ t.n < 9223372036854775808
/-- The cells of a step. -/
def Sat (w : World) (b o : Nat) (t : Stp) : Prop := w.cell? ⟨b, o, none⟩ = some (.int .i64 t.d) ∧ w.cell? ⟨b, o + 1, none⟩ = some (.slice t.A t.len t.cap) ∧ w.cell? ⟨b, o + 2, none⟩ = some (.int .i64 t.n)
theorem Sat.below {w w' : World} {b o : Nat} {t : Stp} (h : Sat w b o t) (hb : Below w.heap.size w w') : Sat w' b o t :=
  have hl := lt_of_cell h.1
  ⟨(hb.cell (p := ⟨b, o, none⟩) hl).trans h.1, (hb.cell (p := ⟨b, o + 1, none⟩) hl).trans h.2.1, (hb.cell (p := ⟨b, o + 2, none⟩) hl).trans h.2.2⟩
/-- The steps that a slice holds. -/
def StS (w : World) (A : Option Addr) (n : Nat) (ts : List Stp) : Prop :=
  ts.length = n ∧ (∀ t ∈ ts, Sok w t) ∧ (0 < n → ∃ b o, A = some ⟨b, o, none⟩ ∧ ∀ j t, ts[j]? = some t → Sat w b (o + j * 3) t)
/-- One step in memory, in a world that has come of the first. -/
theorem StS.at {w w' : World} {A : Option Addr} {n : Nat} {ts : List Stp} (h : StS w A n ts) (hb : Below w.heap.size w w') {k : Nat} (hk : k < n) : ∃ b o t, A = some ⟨b, o, none⟩ ∧ Sok w t ∧ Sat w' b (o + k * 3) t := by
  obtain ⟨b, o, e, hc⟩ := h.2.2 (by omega)
  have hk' : k < ts.length := by rw [h.1]; exact hk
  have ht : ts[k]? = some ts[k] := List.getElem?_eq_getElem hk'
  exact ⟨b, o, _, e, h.2.1 _ (List.getElem_mem hk'), (hc k _ ht).below hb⟩
section
variable {H : Type} {enc : TypeId × Value → H} {w : World} {base : Nat} {held : Bool}
theorem cellsStep : Try.prog.cellsOf 25 = 3 := by kernel_rfl
theorem cellsInt : Try.prog.cellsOf 3 = 1 := by kernel_rfl
theorem cellsBs : Try.prog.cellsOf 23 = 1 := by kernel_rfl
theorem open_bytes {fuel : Nat} {cs : List Value} {x : DataW H × List MemPlace} (hf : DataW.trod enc Try.prog w base (fun _ => true) held fuel 23 cs = some x) : ∃ A len cap xs, cs = [.slice A len cap] ∧ SB w A len xs ∧ (A = none → cap = 0) ∧ len ≤ 9223372036854775807 := by
  rcases open_ints Try.underlying23 Try.underlying5 (by kernel_rfl) hf with ⟨hcs, _⟩ | ⟨x, l, c, zs, hcs, _, hl, hm, hz, _, hcell, hwz⟩
  · exact ⟨none, 0, 0, [], by simpa using hcs, SB.nil _ _, fun _ => rfl, by decide⟩
  · replace hz : zs.length = c := by simpa using hz
    refine ⟨some x, l, c, (zs.take l).map fun z => UInt8.ofNat z.toNat, by simpa using hcs, ⟨by rw [List.length_map, List.length_take]; omega, fun _ => ⟨x, rfl, fun i y hy => ?_⟩⟩, fun h => (by cases h), by unfold maxLen at hm; omega⟩
    rw [List.getElem?_map, List.getElem?_take] at hy
    split at hy
    · next hi =>
      have hiz : i < zs.length := by omega
      rw [List.getElem?_eq_getElem hiz] at hy
      cases hy
      obtain ⟨q, hq, hq2⟩ := u8_nat (hwz _ (List.getElem_mem hiz))
      rw [hcell i hiz, show zs.getD i 0 = zs[i] by simp [hiz], hq]
      show _ = some (Value.int .u8 (((UInt8.ofNat ((q : Int)).toNat).toNat : Nat) : Int))
      rw [Int.toNat_natCast, UInt8.toNat_ofNat', Nat.mod_eq_of_lt hq2]
    · cases hy
theorem i64_lt {x : Int} (h : (Lit.int .i64 x).wf = true) : x < 9223372036854775808 := by
  have h1 : IntKind.i64.min = -9223372036854775808 := rfl
  have h2 : IntKind.i64.max = 9223372036854775807 := rfl
  simp [Lit.wf, h1, h2] at h
  omega
theorem open_step {fuel : Nat} {cs : List Value} {x : DataW H × List MemPlace} (h : DataW.trod enc Try.prog w base (fun _ => true) held fuel 25 cs = some x) :
    ∃ t : Stp, cs = [.int .i64 t.d, .slice t.A t.len t.cap, .int .i64 t.n] ∧ Sok w t := by
  obtain ⟨ys, n', _, _, hlen, hyl, hf⟩ := DataW.trod_struct Try.underlying25 h
  replace hlen := hlen.trans cellsStep
  clear h
  replace hyl : ys.length = 3 := hyl
  obtain ⟨c0, c1, c2, rfl⟩ := three cs hlen
  obtain ⟨y0, y1, y2, rfl⟩ := three ys hyl
  have h0 := hf 0 _ rfl
  have h1 := hf 1 _ rfl
  have h2 := hf 2 _ rfl
  simp only [List.getElem_toArray, List.getElem_cons_zero, cellsInt] at h0
  simp only [List.getElem_toArray, List.getElem_cons_succ, List.getElem_cons_zero, cellsBs] at h1
  simp only [List.getElem_toArray, List.getElem_cons_succ, List.getElem_cons_zero, cellsInt] at h2
  obtain ⟨d, e1, _, _⟩ := DataW.trod_int Try.underlying3 h0
  obtain ⟨A, len, cap, xs, e2, hs, hA, hm⟩ := open_bytes h1
  obtain ⟨n, e3, _, w3⟩ := DataW.trod_int Try.underlying3 h2
  obtain rfl : c0 = .int .i64 d := by simpa using e1
  obtain rfl : c1 = .slice A len cap := by simpa using e2
  obtain rfl : c2 = .int .i64 n := by simpa using e3
  exact ⟨⟨d, A, len, cap, xs, n⟩, rfl, hs, hA, hm, i64_lt w3⟩
theorem open_steps {fuel : Nat} {cs : List Value} {x : DataW H × List MemPlace} (h : DataW.trod enc Try.prog w base (fun _ => true) held fuel 22 cs = some x) :
    ∃ A n cap l, cs = [.slice A n cap] ∧ StS w A n l ∧ n ≤ cap ∧ cap ≤ 9223372036854775807 := by
  rcases open_slice Try.underlying22 h with ⟨rfl, _⟩ | ⟨a, len, cap, m, n, D, Pl, rfl, _, hl, hm, hmm, _, hi⟩
  · exact ⟨none, 0, 0, [], rfl, ⟨rfl, (by simp), fun h => absurd h (by decide)⟩, Nat.le_refl _, by decide⟩
  · have key : ∀ i, ∃ t : Stp, i < len → Sok w t ∧ w.cell? (a.add (i * 3)) = some (.int .i64 t.d) ∧ w.cell? (a.add (i * 3 + 1)) = some (.slice t.A t.len t.cap) ∧ w.cell? (a.add (i * 3 + 2)) = some (.int .i64 t.n) := by
      intro i
      by_cases hil : i < len
      · obtain ⟨cs', hc, ht⟩ := hi i (by rw [hmm]; split <;> omega)
        simp only [cellsStep] at hc
        obtain ⟨_, _, hat⟩ := World.cells?_some hc
        obtain ⟨c, rfl, h1⟩ := open_step ht
        have a0 := hat 0 (by omega)
        have a1 := hat 1 (by omega)
        have a2 := hat 2 (by omega)
        rw [Go.Deep.add_add] at a0 a1 a2
        exact ⟨c, fun _ => ⟨h1, a0, a1, a2⟩⟩
      · exact ⟨⟨0, none, 0, 0, [], 0⟩, fun h => absurd h hil⟩
    obtain ⟨f, hf⟩ : ∃ f : Nat → Stp, ∀ i, i < len → Sok w (f i) ∧ w.cell? (a.add (i * 3)) = some (.int .i64 (f i).d) ∧ w.cell? (a.add (i * 3 + 1)) = some (.slice (f i).A (f i).len (f i).cap) ∧ w.cell? (a.add (i * 3 + 2)) = some (.int .i64 (f i).n) :=
      ⟨fun i => Classical.choose (key i), fun i => Classical.choose_spec (key i)⟩
    refine ⟨some a, len, cap, (List.range len).map f, rfl, ⟨by simp, fun c hc => ?_, fun hp => ?_⟩, hl, by unfold maxLen at hm; omega⟩
    · obtain ⟨i, hi', rfl⟩ := List.mem_map.1 hc
      exact (hf i (List.mem_range.1 hi')).1
    · obtain ⟨b, o, sp⟩ := a
      have h0 := (hf 0 hp).2.1
      have hs : sp = none := by simpa [Addr.add] using World.cell?_spot h0
      subst hs
      refine ⟨b, o, rfl, fun j c hj => ?_⟩
      have hjl : j < len := by have := (List.getElem?_eq_some_iff.1 hj).1; simpa using this
      obtain rfl : f j = c := by simpa [hjl] using hj
      have h := (hf j hjl).2
      rw [add_plain, add_plain, add_plain] at h
      exact h
end
end Go.Proofs.Ytaohlblhfmlpbaa
