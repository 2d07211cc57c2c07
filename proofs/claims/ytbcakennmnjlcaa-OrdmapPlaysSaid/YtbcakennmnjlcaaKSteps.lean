/- A slice of steps, opened. -/
import Derived.Test.YtbcakennmnjlcaaRefNew
import Derived.Deep.Slices
import Derived.Deep.Fields
import Derived.ChangeSame
namespace Go.Proofs.Ytbcakennmnjlcaa
open Go.ChangeShapes Go.WideShapes Go.Deep Go.RowKit
theorem u8_nat {x : Int} (h : (Lit.int .u8 x).wf = true) : ∃ n : Nat, x = (n : Nat) ∧ n < 256 := by
  have h1 : IntKind.u8.min = 0 := rfl
  have h2 : IntKind.u8.max = 255 := rfl
  simp [Lit.wf, h1, h2] at h
  exact ⟨x.toNat, by omega, by omega⟩
/-- A step: what is done, its key, its value. -/
abbrev Ks : Type := Nat × ByteArray × ByteArray
/-- The steps that a slice holds. -/
def KsS (w : World) (A : Option Addr) (n : Nat) (ts : List Ks) : Prop :=
  ts.length = n ∧ (∀ t ∈ ts, t.1 < 256) ∧
  (0 < n → ∃ b o, A = some ⟨b, o, none⟩ ∧ b < w.heap.size ∧ ∀ j t, ts[j]? = some t → w.cell? ⟨b, o + j * 3, none⟩ = some (.int .u8 (t.1 : Nat)) ∧ w.cell? ⟨b, o + j * 3 + 1, none⟩ = some (.string t.2.1) ∧ w.cell? ⟨b, o + j * 3 + 2, none⟩ = some (.string t.2.2))
/-- One step in memory, in a world that has come of the first. -/
theorem KsS.at {w w' : World} {A : Option Addr} {n : Nat} {ts : List Ks} (h : KsS w A n ts) (hb : Below w.heap.size w w') {k : Nat} (hk : k < n) : ∃ (b o : Nat) (t : Ks), A = some ⟨b, o, none⟩ ∧ t.1 < 256 ∧ w'.cell? ⟨b, o + k * 3, none⟩ = some (.int .u8 (t.1 : Nat)) ∧ w'.cell? ⟨b, o + k * 3 + 1, none⟩ = some (.string t.2.1) ∧ w'.cell? ⟨b, o + k * 3 + 2, none⟩ = some (.string t.2.2) := by
  obtain ⟨b, o, e, hl, hc⟩ := h.2.2 (by omega)
  have hk' : k < ts.length := by rw [h.1]; exact hk
  have ht : ts[k]? = some ts[k] := List.getElem?_eq_getElem hk'
  obtain ⟨h1, h2, h4⟩ := hc k _ ht
  have h3 := h.2.1 _ (List.getElem_mem hk')
  exact ⟨b, o, _, e, h3, (hb.cell (p := ⟨b, o + k * 3, none⟩) hl).trans h1, (hb.cell (p := ⟨b, o + k * 3 + 1, none⟩) hl).trans h2, (hb.cell (p := ⟨b, o + k * 3 + 2, none⟩) hl).trans h4⟩
section
variable {H : Type} {enc : TypeId × Value → H} {w : World} {base : Nat} {spare : Nat → Bool} {held : Bool}
theorem three {α : Type} : ∀ (l : List α), l.length = 3 → ∃ a b c, l = [a, b, c]
  | [a, b, c], _ => ⟨a, b, c, rfl⟩
theorem cellsDo : Try.prog.cellsOf 29 = 3 := by kernel_rfl
theorem cellsU8 : Try.prog.cellsOf 5 = 1 := by kernel_rfl
theorem cellsStr : Try.prog.cellsOf 9 = 1 := by kernel_rfl
theorem open_ks {fuel : Nat} {cs : List Value} {x : DataW H × List MemPlace} (h : DataW.trod enc Try.prog w base spare held fuel 29 cs = some x) :
    ∃ t : Ks, cs = [.int .u8 (t.1 : Nat), .string t.2.1, .string t.2.2] ∧ t.1 < 256 := by
  obtain ⟨ys, n', _, _, hlen, hyl, hf⟩ := DataW.trod_struct Try.underlying29 h
  replace hlen := hlen.trans cellsDo
  clear h
  replace hyl : ys.length = 3 := hyl
  obtain ⟨c0, c1, c2, rfl⟩ := three cs hlen
  obtain ⟨y0, y1, y2, rfl⟩ := three ys hyl
  have h0 := hf 0 _ rfl
  have h1 := hf 1 _ rfl
  have h2 := hf 2 _ rfl
  simp only [List.getElem_toArray, List.getElem_cons_zero, cellsU8] at h0
  simp only [List.getElem_toArray, List.getElem_cons_succ, List.getElem_cons_zero, cellsStr] at h1
  simp only [List.getElem_toArray, List.getElem_cons_succ, List.getElem_cons_zero, cellsStr] at h2
  obtain ⟨k, e1, _, w1⟩ := DataW.trod_int Try.underlying5 h0
  obtain ⟨v, e2, _, _⟩ := DataW.trod_string Try.underlying9 h1
  obtain ⟨n, e3, _, _⟩ := DataW.trod_string Try.underlying9 h2
  obtain rfl : c0 = .int .u8 k := by simpa using e1
  obtain rfl : c1 = .string v := by simpa using e2
  obtain rfl : c2 = .string n := by simpa using e3
  obtain ⟨k, rfl, hk⟩ := u8_nat w1
  exact ⟨(k, v, n), rfl, hk⟩
theorem open_kss {fuel : Nat} {cs : List Value} {x : DataW H × List MemPlace} (h : DataW.trod enc Try.prog w base spare held fuel 22 cs = some x) :
    ∃ A n cap l, cs = [.slice A n cap] ∧ KsS w A n l ∧ n ≤ cap ∧ cap ≤ 9223372036854775807 := by
  rcases open_slice Try.underlying22 h with ⟨rfl, _⟩ | ⟨a, len, cap, m, n, D, Pl, rfl, _, hl, hm, hmm, _, hi⟩
  · exact ⟨none, 0, 0, [], rfl, ⟨rfl, (by simp), fun h => absurd h (by decide)⟩, Nat.le_refl _, by decide⟩
  · have key : ∀ i, ∃ t : Ks, i < len → t.1 < 256 ∧ w.cell? (a.add (i * 3)) = some (.int .u8 (t.1 : Nat)) ∧ w.cell? (a.add (i * 3 + 1)) = some (.string t.2.1) ∧ w.cell? (a.add (i * 3 + 2)) = some (.string t.2.2) := by
      intro i
      by_cases hil : i < len
      · obtain ⟨cs', hc, ht⟩ := hi i (by rw [hmm]; split <;> omega)
        simp only [cellsDo] at hc
        obtain ⟨_, _, hat⟩ := World.cells?_some hc
        obtain ⟨c, rfl, h1⟩ := open_ks ht
        have a0 := hat 0 (by omega)
        have a1 := hat 1 (by omega)
        have a2 := hat 2 (by omega)
        rw [Go.Deep.add_add] at a0 a1 a2
        exact ⟨c, fun _ => ⟨h1, a0, a1, a2⟩⟩
      · exact ⟨(0, ⟨#[]⟩, ⟨#[]⟩), fun h => absurd h hil⟩
    obtain ⟨f, hf⟩ : ∃ f : Nat → Ks, ∀ i, i < len → (f i).1 < 256 ∧ w.cell? (a.add (i * 3)) = some (.int .u8 ((f i).1 : Nat)) ∧ w.cell? (a.add (i * 3 + 1)) = some (.string (f i).2.1) ∧ w.cell? (a.add (i * 3 + 2)) = some (.string (f i).2.2) :=
      ⟨fun i => Classical.choose (key i), fun i => Classical.choose_spec (key i)⟩
    refine ⟨some a, len, cap, (List.range len).map f, rfl, ⟨by simp, fun c hc => ?_, fun hp => ?_⟩, hl, by unfold maxLen at hm; omega⟩
    · obtain ⟨i, hi', rfl⟩ := List.mem_map.1 hc
      exact (hf i (List.mem_range.1 hi')).1
    · obtain ⟨b, o, sp⟩ := a
      have h0 := (hf 0 hp).2.1
      have hs : sp = none := by simpa [Addr.add] using World.cell?_spot h0
      subst hs
      refine ⟨b, o, rfl, ?_, fun j c hj => ?_⟩
      · exact lt_of_cell (w := w) (b := b) (o := o + 0 * 3) (by rw [← add_plain]; exact h0)
      · have hjl : j < len := by have := (List.getElem?_eq_some_iff.1 hj).1; simpa using this
        obtain rfl : f j = c := by simpa [hjl] using hj
        have h := (hf j hjl).2
        rw [add_plain, add_plain, add_plain] at h
        exact h
end
end Go.Proofs.Ytbcakennmnjlcaa
