/- A slice of moves, opened. -/
import Derived.Test.YtaohlblhfmlpbaaFrame
import Derived.Test.YtaohlblhfmlpbaaBase
import Derived.Deep.Slices
import Derived.Deep.Fields
import Derived.ChangeSame
namespace Go.Proofs.Ytaohlblhfmlpbaa
open Go.ChangeShapes Go.WideShapes Go.Deep Go.RowKit
/-- A move: its kind, its number, its first byte. -/
abbrev Mv : Type := Nat × Nat × Nat
/-- The three numbers are bytes. -/
def Mok (t : Mv) : Prop := t.1 < 256 ∧ t.2.1 < 256 ∧ t.2.2 < 256
/-- The cells of a move. -/
def Mat (w : World) (b o : Nat) (t : Mv) : Prop := w.cell? ⟨b, o, none⟩ = some (.int .u8 (t.1 : Nat)) ∧ w.cell? ⟨b, o + 1, none⟩ = some (.int .u8 (t.2.1 : Nat)) ∧ w.cell? ⟨b, o + 2, none⟩ = some (.int .u8 (t.2.2 : Nat))
theorem Mat.below {w w' : World} {b o : Nat} {t : Mv} (h : Mat w b o t) (hb : Below w.heap.size w w') : Mat w' b o t :=
  have hl := lt_of_cell h.1
  ⟨(hb.cell (p := ⟨b, o, none⟩) hl).trans h.1, (hb.cell (p := ⟨b, o + 1, none⟩) hl).trans h.2.1, (hb.cell (p := ⟨b, o + 2, none⟩) hl).trans h.2.2⟩
/-- The moves that a slice holds. -/
def MS (w : World) (A : Option Addr) (n : Nat) (ts : List Mv) : Prop :=
  ts.length = n ∧ (∀ t ∈ ts, Mok t) ∧ (0 < n → ∃ b o, A = some ⟨b, o, none⟩ ∧ ∀ j t, ts[j]? = some t → Mat w b (o + j * 3) t)
theorem MS.below {w w' : World} {A : Option Addr} {n : Nat} {ts : List Mv} (h : MS w A n ts) (hb : Below w.heap.size w w') : MS w' A n ts := by
  refine ⟨h.1, h.2.1, fun h0 => ?_⟩
  obtain ⟨b, o, e, hc⟩ := h.2.2 h0
  exact ⟨b, o, e, fun j t hj => (hc j t hj).below hb⟩
/-- One move in memory, in a world that has come of the first. -/
theorem MS.at {w w' : World} {A : Option Addr} {n : Nat} {ts : List Mv} (h : MS w A n ts) (hb : Below w.heap.size w w') {k : Nat} (hk : k < n) : ∃ b o t, A = some ⟨b, o, none⟩ ∧ ts[k]? = some t ∧ Mok t ∧ Mat w' b (o + k * 3) t := by
  obtain ⟨b, o, e, hc⟩ := h.2.2 (by omega)
  have hk' : k < ts.length := by rw [h.1]; exact hk
  have ht : ts[k]? = some ts[k] := List.getElem?_eq_getElem hk'
  exact ⟨b, o, _, e, ht, h.2.1 _ (List.getElem_mem hk'), (hc k _ ht).below hb⟩
section
variable {H : Type} {enc : TypeId × Value → H} {w : World} {base : Nat} {spare : Nat → Bool} {held : Bool}
theorem u8_nat {x : Int} (h : (Lit.int .u8 x).wf = true) : ∃ n : Nat, x = (n : Nat) ∧ n < 256 := by
  have h1 : IntKind.u8.min = 0 := rfl
  have h2 : IntKind.u8.max = 255 := rfl
  simp [Lit.wf, h1, h2] at h
  exact ⟨x.toNat, by omega, by omega⟩
theorem u16_nat {x : Int} (h : (Lit.int .u16 x).wf = true) : ∃ n : Nat, x = (n : Nat) ∧ n < 65536 := by
  have h1 : IntKind.u16.min = 0 := rfl
  have h2 : IntKind.u16.max = 65535 := rfl
  simp [Lit.wf, h1, h2] at h
  exact ⟨x.toNat, by omega, by omega⟩
theorem three {α : Type} : ∀ (l : List α), l.length = 3 → ∃ a b c, l = [a, b, c]
  | [a, b, c], _ => ⟨a, b, c, rfl⟩
theorem cellsM : Try.prog.cellsOf 64 = 3 := by kernel_rfl
theorem cellsU8 : Try.prog.cellsOf 5 = 1 := by kernel_rfl
theorem open_move {fuel : Nat} {cs : List Value} {x : DataW H × List MemPlace} (h : DataW.trod enc Try.prog w base spare held fuel 64 cs = some x) :
    ∃ t : Mv, cs = [.int .u8 (t.1 : Nat), .int .u8 (t.2.1 : Nat), .int .u8 (t.2.2 : Nat)] ∧ Mok t := by
  obtain ⟨ys, n', _, _, hlen, hyl, hf⟩ := DataW.trod_struct Try.underlying64 h
  replace hlen := hlen.trans cellsM
  clear h
  replace hyl : ys.length = 3 := hyl
  obtain ⟨c0, c1, c2, rfl⟩ := three cs hlen
  obtain ⟨y0, y1, y2, rfl⟩ := three ys hyl
  have h0 := hf 0 _ rfl
  have h1 := hf 1 _ rfl
  have h2 := hf 2 _ rfl
  simp only [List.getElem_toArray, List.getElem_cons_zero, cellsU8] at h0
  simp only [List.getElem_toArray, List.getElem_cons_succ, List.getElem_cons_zero, cellsU8] at h1 h2
  obtain ⟨k, e1, _, w1⟩ := DataW.trod_int Try.underlying5 h0
  obtain ⟨v, e2, _, w2⟩ := DataW.trod_int Try.underlying5 h1
  obtain ⟨u, e3, _, w3⟩ := DataW.trod_int Try.underlying5 h2
  obtain rfl : c0 = .int .u8 k := by simpa using e1
  obtain rfl : c1 = .int .u8 v := by simpa using e2
  obtain rfl : c2 = .int .u8 u := by simpa using e3
  obtain ⟨k, rfl, hk⟩ := u8_nat w1
  obtain ⟨v, rfl, hv⟩ := u8_nat w2
  obtain ⟨u, rfl, hu⟩ := u8_nat w3
  exact ⟨(k, v, u), rfl, hk, hv, hu⟩
theorem open_moves {fuel : Nat} {cs : List Value} {x : DataW H × List MemPlace} (h : DataW.trod enc Try.prog w base spare held fuel 40 cs = some x) :
    ∃ A n cap l, cs = [.slice A n cap] ∧ MS w A n l ∧ n ≤ cap ∧ cap ≤ 9223372036854775807 := by
  rcases open_slice Try.underlying40 h with ⟨rfl, _⟩ | ⟨a, len, cap, m, n, D, Pl, rfl, _, hl, hm, hmm, _, hi⟩
  · exact ⟨none, 0, 0, [], rfl, ⟨rfl, (by simp), fun h => absurd h (by decide)⟩, Nat.le_refl _, by decide⟩
  · have key : ∀ i, ∃ t : Mv, i < len → Mok t ∧ w.cell? (a.add (i * 3)) = some (.int .u8 (t.1 : Nat)) ∧ w.cell? (a.add (i * 3 + 1)) = some (.int .u8 (t.2.1 : Nat)) ∧ w.cell? (a.add (i * 3 + 2)) = some (.int .u8 (t.2.2 : Nat)) := by
      intro i
      by_cases hil : i < len
      · obtain ⟨cs', hc, ht⟩ := hi i (by rw [hmm]; split <;> omega)
        simp only [cellsM] at hc
        obtain ⟨_, _, hat⟩ := World.cells?_some hc
        obtain ⟨c, rfl, h1⟩ := open_move ht
        have a0 := hat 0 (by omega)
        have a1 := hat 1 (by omega)
        have a2 := hat 2 (by omega)
        rw [Go.Deep.add_add] at a0 a1 a2
        exact ⟨c, fun _ => ⟨h1, a0, a1, a2⟩⟩
      · exact ⟨(0, 0, 0), fun h => absurd h hil⟩
    obtain ⟨f, hf⟩ : ∃ f : Nat → Mv, ∀ i, i < len → Mok (f i) ∧ w.cell? (a.add (i * 3)) = some (.int .u8 ((f i).1 : Nat)) ∧ w.cell? (a.add (i * 3 + 1)) = some (.int .u8 ((f i).2.1 : Nat)) ∧ w.cell? (a.add (i * 3 + 2)) = some (.int .u8 ((f i).2.2 : Nat)) :=
      ⟨fun i => Classical.choose (key i), fun i => Classical.choose_spec (key i)⟩
    refine ⟨some a, len, cap, (List.range len).map f, rfl, ⟨by simp, fun c hc => ?_, fun hp => ?_⟩, hl, by unfold maxLen at hm; omega⟩
    · obtain ⟨i, hi', rfl⟩ := List.mem_map.1 hc
      exact (hf i (List.mem_range.1 hi')).1
    · obtain ⟨b, o, sp⟩ := a
      have h0 := (hf 0 hp).2.1
      have hs : sp = none := by simpa [Addr.add] using World.cell?_spot h0
      subst hs
      refine ⟨b, o, rfl, fun j c hj => ?_⟩
      have hjl : j < len := by have := (List.getElem?_eq_some_iff.1 hj).1; simpa using this
      obtain rfl : f j = c := by simpa [hjl] using hj
      have h := (hf j hjl).2
      rw [add_plain, add_plain, add_plain] at h
      exact h
end
end Go.Proofs.Ytaohlblhfmlpbaa
