/- A slice of turns, opened. -/
import Derived.Test.YtfpolnokdebncaaFrame
import Derived.Test.YtfpolnokdebncaaQTBy
import Derived.Deep.Slices
import Derived.Deep.Fields
import Derived.ChangeSame
namespace Go.Proofs.Ytfpolnokdebncaa
open Go.ChangeShapes Go.WideShapes Go.Deep Go.RowKit
/-- A turn: dropped, its id, its priority. -/
abbrev Tu : Type := Bool × Nat × Nat
/-- The turns that a slice holds. -/
def TS (w : World) (A : Option Addr) (n : Nat) (ts : List Tu) : Prop :=
  ts.length = n ∧ (∀ t ∈ ts, t.2.1 < 256 ∧ t.2.2 < 256) ∧
  (0 < n → ∃ b o, A = some ⟨b, o, none⟩ ∧ b < w.heap.size ∧ ∀ j t, ts[j]? = some t → w.cell? ⟨b, o + j * 3, none⟩ = some (.bool t.1) ∧ w.cell? ⟨b, o + j * 3 + 1, none⟩ = some (.int .u8 (t.2.1 : Nat)) ∧ w.cell? ⟨b, o + j * 3 + 1 + 1, none⟩ = some (.int .u8 (t.2.2 : Nat)))
theorem TS.below {w w' : World} {A : Option Addr} {n : Nat} {ts : List Tu} (h : TS w A n ts) (hb : Below w.heap.size w w') : TS w' A n ts := by
  refine ⟨h.1, h.2.1, fun h0 => ?_⟩
  obtain ⟨b, o, e, hl, hc⟩ := h.2.2 h0
  refine ⟨b, o, e, Nat.lt_of_lt_of_le hl hb.size, fun j t hj => ?_⟩
  obtain ⟨h1, h2, h3⟩ := hc j t hj
  exact ⟨(hb.cell (p := ⟨b, o + j * 3, none⟩) hl).trans h1, (hb.cell (p := ⟨b, o + j * 3 + 1, none⟩) hl).trans h2, (hb.cell (p := ⟨b, o + j * 3 + 1 + 1, none⟩) hl).trans h3⟩
section
variable {H : Type} {enc : TypeId × Value → H} {w : World} {base : Nat} {spare : Nat → Bool} {held : Bool}
theorem u8_nat {x : Int} (h : (Lit.int .u8 x).wf = true) : ∃ n : Nat, x = (n : Nat) ∧ n < 256 := by
  have h1 : IntKind.u8.min = 0 := rfl
  have h2 : IntKind.u8.max = 255 := rfl
  simp [Lit.wf, h1, h2] at h
  exact ⟨x.toNat, by omega, by omega⟩
theorem three {α : Type} : ∀ (l : List α), l.length = 3 → ∃ a b c, l = [a, b, c]
  | [a, b, c], _ => ⟨a, b, c, rfl⟩
theorem cellsT : Try.prog.cellsOf 109 = 3 := by kernel_rfl
theorem cellsB : Try.prog.cellsOf 4 = 1 := by kernel_rfl
theorem cellsU : Try.prog.cellsOf 5 = 1 := by kernel_rfl
theorem open_turn {fuel : Nat} {cs : List Value} {x : DataW H × List MemPlace} (h : DataW.trod enc Try.prog w base spare held fuel 109 cs = some x) :
    ∃ t : Tu, cs = [.bool t.1, .int .u8 (t.2.1 : Nat), .int .u8 (t.2.2 : Nat)] ∧ t.2.1 < 256 ∧ t.2.2 < 256 := by
  obtain ⟨ys, n', _, _, hlen, hyl, hf⟩ := DataW.trod_struct Try.underlying109 h
  replace hlen := hlen.trans cellsT
  clear h
  replace hyl : ys.length = 3 := hyl
  obtain ⟨c0, c1, c2, rfl⟩ := three cs hlen
  obtain ⟨y0, y1, y2, rfl⟩ := three ys hyl
  have h0 := hf 0 _ rfl
  have h1 := hf 1 _ rfl
  have h2 := hf 2 _ rfl
  simp only [List.getElem_toArray, List.getElem_cons_zero, cellsB] at h0
  simp only [List.getElem_toArray, List.getElem_cons_succ, List.getElem_cons_zero, cellsU] at h1 h2
  obtain ⟨d, e0, _⟩ := DataW.trod_bool Try.underlying4 h0
  obtain ⟨k, e1, _, w1⟩ := DataW.trod_int Try.underlying5 h1
  obtain ⟨v, e2, _, w2⟩ := DataW.trod_int Try.underlying5 h2
  obtain rfl : c0 = .bool d := by simpa using e0
  obtain rfl : c1 = .int .u8 k := by simpa using e1
  obtain rfl : c2 = .int .u8 v := by simpa using e2
  obtain ⟨k, rfl, hk⟩ := u8_nat w1
  obtain ⟨v, rfl, hv⟩ := u8_nat w2
  exact ⟨(d, k, v), rfl, hk, hv⟩
theorem open_turns {fuel : Nat} {cs : List Value} {x : DataW H × List MemPlace} (h : DataW.trod enc Try.prog w base spare held fuel 57 cs = some x) :
    ∃ A n cap l, cs = [.slice A n cap] ∧ TS w A n l ∧ n ≤ cap ∧ cap ≤ 9223372036854775807 := by
  rcases open_slice Try.underlying57 h with ⟨rfl, _⟩ | ⟨a, len, cap, m, n, D, Pl, rfl, _, hl, hm, hmm, _, hi⟩
  · exact ⟨none, 0, 0, [], rfl, ⟨rfl, (by simp), fun h => absurd h (by decide)⟩, Nat.le_refl _, by decide⟩
  · have key : ∀ i, ∃ t : Tu, i < len → (t.2.1 < 256 ∧ t.2.2 < 256) ∧ w.cell? (a.add (i * 3)) = some (.bool t.1) ∧ w.cell? (a.add (i * 3 + 1)) = some (.int .u8 (t.2.1 : Nat)) ∧ w.cell? (a.add (i * 3 + 1 + 1)) = some (.int .u8 (t.2.2 : Nat)) := by
      intro i
      by_cases hil : i < len
      · obtain ⟨cs', hc, ht⟩ := hi i (by rw [hmm]; split <;> omega)
        simp only [cellsT] at hc
        obtain ⟨_, _, hat⟩ := World.cells?_some hc
        obtain ⟨c, rfl, h1, h2⟩ := open_turn ht
        have a0 := hat 0 (by omega)
        have a1 := hat 1 (by omega)
        have a2 := hat 2 (by omega)
        rw [Go.Deep.add_add] at a0 a1 a2
        exact ⟨c, fun _ => ⟨⟨h1, h2⟩, a0, a1, a2⟩⟩
      · exact ⟨(false, 0, 0), fun h => absurd h hil⟩
    obtain ⟨f, hf⟩ : ∃ f : Nat → Tu, ∀ i, i < len → ((f i).2.1 < 256 ∧ (f i).2.2 < 256) ∧ w.cell? (a.add (i * 3)) = some (.bool (f i).1) ∧ w.cell? (a.add (i * 3 + 1)) = some (.int .u8 ((f i).2.1 : Nat)) ∧ w.cell? (a.add (i * 3 + 1 + 1)) = some (.int .u8 ((f i).2.2 : Nat)) :=
      ⟨fun i => Classical.choose (key i), fun i => Classical.choose_spec (key i)⟩
    refine ⟨some a, len, cap, (List.range len).map f, rfl, ⟨by simp, fun c hc => ?_, fun hp => ?_⟩, hl, by unfold maxLen at hm; omega⟩
    · obtain ⟨i, hi', rfl⟩ := List.mem_map.1 hc
      exact (hf i (List.mem_range.1 hi')).1
    · obtain ⟨b, o, sp⟩ := a
      have h0 := (hf 0 hp).2.1
      have hs : sp = none := by simpa [Addr.add] using World.cell?_spot h0
      subst hs
      refine ⟨b, o, rfl, ?_, fun j c hj => ?_⟩
      · exact QT.lt_of_cell (w := w) (b := b) (o := o + 0 * 3) (by rw [← QT.add_plain]; exact h0)
      · have hjl : j < len := by have := (List.getElem?_eq_some_iff.1 hj).1; simpa using this
        obtain rfl : f j = c := by simpa [hjl] using hj
        have h := (hf j hjl).2
        rw [QT.add_plain, QT.add_plain, QT.add_plain] at h
        exact h
end
end Go.Proofs.Ytfpolnokdebncaa
