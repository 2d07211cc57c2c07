/- Bytes of the call's own, written one by one. -/
import Derived.Test.YtcaodblmdaifjaaFrame
import Derived.Test.YtcaodblmdaifjaaApp
namespace Go.Proofs.Ytcaodblmdaifjaa
open Go.RowKit

theorem IsRow.none_len {k : IntKind} {w : World} {a : Option Addr} {len cap : Nat} {zs : List Int} (h : IsRow k w a len cap zs) : a = none → len = 0 ∧ cap = 0 := by
  rintro rfl
  rcases h with ⟨_, h1, h2, _⟩ | ⟨x, h, _⟩
  · exact ⟨h1, h2⟩
  · cases h
theorem csum_lt {l : List Nat} (h : ∀ z ∈ l, z < 256) : csum l < 4294967296 := cupd_lt (by decide) h

/-- The first n bytes of block g, which may be written. -/
def OwnB (w : World) (g n : Nat) (l : List Nat) : Prop :=
  l.length = n ∧ (∀ z ∈ l, z < 256) ∧ ∀ i, i < n → w.cell? ⟨g, i, none⟩ = some (.int .u8 (l.getD i 0 : Nat)) ∧ w.frozen? ⟨g, i, none⟩ = false
theorem OwnB.bn {w : World} {g n : Nat} {l : List Nat} (h : OwnB w g n l) : BN w (some ⟨g, 0, none⟩) n l :=
  ⟨h.1, h.2.1, fun _ => ⟨g, 0, rfl, fun i hi => by rw [Nat.zero_add]; exact (h.2.2 i hi).1⟩⟩
theorem OwnB.store {w : World} {g n : Nat} {l : List Nat} (h : OwnB w g n l) {i z : Nat} (hi : i < n) (hz : z < 256) : OwnB (w.setCell ⟨g, i, none⟩ (.int .u8 (z : Nat))) g n (l.set i z) := by
  refine ⟨by rw [List.length_set]; exact h.1, fun y hy => ?_, fun j hj => ⟨?_, ?_⟩⟩
  · rcases List.mem_or_eq_of_mem_set hy with hy | rfl
    · exact h.2.1 y hy
    · exact hz
  · by_cases hji : i = j
    · subst hji
      rw [World.cell?_setCell_same (h := (h.2.2 i hi).1)]
      have : i < l.length := by have := h.1; omega
      simp [this]
    · rw [World.cell?_setCell_other (h := by intro e; injection e with _ e2 _; exact hji e2), (h.2.2 j hj).1]
      simp [hji]
  · rw [World.frozen?_setCell]; exact (h.2.2 j hj).2
theorem OwnB.drew {w : World} {g n : Nat} {l : List Nat} (h : OwnB w g n l) : OwnB w.drew g n l := h
theorem OwnB.zeros (w : World) (m : Nat) : OwnB (w.alloc (.cells (byteZeros m) 5)) w.heap.size m (List.replicate m 0) := by
  obtain ⟨h1, h2, h3⟩ := zeros_bn w m
  refine ⟨h1, h2, fun i hi => ⟨?_, frozen_of_row _ _ i _ 5 (heap_alloc_new _ _)⟩⟩
  obtain ⟨b, o, e, hc⟩ := h3 (by omega)
  obtain ⟨rfl, rfl⟩ : w.heap.size = b ∧ 0 = o := by simpa using e
  have := hc i hi
  rwa [Nat.zero_add] at this
theorem BN.take {w : World} {A : Option Addr} {n m : Nat} {l : List Nat} (h : BN w A n l) (hm : m ≤ n) : BN w A m (l.take m) := by
  refine ⟨by rw [List.length_take, h.1]; omega, take_lt h.2.1 m, fun hp => ?_⟩
  obtain ⟨b, o, rfl, hc⟩ := h.2.2 (by omega)
  refine ⟨b, o, rfl, fun i hi => ?_⟩
  rw [hc i (by omega)]
  simp [hi]
theorem BN.cell {w : World} {A : Option Addr} {n : Nat} {l : List Nat} (h : BN w A n l) (hp : 0 < n) : ∃ b o, A = some ⟨b, o, none⟩ ∧ b < w.heap.size ∧ ∀ i, i < n → w.cell? ⟨b, o + i, none⟩ = some (.int .u8 (l.getD i 0 : Nat)) := by
  obtain ⟨b, o, rfl, hc⟩ := h.2.2 hp
  exact ⟨b, o, rfl, lt_of_cell (hc 0 hp), hc⟩
end Go.Proofs.Ytcaodblmdaifjaa
