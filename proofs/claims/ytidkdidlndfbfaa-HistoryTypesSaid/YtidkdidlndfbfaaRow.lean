/- A slice of numbers of 16 bits, opened. -/
import Derived.Test.YtidkdidlndfbfaaMoves
namespace Go.Proofs.Ytidkdidlndfbfaa
open Go.RowKit
/-- A slice of integers that came in: nil, or a row of cells. -/
def IsRow (k : IntKind) (w : World) (a : Option Addr) (len cap : Nat) (zs : List Int) : Prop :=
  (a = none ∧ len = 0 ∧ cap = 0 ∧ zs = []) ∨
  ∃ x, a = some x ∧ len ≤ cap ∧ cap ≤ maxLen ∧ zs.length = cap ∧ (∀ i, i < zs.length → w.cell? (x.add i) = some (.int k (zs.getD i 0))) ∧ ∀ n ∈ zs, (Lit.int k n).wf = true
theorem IsRow.len {k : IntKind} {w : World} {a : Option Addr} {len cap : Nat} {zs : List Int} (h : IsRow k w a len cap zs) : len ≤ cap ∧ cap ≤ 9223372036854775807 := by
  rcases h with ⟨_, rfl, rfl, _⟩ | ⟨x, _, hl, hm, _⟩
  · omega
  · unfold maxLen at hm; omega
/-- One number in memory, in a world that has come of the first. -/
theorem IsRow.at16 {w w' : World} {a : Option Addr} {len cap : Nat} {zs : List Int} (h : IsRow .u16 w a len cap zs) (hb : Below w.heap.size w w') {k : Nat} (hk : k < len) : ∃ (b o n : Nat), a = some ⟨b, o, none⟩ ∧ zs[k]? = some (n : Int) ∧ n < 65536 ∧ w'.cell? ⟨b, o + k, none⟩ = some (.int .u16 (n : Nat)) := by
  rcases h with ⟨rfl, rfl, _⟩ | ⟨x, rfl, hl, _, hz, hc, hw⟩
  · omega
  · have hkz : k < zs.length := by omega
    have h1 := hc k hkz
    obtain ⟨b, o, sp⟩ := x
    have h0 := hc 0 (by omega)
    have hs : sp = none := by simpa [Addr.add] using World.cell?_spot h0
    subst hs
    rw [add_plain] at h1
    have e : zs.getD k 0 = zs[k] := by simp [hkz]
    obtain ⟨n, hn, hlt⟩ := u16_nat (hw _ (List.getElem_mem hkz))
    rw [e, hn] at h1
    exact ⟨b, o, n, rfl, by rw [List.getElem?_eq_getElem hkz, hn], hlt, (hb.cell (p := ⟨b, o + k, none⟩) (lt_of_cell h1)).trans h1⟩
end Go.Proofs.Ytidkdidlndfbfaa
