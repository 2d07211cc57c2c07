/- What filled leaves, for the laws: a set, its row, the list of its slots. -/
import Derived.Test.YtpdipcgchhibeaaWorks
namespace Go.Proofs.Ytpdipcgchhibeaa
open Go.RowKit
theorem Fil.hold {w W : World} {P R n m : Nat} (h : Fil w W P R n m) : Hold w P n m W := ⟨h.set, h.hP, h.low⟩
theorem Fil.rows {w W : World} {P R n m : Nat} (h : Fil w W P R n m) : Row W R n m := h.row
theorem Row.left {W w' : World} {P R n m k n2 : Nat} (h : Row W R n m) (hL : Left W P n2 k w') (hne : R ≠ P) : Row w' R n m := (hL.2.block R (lt_of_heap h) hne).trans h
theorem slots_is {w : World} {R n m c : Nat} (h : Row w R n m) (hn : n ≤ 34) (hm : m < 2 ^ n) :
    Calls Try.prog 38 #[.slice (some ⟨R, 0, none⟩) n c] w fun e w' => ∃ A d, e = .returned (.slice A (sl m).length d) ∧ Hid (SL w' A (sl m) ∧ Below w.heap.size w w') := by
  refine (slots_any h hn hm).mono ?_
  rintro e w' ⟨v, rfl, g⟩
  obtain ⟨A, d, rfl, hS⟩ := owns_sl g.out.1
  exact ⟨A, d, rfl, hS, g.out.2⟩
theorem same_is {w w0 : World} {P n m : Nat} {A : Option Addr} {c : Nat} (h : Hold w0 P n m w) (hl : SL w A (sl m)) :
    Calls Try.prog 33 #[.pointer (some ⟨P, 0, none⟩), .slice A (sl m).length c] w fun e w' => e = .returned (.bool true) ∧ Below w.heap.size w w' := same_any h.shows hl rfl
theorem sl_len34 {w : World} {P n m : Nat} (h : SOwn w P n m) : (sl m).length ≤ 34 := Nat.le_trans (sl_len h.lt (Nat.le_trans h.le (by decide))) h.le
/-- The least slot of a list from f on. -/
def fnd (l : List Nat) (f : Int) : Option Nat := l.find? fun i => decide (f ≤ (i : Int))
theorem fnd_drop {l : List Nat} {j x : Nat} (h : l[j]? = some x) (f : Int) : fnd (l.drop j) f = if f ≤ (x : Int) then some x else fnd (l.drop (j + 1)) f := by
  obtain ⟨hj, hx⟩ := List.getElem?_eq_some_iff.1 h
  unfold fnd
  rw [List.drop_eq_getElem_cons hj, hx, List.find?_cons]
  by_cases e : f ≤ (x : Int) <;> simp [e]
theorem nok_zero (m : Nat) : nok m 0 = decide (0 < (sl m).length) := by
  unfold nok found
  cases h : sl m with
  | nil => rfl
  | cons x t => simp
theorem nxt_zero {m x : Nat} (h : (sl m)[0]? = some x) : nxt m 0 = x := by
  unfold nxt found
  cases h2 : sl m with
  | nil => rw [h2] at h; cases h
  | cons y t =>
    rw [h2] at h
    cases h
    simp
theorem SL.cell {w : World} {A : Option Addr} {l : List Nat} (h : SL w A l) (hp : 0 < l.length) : ∃ b, A = some ⟨b, 0, none⟩ ∧ ∀ (i x : Nat), l[i]? = some x → w.cell? ⟨b, i, none⟩ = some (.int .i64 (x : Nat)) := h hp
end Go.Proofs.Ytpdipcgchhibeaa
