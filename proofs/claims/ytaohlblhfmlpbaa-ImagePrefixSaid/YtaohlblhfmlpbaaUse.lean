/- What filled leaves, for the laws. -/
import Derived.Test.YtaohlblhfmlpbaaFilled
import Derived.Test.YtaohlblhfmlpbaaWorks
namespace Go.Proofs.Ytaohlblhfmlpbaa
open Go.RowKit
theorem SB.take {w : World} {A : Option Addr} {n : Nat} {l : List E} (h : SB w A n l) {r : Nat} (hr : r ≤ n) : SB w A r (l.take r) := by
  refine ⟨by rw [List.length_take, h.1]; omega, fun hp => ?_⟩
  obtain ⟨b, hA, hc⟩ := h.2 (by omega)
  refine ⟨b, hA, fun i x hx => hc i x ?_⟩
  rw [List.getElem?_take] at hx
  split at hx
  · exact hx
  · cases hx
section
variable {w : World} {B : Nat} {A : Option Addr} {n c : Nat} {l : List E}
theorem sb_of (h : w.ownsRow B 5 1 (.slice A n c) n (vs l)) : SB w A n l := by
  have hl : l.length = n := by have := h.1; rw [length_vs] at this; omega
  subst hl
  obtain ⟨A', c', e, _, _, _, hs, _⟩ := owns_sl h
  cases e
  exact hs
theorem cap_of (h : w.ownsRow B 5 1 (.slice A n c) n (vs l)) : n ≤ c ∧ (A = none → c = 0) := by
  have hl : l.length = n := by have := h.1; rw [length_vs] at this; omega
  subst hl
  obtain ⟨A', c', e, h0, h1, _⟩ := owns_sl h
  cases e
  exact ⟨h1, fun e => (h0 e).2⟩
end
theorem slice_to (A : Option Addr) (n c r : Nat) (h : r ≤ c) (w' : World) : (Instr.slice 23 (.slice A n c) none (some (.int .i64 (r : Int))) none).run Try.prog w' = .ok (.slice A r c) w' := by
  cases A <;> simp [Instr.slice, run_underlying Try.underlying23, Instr.sliceBounds, Instr.sliceBound, asIntOf, h, Addr.add]
theorem wrap_u16 {n : Nat} (h : n < 65536) : wrap64 (n : Int) = (n : Nat) := by unfold wrap64; omega
end Go.Proofs.Ytaohlblhfmlpbaa
