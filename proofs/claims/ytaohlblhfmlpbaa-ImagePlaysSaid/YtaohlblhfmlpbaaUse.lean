/- What filled leaves, for the laws. -/
import Derived.Test.YtaohlblhfmlpbaaFilled
import Derived.Test.YtaohlblhfmlpbaaWorks
namespace Go.Proofs.Ytaohlblhfmlpbaa
open Go.RowKit
theorem SB.take {w : World} {A : Option Addr} {n : Nat} {l : List E} (h : SB w A n l) {r : Nat} (hr : r ≤ n) : SB w A r (l.take r) := by
  refine ⟨by rw [List.length_take, h.1]; omega, fun hp => ?_⟩
  obtain ⟨b, hA, hc⟩ := h.2 (by omega)
  refine ⟨b, hA, fun i x hx => hc i x ?_⟩
  rw [List.getElem?_take] at hx
  split at hx
  · exact hx
  · cases hx
section
variable {w : World} {B : Nat} {A : Option Addr} {n c : Nat} {l : List E}
theorem sb_of (h : w.ownsRow B 5 1 (.slice A n c) n (vs l)) : SB w A n l := by
  have hl : l.length = n := by have := h.1; rw [length_vs] at this; omega
  subst hl
  obtain ⟨A', c', e, _, _, _, hs, _⟩ := owns_sl h
  cases e
  exact hs
theorem cap_of (h : w.ownsRow B 5 1 (.slice A n c) n (vs l)) : n ≤ c ∧ (A = none → c = 0) := by
  have hl : l.length = n := by have := h.1; rw [length_vs] at this; omega
  subst hl
  obtain ⟨A', c', e, h0, h1, _⟩ := owns_sl h
  cases e
  exact ⟨h1, fun e => (h0 e).2⟩
end
/-- 'append(s, x...)', also behind '&&' or '||': s the call's own, x a slice of bytes that is not nil. -/
theorem app_own {ops : Array Oper} {rest : List Oper} {o : Oper} {a : Act} {Q : Exit → Act → World → Prop} (w : World) (hw : Region.wanted o (yielded ops a.tmps) = true) (s x : Operand)
    (ho : o.op = .call { callee := .builtin .append, args := #[s, x], argTypes := #[23, 23] }) (base : Nat)
    (v : Value) (n : Nat) (l : List E) (hs : a.eval s = v) (hown : w.ownsRow base 5 1 v n (vs l))
    (ad : Addr) (m c : Nat) (l' : List E) (hx : a.eval x = .slice (some ad) m c) (hsb : SB w (some ad) m l') (hN : n + m ≤ 100000) (hbase : base ≤ w.heap.size)
    (h : ∀ v' w', w'.ownsRow base 5 1 v' (n + m) (vs (l ++ l')) → w.grownBy w' v.ownBlock → (v'.ownBlock = v.ownBlock ∨ v'.ownBlock = some w.heap.size) → wpList Try.prog ops Q rest (a.put o.dst v') w') : wpList Try.prog ops Q (o :: rest) a w := by
  obtain ⟨i0, hinf, hz0, hz1, hz2⟩ := info_parts infoE
  have hsrc : ∀ (j : Nat) u, (vs l')[j]? = some u → w.cell? (ad.add j) = some u := fun j u hj => by
    obtain ⟨x, hx, rfl⟩ := vs_at hj
    have hlt : j < m := by rw [← hsb.1]; exact (List.getElem?_eq_some_iff.1 hx).1
    obtain ⟨a', e, hc'⟩ := hsb.2 (by omega)
    cases e
    exact hc' j x hx
  refine wpList_step fun K hK => ?_
  rw [if_pos hw]
  obtain ⟨v', w', hr, h2, h3, _, h5⟩ := run_append_own_at (P := Try.prog) w base 23 o.type 5 i0 _ 1 1 Try.underlying23 hinf hz0 hz1 hz2 rfl (by decide) v n (vs l) hown ad m c (vs l') (by rw [length_vs, hsb.1, Nat.mul_one]) hsrc (vs_one l') (by unfold maxLen; omega) (by omega) hbase
  unfold Oper.wp execOp
  simp only [ho, resolve, invoke, builtin, Sem.run_bind, Sem.run_pure, Result.andThen_ok, List.map_toArray, List.map_cons, List.map_nil, hs, hx, hr]
  exact hK _ _ (h v' w' (by rw [vs_append]; exact h2) h3 h5)
theorem slice_to (A : Option Addr) (n c r : Nat) (h : r ≤ c) (w' : World) : (Instr.slice 23 (.slice A n c) none (some (.int .i64 (r : Int))) none).run Try.prog w' = .ok (.slice A r c) w' := by
  cases A <;> simp [Instr.slice, run_underlying Try.underlying23, Instr.sliceBounds, Instr.sliceBound, asIntOf, h, Addr.add]
theorem wrap_u16 {n : Nat} (h : n < 65536) : wrap64 (n : Int) = (n : Nat) := by unfold wrap64; omega
end Go.Proofs.Ytaohlblhfmlpbaa
