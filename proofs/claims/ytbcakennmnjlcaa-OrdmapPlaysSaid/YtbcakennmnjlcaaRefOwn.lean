/- Rows of strings that a call owns: append onto them; the reference's map as its own memory. -/
import Derived.Test.YtbcakennmnjlcaaRefRead
import Derived.Maps.AppendAt
import Derived.Laws.AppendOwn
import Derived.Laws.OwnMore
import Derived.OwnWalk
namespace Go.Proofs.Ytbcakennmnjlcaa
open Go.RowKit

/-- Strings as values. -/
def sv (l : List ByteArray) : List Value := l.map Value.string
theorem sv_append (a b : List ByteArray) : sv (a ++ b) = sv a ++ sv b := List.map_append
theorem length_sv (l : List ByteArray) : (sv l).length = l.length := List.length_map ..
theorem sv_get (l : List ByteArray) {i : Nat} {v : Value} (h : (sv l)[i]? = some v) : i < l.length ∧ v = .string (l.getD i ⟨#[]⟩) := by
  unfold sv at h
  rw [List.getElem?_map] at h
  rcases Nat.lt_or_ge i l.length with hi | hi
  · rw [List.getElem?_eq_getElem hi] at h
    simp at h
    exact ⟨hi, by rw [← h]; simp [hi]⟩
  · rw [List.getElem?_eq_none hi] at h
    simp at h
theorem sv_some (l : List ByteArray) {i : Nat} (h : i < l.length) : (sv l)[i]? = some (.string (l.getD i ⟨#[]⟩)) := by
  unfold sv
  rw [List.getElem?_map, List.getElem?_eq_getElem h]
  simp [h]
theorem sv_one (l : List ByteArray) : ∀ v ∈ sv l, v.oneCell' = true := fun v h => by
  obtain ⟨z, _, rfl⟩ := List.mem_map.1 h
  rfl
theorem add_plain (b o j : Nat) : (⟨b, o, none⟩ : Addr).add j = ⟨b, o + j, none⟩ := by unfold Addr.add; split <;> simp_all
theorem SN.news {w : World} {A : Option Addr} {n : Nat} {l : List ByteArray} (h : SN w A n l) (hn : 0 < n) : ∃ ad, A = some ad ∧ ∀ (j : Nat) v, (sv l)[j]? = some v → w.cell? (ad.add j) = some v := by
  obtain ⟨b, o, rfl, hc⟩ := h.2 hn
  refine ⟨_, rfl, fun j v hj => ?_⟩
  obtain ⟨h1, rfl⟩ := sv_get l hj
  rw [add_plain]
  exact hc j (by have := h.1; omega)
theorem SN.nil (w : World) (A : Option Addr) : SN w A 0 [] := ⟨rfl, fun h => absurd h (by omega)⟩
theorem SN.take {w : World} {A : Option Addr} {n : Nat} {l : List ByteArray} (h : SN w A n l) {r : Nat} (hr : r ≤ n) : SN w A r (l.take r) := by
  refine ⟨by rw [List.length_take, h.1]; omega, fun hp => ?_⟩
  obtain ⟨b, o, rfl, hc⟩ := h.2 (by omega)
  refine ⟨b, o, rfl, fun i hi => ?_⟩
  rw [hc i (by omega)]
  simp [hi]
theorem SN.drop {w : World} {b o : Nat} {n : Nat} {l : List ByteArray} (h : SN w (some ⟨b, o, none⟩) n l) {r : Nat} (hr : r ≤ n) : SN w (some ⟨b, o + r, none⟩) (n - r) (l.drop r) := by
  refine ⟨by rw [List.length_drop, h.1], fun hp => ⟨b, o + r, rfl, fun i hi => ?_⟩⟩
  obtain ⟨b', o', e, hc⟩ := h.2 (by omega)
  obtain ⟨rfl, rfl⟩ : b = b' ∧ o = o' := by simpa using e
  rw [Nat.add_assoc, hc (r + i) (by omega)]
  simp

theorem info9 : (Try.prog.info? 9).map (fun i => (i.zero, i.size, i.bytes)) = some (some (.string ⟨#[]⟩), 1, 16) := by kernel_rfl

/-- 'append(out, b...)' where out is the call's own and b is a slice of strings, nil or not. -/
theorem wp_app (w : World) {o : Oper} {a : Act} {K : Act → World → Prop} {Q : Exit → Act → World → Prop} (s x : Operand)
    (ho : o.op = .call { callee := .builtin .append, args := #[s, x], argTypes := #[118, 118] }) (base : Nat)
    (v : Value) (nv : Nat) (xs : List Value) (hs : a.eval s = v) (hown : w.ownsRow base 9 1 v nv xs)
    (A : Option Addr) (n c : Nat) (l : List ByteArray) (hx : a.eval x = .slice A n c) (hb : SN w A n l) (hnil : A = none → n = 0 ∧ c = 0)
    (hn : nv + n ≤ 8796093022208) (hbase : base ≤ w.heap.size)
    (h : ∀ v' w', w'.ownsRow base 9 1 v' (nv + n) (xs ++ sv l) → w.grownBy w' v.ownBlock → (v'.ownBlock = v.ownBlock ∨ v'.ownBlock = some w.heap.size) → K (a.put o.dst v') w') : o.wp Try.prog a w K Q := by
  obtain ⟨i0, hi0, hz0, hz1, hz2⟩ := info_parts info9
  cases A with
  | none =>
    obtain ⟨rfl, rfl⟩ := hnil rfl
    obtain rfl : l = [] := List.eq_nil_of_length_eq_zero hb.1
    have hrun := run_append_owned_none (P := Try.prog) (w := w) base 118 o.type 9 i0 1 Try.underlying118 hi0 v nv xs hown
    unfold Oper.wp
    simp [execOp, ho, resolve, invoke, builtin, hs, hx, hrun, Result.andThen]
    exact h v w (by simpa [sv] using hown) (World.grownBy.refl _ _) (Or.inl rfl)
  | some ad =>
    have hnews : ∀ (j : Nat) u, (sv l)[j]? = some u → w.cell? (ad.add j) = some u := by
      rcases Nat.eq_zero_or_pos n with h0 | h0
      · subst h0
        obtain rfl : l = [] := List.eq_nil_of_length_eq_zero hb.1
        intro j u hj; simp [sv] at hj
      · obtain ⟨ad', e, hc⟩ := hb.news h0
        obtain rfl : ad = ad' := Option.some.inj e
        exact hc
    obtain ⟨v', w', hr, h2, h3, _, h5⟩ := run_append_own_at (P := Try.prog) w base 118 o.type 9 i0 _ 1 16 Try.underlying118 hi0 hz0 hz1 hz2 rfl (by omega) v nv xs hown ad n c (sv l) (by rw [length_sv, hb.1, Nat.mul_one]) hnews (sv_one l) (by unfold maxLen; omega) (by omega) hbase
    unfold Oper.wp execOp
    simp only [ho, resolve, invoke, builtin, Sem.run_bind, Sem.run_pure, Result.andThen_ok, List.map_toArray, List.map_cons, List.map_nil, hs, hx, hr]
    exact h v' w' h2 h3 h5
theorem list_app (w : World) {ops : Array Oper} {rest : List Oper} {o : Oper} {a : Act} {Q : Exit → Act → World → Prop} (hw : Region.wanted o (yielded ops a.tmps) = true) (s x : Operand)
    (ho : o.op = .call { callee := .builtin .append, args := #[s, x], argTypes := #[118, 118] }) (base : Nat)
    (v : Value) (nv : Nat) (xs : List Value) (hs : a.eval s = v) (hown : w.ownsRow base 9 1 v nv xs)
    (A : Option Addr) (n c : Nat) (l : List ByteArray) (hx : a.eval x = .slice A n c) (hb : SN w A n l) (hnil : A = none → n = 0 ∧ c = 0)
    (hn : nv + n ≤ 8796093022208) (hbase : base ≤ w.heap.size)
    (h : ∀ v' w', w'.ownsRow base 9 1 v' (nv + n) (xs ++ sv l) → w.grownBy w' v.ownBlock → (v'.ownBlock = v.ownBlock ∨ v'.ownBlock = some w.heap.size) → wpList Try.prog ops Q rest (a.put o.dst v') w') : wpList Try.prog ops Q (o :: rest) a w := by
  refine wpList_step fun K hK => ?_
  rw [if_pos hw]
  exact wp_app w s x ho base v nv xs hs hown A n c l hx hb hnil hn hbase fun v' w' h1 h2 h3 => hK _ _ (h v' w' h1 h2 h3)
theorem step_app (w : World) {ops : Array Oper} {o : Oper} {a : Act} {K : Act → World → Prop} {Q : Exit → Act → World → Prop} {E : Prop} (hw : Region.wanted o (yielded ops a.tmps) = true) (s x : Operand)
    (ho : o.op = .call { callee := .builtin .append, args := #[s, x], argTypes := #[118, 118] }) (base : Nat)
    (v : Value) (nv : Nat) (xs : List Value) (hs : a.eval s = v) (hown : w.ownsRow base 9 1 v nv xs)
    (A : Option Addr) (n c : Nat) (l : List ByteArray) (hx : a.eval x = .slice A n c) (hb : SN w A n l) (hnil : A = none → n = 0 ∧ c = 0)
    (hn : nv + n ≤ 8796093022208) (hbase : base ≤ w.heap.size)
    (h : ∀ v' w', w'.ownsRow base 9 1 v' (nv + n) (xs ++ sv l) → w.grownBy w' v.ownBlock → (v'.ownBlock = v.ownBlock ∨ v'.ownBlock = some w.heap.size) → K (a.put o.dst v') w') :
    if Region.wanted o (yielded ops a.tmps) = true then Oper.wp Try.prog o a w K Q else E := by
  rw [if_pos hw]
  exact wp_app w s x ho base v nv xs hs hown A n c l hx hb hnil hn hbase h

/-- What a value that owns strings looks like. -/
theorem owns_sn {w : World} {B n : Nat} {v : Value} {l : List ByteArray} (h : w.ownsRow B 9 1 v n (sv l)) : ∃ A c, v = .slice A n c ∧ (A = none → n = 0 ∧ c = 0) ∧ n ≤ c ∧ c ≤ 9223372036854775807 ∧ SN w A n l := by
  have hl : l.length = n := by have := h.1; rw [length_sv] at this; omega
  rcases h.2 with ⟨rfl, rfl⟩ | ⟨g, cap, cur, rfl, _, _, hc, hm, _⟩
  · obtain rfl : l = [] := List.eq_nil_of_length_eq_zero hl
    exact ⟨none, 0, rfl, fun _ => ⟨rfl, rfl⟩, Nat.le_refl _, by omega, SN.nil _ _⟩
  · refine ⟨some ⟨g, 0, none⟩, cap, rfl, (fun h => by cases h), hc, by unfold maxLen at hm; omega, hl, fun hp => ⟨g, 0, rfl, fun i hi => ?_⟩⟩
    have hc := h.cells (g := g) rfl i _ (sv_some l (by omega))
    rw [add_plain] at hc
    exact hc
theorem owns_below {w w' : World} {B e n : Nat} {v : Value} {xs : List Value} (h : w.ownsRow B e 1 v n xs) (hb : Below w.heap.size w w') : w'.ownsRow B e 1 v n xs := by
  refine ⟨h.1, ?_⟩
  rcases h.2 with h0 | ⟨g, cap, cur, hv, hg, hh, r⟩
  · exact Or.inl h0
  · have hlt : g < w.heap.size := by
      rcases Nat.lt_or_ge g w.heap.size with hlt | hge
      · exact hlt
      · rw [Array.getElem?_eq_none hge] at hh; cases hh
    exact Or.inr ⟨g, cap, cur, hv, hg, (hb.block g hlt).trans hh, r⟩

/-- The reference's map, all of it from block B on, its parts apart. -/
structure RefOwn (w : World) (B P : Nat) (vK vV : Value) (ks vs : List ByteArray) : Prop where
  hP : B ≤ P
  blk : w.heap[P]? = some (.cells #[.bool true, vK, vV] 120 (0, 0))
  oK : w.ownsRow B 9 1 vK ks.length (sv ks)
  oV : w.ownsRow B 9 1 vV ks.length (sv vs)
  ne : ∀ g, vK.ownBlock = some g → vV.ownBlock ≠ some g
theorem RefOwn.at {w : World} {B P : Nat} {vK vV : Value} {ks vs : List ByteArray} (h : RefOwn w B P vK vV ks vs) : ∃ A1 c1 A2 c2, vK = .slice A1 ks.length c1 ∧ vV = .slice A2 ks.length c2 ∧ (A1 = none → ks.length = 0 ∧ c1 = 0) ∧ (A2 = none → ks.length = 0 ∧ c2 = 0) ∧ RefAt w P A1 c1 A2 c2 ks vs := by
  obtain ⟨A1, c1, rfl, n1, h1, h2, h3⟩ := owns_sn h.oK
  obtain ⟨A2, c2, rfl, n2, h4, h5, h6⟩ := owns_sn h.oV
  have hc : ∀ i, w.cell? ⟨P, i, none⟩ = (#[.bool true, .slice A1 ks.length c1, .slice A2 ks.length c2] : Array Value)[i]? := fun i => cell_of_row w P i _ _ (0, 0) h.blk
  exact ⟨A1, c1, A2, c2, rfl, rfl, n1, n2, (hc 0).trans rfl, (hc 1).trans rfl, (hc 2).trans rfl, h3, h6, ⟨h1, h2⟩, ⟨h4, h5⟩⟩
theorem RefOwn.below {w w' : World} {B P : Nat} {vK vV : Value} {ks vs : List ByteArray} (h : RefOwn w B P vK vV ks vs) (hb : Below w.heap.size w w') : RefOwn w' B P vK vV ks vs := by
  have hlt : P < w.heap.size := by
    rcases Nat.lt_or_ge P w.heap.size with hlt | hge
    · exact hlt
    · have := h.blk; rw [Array.getElem?_eq_none hge] at this; cases this
  exact ⟨h.hP, (hb.block P hlt).trans h.blk, owns_below h.oK hb, owns_below h.oV hb, h.ne⟩
end Go.Proofs.Ytbcakennmnjlcaa
