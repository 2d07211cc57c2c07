/- append of bytes onto a slice of the call's own, also behind '&&'; make of a slice of bytes. -/
import Derived.Test.YtcaodblmdaifjaaWorks
import Derived.Laws.AppendOwn
import Derived.Laws.AppendOwnNone
import Derived.OwnWalk
namespace Go.Proofs.Ytcaodblmdaifjaa
open Go.RowKit

/-- Bytes as values. -/
def bv (l : List Nat) : List Value := l.map fun z => Value.int .u8 (z : Nat)
theorem bv_append (a b : List Nat) : bv (a ++ b) = bv a ++ bv b := List.map_append
theorem length_bv (l : List Nat) : (bv l).length = l.length := List.length_map ..
theorem bv_get (l : List Nat) {i : Nat} {v : Value} (h : (bv l)[i]? = some v) : i < l.length ∧ v = .int .u8 (l.getD i 0 : Nat) := by
  unfold bv at h
  rw [List.getElem?_map] at h
  rcases Nat.lt_or_ge i l.length with hi | hi
  · rw [List.getElem?_eq_getElem hi] at h
    simp at h
    exact ⟨hi, by rw [← h]; simp [hi]⟩
  · rw [List.getElem?_eq_none hi] at h
    simp at h
theorem bv_one (l : List Nat) : ∀ v ∈ bv l, v.oneCell' = true := fun v h => by
  obtain ⟨z, _, rfl⟩ := List.mem_map.1 h
  rfl
theorem BN.news {w : World} {A : Option Addr} {n : Nat} {l : List Nat} (h : BN w A n l) (hn : 0 < n) : ∃ ad, A = some ad ∧ ∀ (j : Nat) v, (bv l)[j]? = some v → w.cell? (ad.add j) = some v := by
  obtain ⟨b, o, rfl, hc⟩ := h.2.2 hn
  refine ⟨_, rfl, fun j v hj => ?_⟩
  obtain ⟨h1, rfl⟩ := bv_get l hj
  have e : (⟨b, o, none⟩ : Addr).add j = ⟨b, o + j, none⟩ := by unfold Addr.add; split <;> simp_all
  rw [e]
  exact hc j (by have := h.1; omega)

theorem info5 : (Try.prog.info? 5).map (fun i => (i.zero, i.size, i.bytes)) = some (some (.int .u8 0), 1, 1) := by kernel_rfl

/-- 'append(out, b...)' where out is the call's own and b is a slice of bytes, nil or not. -/
theorem app_bytes {ops : Array Oper} {rest : List Oper} {o : Oper} {a : Act} {Q : Exit → Act → World → Prop} (w : World) (hw : Region.wanted o (yielded ops a.tmps) = true) (s x : Operand)
    (ho : o.op = .call { callee := .builtin .append, args := #[s, x], argTypes := #[22, 22] }) (base : Nat)
    (v : Value) (nv : Nat) (xs : List Value) (hs : a.eval s = v) (hown : w.ownsRow base 5 1 v nv xs)
    (A : Option Addr) (n c : Nat) (l : List Nat) (hx : a.eval x = .slice A n c) (hb : BN w A n l) (hnil : A = none → n = 0 ∧ c = 0)
    (hn : nv + n ≤ 140737488355328) (hbase : base ≤ w.heap.size)
    (h : ∀ v' w', w'.ownsRow base 5 1 v' (nv + n) (xs ++ bv l) → w.grownBy w' v.ownBlock → wpList Try.prog ops Q rest (a.put o.dst v') w') : wpList Try.prog ops Q (o :: rest) a w := by
  obtain ⟨i0, hi0, hz0, hz1, hz2⟩ := info_parts info5
  refine wpList_step fun K hK => ?_
  rw [if_pos hw]
  cases A with
  | none =>
    obtain ⟨rfl, rfl⟩ := hnil rfl
    obtain rfl : l = [] := List.eq_nil_of_length_eq_zero hb.1
    have hrun := run_append_owned_none (P := Try.prog) (w := w) base 22 o.type 5 i0 1 Try.underlying22 hi0 v nv xs hown
    unfold Oper.wp
    simp [execOp, ho, resolve, invoke, builtin, hs, hx, hrun, Result.andThen]
    exact hK _ _ (h v w (by simpa [bv] using hown) (World.grownBy.refl _ _))
  | some ad =>
    have hnews : ∀ (j : Nat) u, (bv l)[j]? = some u → w.cell? (ad.add j) = some u := by
      rcases Nat.eq_zero_or_pos n with h0 | h0
      · subst h0
        obtain rfl : l = [] := List.eq_nil_of_length_eq_zero hb.1
        intro j u hj; simp [bv] at hj
      · obtain ⟨ad', e, hc⟩ := hb.news h0
        obtain rfl : ad = ad' := Option.some.inj e
        exact hc
    exact wp_append_own w s x 22 ho base 5 i0 _ 1 1 Try.underlying22 hi0 hz0 hz1 hz2 rfl (by omega) v nv xs hs hown ad n c (bv l) hx (by rw [length_bv, hb.1, Nat.mul_one]) hnews (bv_one l) (by unfold maxLen; omega) (by omega) hbase
      fun v' w' h1 h2 _ => hK _ _ (h v' w' h1 h2)

theorem own_bn {w : World} {B n : Nat} {v : Value} {l : List Nat} (h : w.ownsRow B 5 1 v n (bv l)) (hb : ∀ z ∈ l, z < 256) : ∃ A c, v = .slice A n c ∧ (A = none → n = 0 ∧ c = 0) ∧ BN w A n l := by
  have hl : l.length = n := by have := h.1; rw [length_bv] at this; omega
  rcases h.2 with ⟨rfl, rfl⟩ | ⟨g, cap, cur, rfl, _⟩
  · obtain rfl : l = [] := List.eq_nil_of_length_eq_zero hl
    exact ⟨none, 0, rfl, fun _ => ⟨rfl, rfl⟩, BN.nil _ _⟩
  · refine ⟨some ⟨g, 0, none⟩, cap, rfl, (fun h => by cases h), hl, hb, fun hp => ⟨g, 0, rfl, fun i hi => ?_⟩⟩
    have hc := h.cells (g := g) rfl i (.int .u8 (l.getD i 0 : Nat)) (by unfold bv; rw [List.getElem?_map, List.getElem?_eq_getElem (by omega)]; simp [show i < l.length from by omega])
    have e : (⟨g, 0, none⟩ : Addr).add i = ⟨g, 0 + i, none⟩ := by unfold Addr.add; split <;> simp_all
    rw [e] at hc
    exact hc

def byteZeros (m : Nat) : Array Value := madeCells #[.int .u8 0] m
theorem zeros_list (m : Nat) : byteZeros m = (bv (List.replicate m 0)).toArray := by
  unfold byteZeros bv
  apply Array.toList_inj.1
  rw [toList_madeCells_one]; simp
theorem zeros_bn (w : World) (m : Nat) : BN (w.alloc (.cells (byteZeros m) 5)) (some ⟨w.heap.size, 0, none⟩) m (List.replicate m 0) := by
  have := lit_bn w (List.replicate m 0) (by simp) (0, 0)
  rw [List.length_replicate] at this
  rw [zeros_list]
  exact this
theorem make_bytes (m : Nat) (h : m ≤ 281474976710656) (w : World) : (Instr.makeSlice 22 (.int .i64 (m : Int)) (.int .i64 (m : Int))).run Try.prog w = .ok (.slice (some ⟨w.heap.size, 0, none⟩) m m) (w.alloc (.cells (byteZeros m) 5)) := by
  obtain ⟨i, hi, h1, h2, h3⟩ := info_parts info5
  have := run_make (P := Try.prog) w 22 5 i _ Try.underlying22 hi h1 .i64 .i64 m m (by omega) (by omega) (by rw [h3]; omega) (by omega)
  rw [this, h2]
  simp [byteZeros]
  rfl
end Go.Proofs.Ytcaodblmdaifjaa
