/- A map and the reference's, side by side: of the same items, their blocks apart from others'. -/
import Derived.Test.YtbcakennmnjlcaaShows
import Derived.Test.YtbcakennmnjlcaaSSCopy
import Derived.Test.YtbcakennmnjlcaaRefDel
import Derived.Test.YtbcakennmnjlcaaRefNew
import Derived.Test.YtbcakennmnjlcaaBut
namespace Go.Proofs.Ytbcakennmnjlcaa
open Go.RowKit
/-- Only F has turned; what is taken up now was so before, or is new. -/
structure Turn (F F' : Nat → Prop) (w w' : World) : Prop where
  but : But F w w'
  own : ∀ b, F' b → F b ∨ w.heap.size ≤ b
theorem Turn.refl (F : Nat → Prop) (w : World) : Turn F F w w := ⟨But.of_below (Below.refl _ _), fun _ h => .inl h⟩
theorem Turn.trans {F F' F'' : Nat → Prop} {a b c : World} (h : Turn F F' a b) (k : Turn F' F'' b c) : Turn F F'' a c := by
  refine ⟨⟨k.but.os.trans h.but.os, k.but.tape.trans h.but.tape, k.but.output.trans h.but.output, Nat.le_trans h.but.size k.but.size, fun i hi hF => (k.but.block i (Nat.lt_of_lt_of_le hi h.but.size) fun hF' => ?_).trans (h.but.block i hi hF)⟩, fun i hi => ?_⟩
  · rcases h.own i hF' with h1 | h1
    · exact hF h1
    · omega
  · rcases k.own i hi with h1 | h1
    · exact h.own i h1
    · exact .inr (Nat.le_trans h.but.size h1)
theorem Turn.below {F F' : Nat → Prop} {a b : World} {B : Nat} (h : Turn F F' a b) (hB : B ≤ a.heap.size) (hF : ∀ i, F i → B ≤ i) : Below B a b :=
  ⟨h.but.os, h.but.tape, h.but.output, h.but.size, fun k hk => h.but.block k (Nat.lt_of_lt_of_le hk hB) (fun e => by have := hF k e; omega)⟩
def Apart (F G : Nat → Prop) : Prop := ∀ b, F b → ¬ G b
theorem Apart.symm {F G : Nat → Prop} (h : Apart F G) : Apart G F := fun b hg hf => h b hf hg
theorem Turn.apart {F F' G : Nat → Prop} {a b : World} (h : Turn F F' a b) (hA : Apart F G) (hG : ∀ i, G i → i < a.heap.size) : Apart F' G := fun i hi hg => by
  rcases h.own i hi with h1 | h1
  · exact hA i h1 hg
  · have := hG i hg
    omega
theorem Turn.same {F F' G : Nat → Prop} {a b : World} (h : Turn F F' a b) (hA : Apart F G) (hG : ∀ i, G i → i < a.heap.size) : ∀ i, G i → b.heap[i]? = a.heap[i]? := fun i hi => h.but.block i (hG i hi) fun hF => hA i hF hi
theorem turn_left {F F' G : Nat → Prop} {a b : World} (h : Turn F F' a b) : Turn (fun b => F b ∨ G b) (fun b => F' b ∨ G b) a b :=
  ⟨h.but.mono fun _ _ hb => .inl hb, fun b hb => hb.elim (fun h1 => (h.own b h1).imp_left .inl) fun h1 => .inl (.inr h1)⟩
theorem turn_right {F F' G : Nat → Prop} {a b : World} (h : Turn F F' a b) : Turn (fun b => G b ∨ F b) (fun b => G b ∨ F' b) a b :=
  ⟨h.but.mono fun _ _ hb => .inr hb, fun b hb => hb.elim (fun h1 => .inl (.inl h1)) fun h1 => (h.own b h1).imp_left .inr⟩
abbrev Its : Type := List (SS.K × SS.V)
def MF (P : Nat) (v : Value) : Nat → Prop := fun b => b = P ∨ v.ownBlock = some b
def RF (R : Nat) (vK vV : Value) : Nat → Prop := fun b => b = R ∨ vK.ownBlock = some b ∨ vV.ownBlock = some b
theorem turn_chg {w w' : World} {P : Nat} {v v' : Value} (h : Chg w w' P v v') : Turn (MF P v) (MF P v') w w' :=
  ⟨h.but, fun b hb => hb.elim (fun e => .inl (.inl e)) fun e => (h.row b e).imp_left .inr⟩
theorem turn_ref {F : Nat → Prop} {w w' : World} {R : Nat} {vK vV vK' vV' : Value} (h : But F w w') (hF : ∀ b, F b → RF R vK vV b) (hK : ∀ g, vK'.ownBlock = some g → vK.ownBlock = some g ∨ w.heap.size ≤ g) (hV : ∀ g, vV'.ownBlock = some g → vV.ownBlock = some g ∨ w.heap.size ≤ g) : Turn (RF R vK vV) (RF R vK' vV') w w' := by
  refine ⟨h.mono fun b _ hb => hF b hb, fun b hb => ?_⟩
  rcases hb with hb | hb | hb
  · exact .inl (.inl hb)
  · exact (hK b hb).imp_left fun h => .inr (.inl h)
  · exact (hV b hb).imp_left fun h => .inr (.inr h)
section
variable {w : World} {B P R : Nat} {v vK vV : Value} {l : Its} {ks vs : List ByteArray}
theorem own_lt (h : SS.Own w B P v l) : ∀ b, MF P v b → b < w.heap.size := fun b hb => by
  rcases hb with rfl | hb
  · exact SS.lt_of_heap h.blk
  · exact (h.own.lt b hb).2
theorem own_le (h : SS.Own w B P v l) : ∀ b, MF P v b → B ≤ b := fun b hb => by
  rcases hb with rfl | hb
  · exact h.hP
  · exact (h.own.lt b hb).1
theorem own_same {w' : World} (h : SS.Own w B P v l) (hb : ∀ b, MF P v b → w'.heap[b]? = w.heap[b]?) : SS.Own w' B P v l :=
  ⟨h.hP, (hb P (.inl rfl)).trans h.blk, owns_of_block h.own fun g hg => hb g (.inr hg), h.asc, h.len⟩
theorem own_lower {B' : Nat} (h : SS.Own w B P v l) (hb : B' ≤ B) : SS.Own w B' P v l :=
  ⟨Nat.le_trans hb h.hP, h.blk, ⟨h.own.1, h.own.2.elim Or.inl fun ⟨g, cap, cur, hv, hg, r⟩ => Or.inr ⟨g, cap, cur, hv, Nat.le_trans hb hg, r⟩⟩, h.asc, h.len⟩
theorem ref_lt (h : RefOwn w B R vK vV ks vs) : ∀ b, RF R vK vV b → b < w.heap.size := fun b hb => by
  rcases hb with rfl | hb | hb
  · exact SS.lt_of_heap h.blk
  · exact (h.oK.lt b hb).2
  · exact (h.oV.lt b hb).2
theorem ref_le (h : RefOwn w B R vK vV ks vs) : ∀ b, RF R vK vV b → B ≤ b := fun b hb => by
  rcases hb with rfl | hb | hb
  · exact h.hP
  · exact (h.oK.lt b hb).1
  · exact (h.oV.lt b hb).1
theorem ref_same {w' : World} (h : RefOwn w B R vK vV ks vs) (hb : ∀ b, RF R vK vV b → w'.heap[b]? = w.heap[b]?) : RefOwn w' B R vK vV ks vs :=
  ⟨h.hP, (hb R (.inl rfl)).trans h.blk, owns_of_block h.oK fun g hg => hb g (.inr (.inl hg)), owns_of_block h.oV fun g hg => hb g (.inr (.inr hg)), h.ne⟩
theorem ref_lower {B' : Nat} (h : RefOwn w B R vK vV ks vs) (hb : B' ≤ B) : RefOwn w B' R vK vV ks vs :=
  ⟨Nat.le_trans hb h.hP, h.blk, owns_le h.oK hb, owns_le h.oV hb, h.ne⟩
end
/-- A map and the reference's, of the same items, their blocks F. -/
def Live (w0 w : World) (P R : Nat) (F : Nat → Prop) (n : Nat) : Prop :=
  ∃ v vK vV l, SS.Own w w0.heap.size P v l ∧ RefOwn w w0.heap.size R vK vV (keysOf l) (valsOf l) ∧ Apart (MF P v) (RF R vK vV) ∧ (F = fun b => MF P v b ∨ RF R vK vV b) ∧ l.length ≤ n
section
variable {w0 w : World} {P R : Nat} {F : Nat → Prop} {n : Nat}
theorem Live.okk (h : Live w0 w P R F n) : ∃ l, Okk w0.heap.size P R l w := by
  obtain ⟨v, vK, vV, l, h1, h2, h3, h4, h5⟩ := h
  exact ⟨l, ⟨v, h1⟩, vK, vV, h2⟩
theorem Live.lt (h : Live w0 w P R F n) : ∀ b, F b → b < w.heap.size := by
  obtain ⟨v, vK, vV, l, h1, h2, h3, rfl, h5⟩ := h
  rintro b (hb | hb)
  · exact own_lt h1 b hb
  · exact ref_lt h2 b hb
theorem Live.le (h : Live w0 w P R F n) : ∀ b, F b → w0.heap.size ≤ b := by
  obtain ⟨v, vK, vV, l, h1, h2, h3, rfl, h5⟩ := h
  rintro b (hb | hb)
  · exact own_le h1 b hb
  · exact ref_le h2 b hb
theorem Live.same {w' : World} (h : Live w0 w P R F n) (hb : ∀ b, F b → w'.heap[b]? = w.heap[b]?) : Live w0 w' P R F n := by
  obtain ⟨v, vK, vV, l, h1, h2, h3, rfl, h5⟩ := h
  exact ⟨v, vK, vV, l, own_same h1 fun b hF => hb b (.inl hF), ref_same h2 fun b hF => hb b (.inr hF), h3, rfl, h5⟩
theorem Live.below {w' : World} (h : Live w0 w P R F n) (hb : Below w.heap.size w w') : Live w0 w' P R F n := h.same fun b hF => hb.block b (h.lt b hF)
theorem Live.turned {w' : World} {G G' : Nat → Prop} (h : Live w0 w P R F n) (hT : Turn G G' w w') (hA : Apart G F) : Live w0 w' P R F n := h.same (hT.same hA h.lt)
theorem Live.more {m : Nat} (h : Live w0 w P R F n) (hm : n ≤ m) : Live w0 w P R F m := by
  obtain ⟨v, vK, vV, l, h1, h2, h3, h4, h5⟩ := h
  exact ⟨v, vK, vV, l, h1, h2, h3, h4, Nat.le_trans h5 hm⟩
/-- What an operation leaves of both. -/
def After (w0 w : World) (P R : Nat) (F : Nat → Prop) (n : Nat) (w' : World) : Prop := ∃ F', Live w0 w' P R F' n ∧ Turn F F' w w'
theorem both_end {v vK vV : Value} {w1 w2 : World} {v' vK' vV' : Value} {l' : Its} (h1 : SS.Own w1 w0.heap.size P v' l') (ht : Turn (MF P v) (MF P v') w w1) (hA : Apart (MF P v') (RF R vK vV)) (h2 : RefOwn w2 w0.heap.size R vK' vV' (keysOf l') (valsOf l')) (ht2 : Turn (RF R vK vV) (RF R vK' vV') w1 w2) (hl : l'.length ≤ n) :
    After w0 w P R (fun b => MF P v b ∨ RF R vK vV b) n w2 :=
  ⟨_, ⟨v', vK', vV', l', own_same h1 (ht2.same hA.symm (own_lt h1)), h2, (ht2.apart hA.symm (own_lt h1)).symm, rfl, hl⟩, (turn_left (G := RF R vK vV) ht).trans (turn_right ht2)⟩
theorem put_len (l : Its) (k : SS.K) (x : SS.V) : (putL SS.lt l k x).length ≤ l.length + 1 := by
  unfold putL
  split <;> simp <;> omega
theorem del_le (l : Its) (k : SS.K) : (delL SS.lt l k).length ≤ l.length := by
  unfold delL
  split <;> simp <;> omega
theorem live_set (h : Live w0 w P R F n) (hn : n ≤ 1000) (k x : ByteArray) : ∃ (a : ByteArray) (b : Bool) (Mid : World → Prop), (Calls Try.prog 13 #[.pointer (some ⟨P, 0, none⟩), .string k, .string x] w fun e w1 => e = .returned (.tuple #[.string a, .bool b, .int .i64 0]) ∧ Hid (Mid w1 ∧ But F w w1)) ∧
    ∀ w1, Mid w1 → Calls Try.prog 14 #[.pointer (some ⟨R, 0, none⟩), .string k, .string x] w1 fun e w2 => e = .returned (.tuple #[.string a, .bool b, .int .i64 0]) ∧ Hid (After w0 w P R F (n + 1) w2) := by
  obtain ⟨v, vK, vV, l, h1, h2, h3, rfl, h5⟩ := h
  refine ⟨getL SS.lt l k SS.z0, hasB SS.lt (keysOf l) k, fun w1 => ∃ v', SS.Own w1 w0.heap.size P v' (putL SS.lt l k x) ∧ Turn (MF P v) (MF P v') w w1, (SS.set_any _ P v l k x w h1 (by omega)).mono ?_, ?_⟩
  · rintro e w1 ⟨v', rfl, k1, k2⟩
    exact ⟨rfl, ⟨v', k1, turn_chg k2⟩, k2.but.mono fun _ _ hb => .inl hb⟩
  · rintro w1 ⟨v', k1, k2⟩
    have h2' := ref_same h2 (k2.same h3 (ref_lt h2))
    have hset : Calls Try.prog 14 #[.pointer (some ⟨R, 0, none⟩), .string k, .string x] w1 (SetRef w1 w0.heap.size R vK vV (keysOf l) (valsOf l) k x) := by
      cases hh : hasK (keysOf l) k with
      | true => exact rset_has _ R vK vV _ _ k x w1 h2' hh
      | false => exact rset_new _ R vK vV _ _ k x w1 h2' (by rw [keys_len]; omega) hh
    refine hset.mono ?_
    rintro e w2 ⟨vK', vV', rfl, k3, k4, k5, k6⟩
    rw [← put_keys, ← put_vals] at k3
    refine ⟨by rw [get_tie, has_tie], both_end k1 k2 (k2.apart h3 (ref_lt h2)) k3 (turn_ref k4 (fun b hb => hb.elim .inl fun h => .inr (.inr h)) k5 k6) ?_⟩
    have := put_len l k x
    omega
theorem live_del (h : Live w0 w P R F n) (hn : n ≤ 1000) (k : ByteArray) : ∃ (a : ByteArray) (b : Bool) (Mid : World → Prop), (Calls Try.prog 15 #[.pointer (some ⟨P, 0, none⟩), .string k] w fun e w1 => e = .returned (.tuple #[.string a, .bool b]) ∧ Hid (Mid w1 ∧ But F w w1)) ∧
    ∀ w1, Mid w1 → Calls Try.prog 16 #[.pointer (some ⟨R, 0, none⟩), .string k] w1 fun e w2 => e = .returned (.tuple #[.string a, .bool b]) ∧ Hid (After w0 w P R F (n + 1) w2) := by
  obtain ⟨v, vK, vV, l, h1, h2, h3, rfl, h5⟩ := h
  refine ⟨getL SS.lt l k SS.z0, hasB SS.lt (keysOf l) k, fun w1 => ∃ v', SS.Own w1 w0.heap.size P v' (delL SS.lt l k) ∧ Turn (MF P v) (MF P v') w w1, (SS.del_any _ P v l k w h1).mono ?_, ?_⟩
  · rintro e w1 ⟨v', rfl, k1, k2⟩
    exact ⟨rfl, ⟨v', k1, turn_chg k2⟩, k2.but.mono fun _ _ hb => .inl hb⟩
  · rintro w1 ⟨v', k1, k2⟩
    have h2' := ref_same h2 (k2.same h3 (ref_lt h2))
    have hdel : Calls Try.prog 16 #[.pointer (some ⟨R, 0, none⟩), .string k] w1 (DelRef w1 w0.heap.size R vK vV (keysOf l) (valsOf l) k) := by
      cases hh : hasK (keysOf l) k with
      | true => exact rdel_has _ R vK vV _ _ k w1 h2' (by rw [keys_len]; omega) hh
      | false => exact rdel_none _ R vK vV _ _ k w1 h2' hh
    refine hdel.mono ?_
    rintro e w2 ⟨vK', vV', rfl, k3, k4, k5, k6⟩
    rw [← del_keys, ← del_vals] at k3
    refine ⟨by rw [get_tie, has_tie], both_end k1 k2 (k2.apart h3 (ref_lt h2)) k3 (turn_ref k4 (fun b hb => .inl hb) k5 k6) ?_⟩
    have := del_le l k
    omega
/-- What New or Copy leave. -/
def Fresh (w0 w : World) (P R : Nat) (n : Nat) (w' : World) : Prop := ∃ F, Live w0 w' P R F n ∧ Below w.heap.size w w' ∧ ∀ b, F b → w.heap.size ≤ b
theorem fresh_end {v vK vV : Value} {l : Its} {w1 w2 : World} (h0 : w0.heap.size ≤ w.heap.size) (h1 : SS.Own w1 w.heap.size P v l) (hb : Below w.heap.size w w1) (h2 : RefOwn w2 w1.heap.size R vK vV (keysOf l) (valsOf l)) (hb2 : Below w1.heap.size w1 w2) (hl : l.length ≤ n) :
    Fresh w0 w P R n w2 := by
  have hs := hb.size
  refine ⟨_, ⟨v, vK, vV, l, own_lower (own_below h1 hb2) h0, ref_lower h2 (by omega), fun b ha hb' => ?_, rfl, hl⟩, hb.trans (hb2.mono hs), fun b hb' => ?_⟩
  · have := own_lt h1 b ha
    have := ref_le h2 b hb'
    omega
  · rcases hb' with hb' | hb'
    · exact own_le h1 b hb'
    · exact Nat.le_trans hs (ref_le h2 b hb')
theorem live_copy (h : Live w0 w P R F n) (h0 : w0.heap.size ≤ w.heap.size) (hn : n ≤ 1000) : ∃ (P' : Nat) (Mid : World → Prop), (Calls Try.prog 17 #[.pointer (some ⟨P, 0, none⟩)] w fun e w1 => e = .returned (.pointer (some ⟨P', 0, none⟩)) ∧ Hid (Mid w1)) ∧
    ∀ w1, Mid w1 → Calls Try.prog 18 #[.pointer (some ⟨R, 0, none⟩)] w1 fun e w2 => ∃ R', e = .returned (.pointer (some ⟨R', 0, none⟩)) ∧ Hid (Fresh w0 w P' R' (n + 1) w2) := by
  obtain ⟨v, vK, vV, l, h1, h2, h3, rfl, h5⟩ := h
  refine ⟨w.heap.size, fun w1 => ∃ v', SS.Own w1 w.heap.size w.heap.size v' l ∧ Below w.heap.size w w1, (SS.copy_any _ P v l w h1).mono ?_, ?_⟩
  · rintro e w1 ⟨rfl, g⟩
    obtain ⟨⟨v', k1⟩, k2⟩ := g.out
    exact ⟨rfl, v', k1, k2⟩
  · rintro w1 ⟨v', k1, k2⟩
    refine (rcopy_any _ R vK vV _ _ w1 (h2.below k2) (by rw [keys_len]; omega)).mono ?_
    rintro e w2 ⟨R', vK', vV', rfl, k3, k4⟩
    exact ⟨_, rfl, fresh_end h0 k1 k2 k3 k4 (by omega)⟩
end
theorem live_new (w : World) : ∃ (P : Nat) (Mid : World → Prop), (Calls Try.prog 11 #[] w fun e w1 => e = .returned (.pointer (some ⟨P, 0, none⟩)) ∧ Hid (Mid w1)) ∧
    ∀ w1, Mid w1 → Calls Try.prog 12 #[] w1 fun e w2 => ∃ R, e = .returned (.pointer (some ⟨R, 0, none⟩)) ∧ Hid (Fresh w w P R 0 w2) := by
  refine ⟨w.heap.size, fun w1 => SS.Own w1 w.heap.size w.heap.size (.slice none 0 0) [] ∧ Below w.heap.size w w1, (SS.new_any w).mono ?_, ?_⟩
  · rintro e w1 ⟨rfl, k1, k2⟩
    exact ⟨rfl, k1, k2⟩
  · rintro w1 ⟨k1, k2⟩
    refine (rnew_any w1).mono ?_
    rintro e w2 ⟨rfl, k3, k4⟩
    exact ⟨_, rfl, fresh_end (Nat.le_refl _) k1 k2 k3 k4 (Nat.le_refl _)⟩
end Go.Proofs.Ytbcakennmnjlcaa
