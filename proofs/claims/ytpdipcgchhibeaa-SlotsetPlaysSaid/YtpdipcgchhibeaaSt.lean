/- Two sets and the reference's two, apart, and a step's box. -/
import Derived.Test.YtpdipcgchhibeaaNode
namespace Go.Proofs.Ytpdipcgchhibeaa
open Go.RowKit
/-- A set and the reference's, and a second pair, all apart; the box of a step. -/
structure Stt (w0 : World) (F1 F2 F3 F4 : Nat → Prop) (z : Nat) (o : Obj) (p r q u : Option Addr) (n m1 m2 n2 t1 t2 : Nat) (w : World) : Prop where
  s : SN w0 w p n m1 F1
  r : RN w0 w r n m2 F2
  t : SN w0 w q n2 t1 F3
  u : RN w0 w u n2 t2 F4
  a12 : Apart F1 F2
  a13 : Apart F1 F3
  a14 : Apart F1 F4
  a23 : Apart F2 F3
  a24 : Apart F2 F4
  a34 : Apart F3 F4
  low : Below w0.heap.size w0 w
  box : w.heap[z]? = some o
  z1 : ¬ F1 z
  z2 : ¬ F2 z
  z3 : ¬ F3 z
  z4 : ¬ F4 z
def St (w0 : World) (z : Nat) (o : Obj) (p r q u : Option Addr) (n m1 m2 n2 t1 t2 : Nat) (w : World) : Prop := ∃ F1 F2 F3 F4, Stt w0 F1 F2 F3 F4 z o p r q u n m1 m2 n2 t1 t2 w
/-- The first pair alone. -/
def St0 (w0 : World) (p r : Option Addr) (n m : Nat) (w : World) : Prop := ∃ F1 F2, SN w0 w p n m F1 ∧ RN w0 w r n m F2 ∧ Apart F1 F2 ∧ Below w0.heap.size w0 w
section
variable {w0 w w' : World} {F1 F2 F3 F4 : Nat → Prop} {z : Nat} {o : Obj} {p r q u : Option Addr} {n m1 m2 n2 t1 t2 k : Nat}
theorem keep_box {F : Nat → Prop} (hb : But F w w') (hz : w.heap[z]? = some o) (hF : ¬ F z) : w'.heap[z]? = some o := (hb.block z (lt_of_heap hz) hF).trans hz
theorem Stt.below (h : Stt w0 F1 F2 F3 F4 z o p r q u n m1 m2 n2 t1 t2 w) (hb : Below w.heap.size w w') : Stt w0 F1 F2 F3 F4 z o p r q u n m1 m2 n2 t1 t2 w' :=
  { h with s := h.s.below hb, r := h.r.below hb, t := h.t.below hb, u := h.u.below hb, low := h.low.trans (hb.mono h.low.size), box := (hb.block z (lt_of_heap h.box)).trans h.box }
theorem Stt.turn1 (h : Stt w0 F1 F2 F3 F4 z o p r q u n m1 m2 n2 t1 t2 w) (hs : SN w0 w' p n k F1) (hB : But F1 w w') : Stt w0 F1 F2 F3 F4 z o p r q u n k m2 n2 t1 t2 w' :=
  { h with s := hs, r := h.r.keep hB h.a12, t := h.t.keep hB h.a13, u := h.u.keep hB h.a14, low := h.low.trans (hB.below h.low.size h.s.le), box := keep_box hB h.box h.z1 }
theorem Stt.turn2 (h : Stt w0 F1 F2 F3 F4 z o p r q u n m1 m2 n2 t1 t2 w) (hs : RN w0 w' r n k F2) (hB : But F2 w w') : Stt w0 F1 F2 F3 F4 z o p r q u n m1 k n2 t1 t2 w' :=
  { h with r := hs, s := h.s.keep hB h.a12.symm, t := h.t.keep hB h.a23, u := h.u.keep hB h.a24, low := h.low.trans (hB.below h.low.size h.r.le), box := keep_box hB h.box h.z2 }
theorem Stt.turn3 (h : Stt w0 F1 F2 F3 F4 z o p r q u n m1 m2 n2 t1 t2 w) (hs : SN w0 w' q n2 k F3) (hB : But F3 w w') : Stt w0 F1 F2 F3 F4 z o p r q u n m1 m2 n2 k t2 w' :=
  { h with t := hs, s := h.s.keep hB h.a13.symm, r := h.r.keep hB h.a23.symm, u := h.u.keep hB h.a34, low := h.low.trans (hB.below h.low.size h.t.le), box := keep_box hB h.box h.z3 }
theorem Stt.turn4 (h : Stt w0 F1 F2 F3 F4 z o p r q u n m1 m2 n2 t1 t2 w) (hs : RN w0 w' u n2 k F4) (hB : But F4 w w') : Stt w0 F1 F2 F3 F4 z o p r q u n m1 m2 n2 t1 k w' :=
  { h with u := hs, s := h.s.keep hB h.a14.symm, r := h.r.keep hB h.a24.symm, t := h.t.keep hB h.a34.symm, low := h.low.trans (hB.below h.low.size h.u.le), box := keep_box hB h.box h.z4 }
theorem St.below (h : St w0 z o p r q u n m1 m2 n2 t1 t2 w) (hb : Below w.heap.size w w') : St w0 z o p r q u n m1 m2 n2 t1 t2 w' := by
  obtain ⟨F1, F2, F3, F4, h⟩ := h
  exact ⟨F1, F2, F3, F4, h.below hb⟩
theorem St.box (h : St w0 z o p r q u n m1 m2 n2 t1 t2 w) : w.heap[z]? = some o := by
  obtain ⟨F1, F2, F3, F4, h⟩ := h
  exact h.box
theorem St.low (h : St w0 z o p r q u n m1 m2 n2 t1 t2 w) : Below w0.heap.size w0 w := by
  obtain ⟨F1, F2, F3, F4, h⟩ := h
  exact h.low
theorem St.rest (h : St w0 z o p r q u n m1 m1 n2 t1 t2 w) : St0 w0 p r n m1 w := by
  obtain ⟨F1, F2, F3, F4, h⟩ := h
  exact ⟨F1, F2, h.s, h.r, h.a12, h.low⟩
theorem St0.below (h : St0 w0 p r n m1 w) (hb : Below w.heap.size w w') : St0 w0 p r n m1 w' := by
  obtain ⟨F1, F2, h1, h2, h3, h4⟩ := h
  exact ⟨F1, F2, h1.below hb, h2.below hb, h3, h4.trans (hb.mono h4.size)⟩
theorem St0.low (h : St0 w0 p r n m1 w) : Below w0.heap.size w0 w := by
  obtain ⟨F1, F2, h1, h2, h3, h4⟩ := h
  exact h4
theorem st_add1 (h : St w0 z o p r q u n m1 m2 n2 t1 t2 w) (i : Int) : Calls Try.prog 15 #[.pointer p, .int .i64 i] w fun e w' => e = .returned (.int .i64 (addc n i)) ∧ Hid (St w0 z o p r q u n (addm n m1 i) m2 n2 t1 t2 w') := by
  obtain ⟨F1, F2, F3, F4, h⟩ := h
  refine (s_add h.s i).mono ?_
  rintro e w' ⟨rfl, hs, hB⟩
  exact ⟨rfl, F1, F2, F3, F4, h.turn1 hs hB⟩
theorem st_add2 (h : St w0 z o p r q u n m1 m2 n2 t1 t2 w) (i : Int) : Calls Try.prog 16 #[.pointer r, .int .i64 i] w fun e w' => e = .returned (.int .i64 (addc n i)) ∧ Hid (St w0 z o p r q u n m1 (addm n m2 i) n2 t1 t2 w') := by
  obtain ⟨F1, F2, F3, F4, h⟩ := h
  refine (r_add h.r i).mono ?_
  rintro e w' ⟨rfl, hs, hB⟩
  exact ⟨rfl, F1, F2, F3, F4, h.turn2 hs hB⟩
theorem st_remove1 (h : St w0 z o p r q u n m1 m2 n2 t1 t2 w) (i : Int) : Calls Try.prog 17 #[.pointer p, .int .i64 i] w fun e w' => e = .returned (.int .i64 (addc n i)) ∧ Hid (St w0 z o p r q u n (remm n m1 i) m2 n2 t1 t2 w') := by
  obtain ⟨F1, F2, F3, F4, h⟩ := h
  refine (s_remove h.s i).mono ?_
  rintro e w' ⟨rfl, hs, hB⟩
  exact ⟨rfl, F1, F2, F3, F4, h.turn1 hs hB⟩
theorem st_remove2 (h : St w0 z o p r q u n m1 m2 n2 t1 t2 w) (i : Int) : Calls Try.prog 18 #[.pointer r, .int .i64 i] w fun e w' => e = .returned (.int .i64 (addc n i)) ∧ Hid (St w0 z o p r q u n m1 (remm n m2 i) n2 t1 t2 w') := by
  obtain ⟨F1, F2, F3, F4, h⟩ := h
  refine (r_remove h.r i).mono ?_
  rintro e w' ⟨rfl, hs, hB⟩
  exact ⟨rfl, F1, F2, F3, F4, h.turn2 hs hB⟩
theorem st_add3 (h : St w0 z o p r q u n m1 m2 n2 t1 t2 w) (i : Int) : Calls Try.prog 15 #[.pointer q, .int .i64 i] w fun e w' => e = .returned (.int .i64 (addc n2 i)) ∧ Hid (St w0 z o p r q u n m1 m2 n2 (addm n2 t1 i) t2 w') := by
  obtain ⟨F1, F2, F3, F4, h⟩ := h
  refine (s_add h.t i).mono ?_
  rintro e w' ⟨rfl, hs, hB⟩
  exact ⟨rfl, F1, F2, F3, F4, h.turn3 hs hB⟩
theorem st_add4 (h : St w0 z o p r q u n m1 m2 n2 t1 t2 w) (i : Int) : Calls Try.prog 16 #[.pointer u, .int .i64 i] w fun e w' => e = .returned (.int .i64 (addc n2 i)) ∧ Hid (St w0 z o p r q u n m1 m2 n2 t1 (addm n2 t2 i) w') := by
  obtain ⟨F1, F2, F3, F4, h⟩ := h
  refine (r_add h.u i).mono ?_
  rintro e w' ⟨rfl, hs, hB⟩
  exact ⟨rfl, F1, F2, F3, F4, h.turn4 hs hB⟩
theorem st_union1 (h : St w0 z o p r q u n m1 m2 n2 t1 t2 w) : Calls Try.prog 19 #[.pointer p, .pointer q] w fun e w' => e = .returned (.int .i64 (unc n n2)) ∧ Hid (St w0 z o p r q u n (unm true n n2 m1 t1) m2 n2 t1 t2 w') := by
  obtain ⟨F1, F2, F3, F4, h⟩ := h
  refine (s_union h.s h.t).mono ?_
  rintro e w' ⟨rfl, hs, hB⟩
  exact ⟨rfl, F1, F2, F3, F4, h.turn1 hs hB⟩
theorem st_union2 (h : St w0 z o p r q u n m1 m2 n2 t1 t2 w) : Calls Try.prog 20 #[.pointer r, .pointer u] w fun e w' => e = .returned (.int .i64 (unc n n2)) ∧ Hid (St w0 z o p r q u n m1 (unm true n n2 m2 t2) n2 t1 t2 w') := by
  obtain ⟨F1, F2, F3, F4, h⟩ := h
  refine (r_union h.r h.u).mono ?_
  rintro e w' ⟨rfl, hs, hB⟩
  exact ⟨rfl, F1, F2, F3, F4, h.turn2 hs hB⟩
theorem st_minus1 (h : St w0 z o p r q u n m1 m2 n2 t1 t2 w) : Calls Try.prog 21 #[.pointer p, .pointer q] w fun e w' => e = .returned (.int .i64 (unc n n2)) ∧ Hid (St w0 z o p r q u n (unm false n n2 m1 t1) m2 n2 t1 t2 w') := by
  obtain ⟨F1, F2, F3, F4, h⟩ := h
  refine (s_minus h.s h.t).mono ?_
  rintro e w' ⟨rfl, hs, hB⟩
  exact ⟨rfl, F1, F2, F3, F4, h.turn1 hs hB⟩
theorem st_minus2 (h : St w0 z o p r q u n m1 m2 n2 t1 t2 w) : Calls Try.prog 22 #[.pointer r, .pointer u] w fun e w' => e = .returned (.int .i64 (unc n n2)) ∧ Hid (St w0 z o p r q u n m1 (unm false n n2 m2 t2) n2 t1 t2 w') := by
  obtain ⟨F1, F2, F3, F4, h⟩ := h
  refine (r_minus h.r h.u).mono ?_
  rintro e w' ⟨rfl, hs, hB⟩
  exact ⟨rfl, F1, F2, F3, F4, h.turn2 hs hB⟩
theorem new_apart {F G : Nat → Prop} (hF : ∀ b, F b → b < w.heap.size) (hG : ∀ b, G b → w.heap.size ≤ b) : Apart F G := fun b h1 h2 => by
  have := hF b h1
  have := hG b h2
  omega
theorem st_copy1 (h : St w0 z o p r q u n m1 m2 n2 t1 t2 w) : Calls Try.prog 23 #[.pointer p] w fun e w' => ∃ p', e = .returned (.pointer p') ∧ Hid (St w0 z o p' r q u n m1 m2 n2 t1 t2 w') := by
  obtain ⟨F1, F2, F3, F4, h⟩ := h
  refine (s_copy h.s h.low.size).mono ?_
  rintro e w' ⟨p', rfl, hs⟩
  obtain ⟨G, k1, k2, k3⟩ := hs.out
  have hb := h.below k3
  exact ⟨p', rfl, G, F2, F3, F4, { hb with s := k1, a12 := (new_apart h.r.lt k2).symm, a13 := (new_apart h.t.lt k2).symm, a14 := (new_apart h.u.lt k2).symm, z1 := fun hz => by have := k2 z hz; have := lt_of_heap h.box; omega }⟩
theorem st_copy2 (h : St w0 z o p r q u n m1 m2 n2 t1 t2 w) : Calls Try.prog 24 #[.pointer r] w fun e w' => ∃ r', e = .returned (.pointer r') ∧ Hid (St w0 z o p r' q u n m1 m2 n2 t1 t2 w') := by
  obtain ⟨F1, F2, F3, F4, h⟩ := h
  refine (r_copy h.r h.low.size).mono ?_
  rintro e w' ⟨p', rfl, hs⟩
  obtain ⟨G, k1, k2, k3⟩ := hs.out
  have hb := h.below k3
  exact ⟨p', rfl, F1, G, F3, F4, { hb with r := k1, a12 := new_apart h.s.lt k2, a23 := (new_apart h.t.lt k2).symm, a24 := (new_apart h.u.lt k2).symm, z2 := fun hz => by have := k2 z hz; have := lt_of_heap h.box; omega }⟩
theorem st_next1 (h : St w0 z o p r q u n m1 m2 n2 t1 t2 w) (f : Int) : Calls Try.prog 25 #[.pointer p, .int .i64 f] w fun e w' => e = .returned (.tuple #[.int .i64 (nxt m1 f : Nat), .bool (nok m1 f)]) ∧ Below w.heap.size w w' := by
  obtain ⟨F1, F2, F3, F4, h⟩ := h
  exact s_next h.s f
theorem st_next2 (h : St w0 z o p r q u n m1 m2 n2 t1 t2 w) (f : Int) : Calls Try.prog 26 #[.pointer r, .int .i64 f] w fun e w' => e = .returned (.tuple #[.int .i64 (nxt m2 f : Nat), .bool (nok m2 f)]) ∧ Below w.heap.size w w' := by
  obtain ⟨F1, F2, F3, F4, h⟩ := h
  exact r_next h.r f
theorem st_lowest1 (h : St w0 z o p r q u n m1 m2 n2 t1 t2 w) : Calls Try.prog 27 #[.pointer p] w fun e w' => e = .returned (.tuple #[.int .i64 (nxt m1 0 : Nat), .bool (nok m1 0)]) ∧ Below w.heap.size w w' := by
  obtain ⟨F1, F2, F3, F4, h⟩ := h
  exact s_lowest h.s
theorem st_lowest2 (h : St w0 z o p r q u n m1 m2 n2 t1 t2 w) : Calls Try.prog 28 #[.pointer r] w fun e w' => e = .returned (.tuple #[.int .i64 (nxt m2 0 : Nat), .bool (nok m2 0)]) ∧ Below w.heap.size w w' := by
  obtain ⟨F1, F2, F3, F4, h⟩ := h
  exact r_lowest h.r
theorem st_has1 (h : St w0 z o p r q u n m1 m2 n2 t1 t2 w) (i : Int) : Calls Try.prog 29 #[.pointer p, .int .i64 i] w fun e w' => e = .returned (.bool (hasv n m1 i)) ∧ w = w' := by
  obtain ⟨F1, F2, F3, F4, h⟩ := h
  exact s_has h.s i
theorem st_has2 (h : St w0 z o p r q u n m1 m2 n2 t1 t2 w) (i : Int) : Calls Try.prog 30 #[.pointer r, .int .i64 i] w fun e w' => e = .returned (.bool (hasv n m2 i)) ∧ w = w' := by
  obtain ⟨F1, F2, F3, F4, h⟩ := h
  exact r_has h.r i
theorem st_size1 (h : St w0 z o p r q u n m1 m2 n2 t1 t2 w) : Calls Try.prog 31 #[.pointer p] w fun e w' => e = .returned (.int .i64 (n : Nat)) ∧ w = w' := by
  obtain ⟨F1, F2, F3, F4, h⟩ := h
  exact s_size h.s
theorem st_size2 (h : St w0 z o p r q u n m1 m2 n2 t1 t2 w) : Calls Try.prog 32 #[.pointer r] w fun e w' => e = .returned (.int .i64 (n : Nat)) ∧ w = w' := by
  obtain ⟨F1, F2, F3, F4, h⟩ := h
  exact r_size h.r
theorem st_all2 (h : St w0 z o p r q u n m1 m2 n2 t1 t2 w) : Calls Try.prog 34 #[.pointer r] w (Lists w m2) := by
  obtain ⟨F1, F2, F3, F4, h⟩ := h
  exact r_all h.r
theorem st_all4 (h : St w0 z o p r q u n m1 m2 n2 t1 t2 w) : Calls Try.prog 34 #[.pointer u] w (Lists w t2) := by
  obtain ⟨F1, F2, F3, F4, h⟩ := h
  exact r_all h.u
theorem st_same1 (h : St w0 z o p r q u n m1 m2 n2 t1 t2 w) {A : Option Addr} {c : Nat} (hl : SL w A (sl m1)) : Calls Try.prog 33 #[.pointer p, .slice A (sl m1).length c] w fun e w' => e = .returned (.bool true) ∧ Below w.heap.size w w' := by
  obtain ⟨F1, F2, F3, F4, h⟩ := h
  exact s_same h.s hl
theorem st_same3 (h : St w0 z o p r q u n m1 m2 n2 t1 t2 w) {A : Option Addr} {c : Nat} (hl : SL w A (sl t1)) : Calls Try.prog 33 #[.pointer q, .slice A (sl t1).length c] w fun e w' => e = .returned (.bool true) ∧ Below w.heap.size w w' := by
  obtain ⟨F1, F2, F3, F4, h⟩ := h
  exact s_same h.t hl
/-- A second pair is made. -/
def St1 (w0 : World) (z : Nat) (o : Obj) (p r q : Option Addr) (n m n2 : Nat) (w : World) : Prop := ∃ F1 F2 F3, SN w0 w p n m F1 ∧ RN w0 w r n m F2 ∧ SN w0 w q n2 0 F3 ∧ Apart F1 F2 ∧ Apart F1 F3 ∧ Apart F2 F3 ∧ Below w0.heap.size w0 w ∧ w.heap[z]? = some o ∧ ¬ F1 z ∧ ¬ F2 z ∧ ¬ F3 z
theorem st_new3 {V : World} (h : St0 w0 p r n m1 w) (hV : Below w.heap.size w V) (hz : V.heap[z]? = some o) (hzw : w.heap.size ≤ z) (k : Int) : Calls Try.prog 13 #[.int .i64 k] V fun e w' => ∃ q, e = .returned (.tuple #[.pointer q, .int .i64 (newc k)]) ∧ Hid (St1 w0 z o p r q n m1 (newn k) w') := by
  obtain ⟨F1, F2, h1, h2, h3, h4⟩ := h
  have h5 := h4.trans (hV.mono h4.size)
  refine (s_new k h5).mono ?_
  rintro e w' ⟨q, rfl, hs⟩
  obtain ⟨G, k1, k2, k3⟩ := hs.out
  have l1 : ∀ b, F1 b → b < V.heap.size := fun b hb => Nat.lt_of_lt_of_le (h1.lt b hb) hV.size
  have l2 : ∀ b, F2 b → b < V.heap.size := fun b hb => Nat.lt_of_lt_of_le (h2.lt b hb) hV.size
  exact ⟨q, rfl, F1, F2, G, (h1.below hV).below k3, (h2.below hV).below k3, k1, h3, new_apart l1 k2, new_apart l2 k2, h5.trans (k3.mono h5.size), (k3.block z (lt_of_heap hz)).trans hz,
    (fun hf => by have := h1.lt z hf; omega), (fun hf => by have := h2.lt z hf; omega), (fun hf => by have := k2 z hf; have := lt_of_heap hz; omega)⟩
theorem st_new4 (h : St1 w0 z o p r q n m1 n2 w) (k : Int) (hk : newn k = n2) : Calls Try.prog 14 #[.int .i64 k] w fun e w' => ∃ u, e = .returned (.tuple #[.pointer u, .int .i64 (newc k)]) ∧ Hid (St w0 z o p r q u n m1 m1 n2 0 0 w') := by
  obtain ⟨F1, F2, F3, h1, h2, h3, h4, h5, h6, h7, h8, h9, h10, h11⟩ := h
  refine (r_new k h7).mono ?_
  rintro e w' ⟨u, rfl, hs⟩
  obtain ⟨G, k1, k2, k3⟩ := hs.out
  rw [hk] at k1
  exact ⟨u, rfl, F1, F2, F3, G, ⟨h1.below k3, h2.below k3, h3.below k3, k1, h4, h5, new_apart h1.lt k2, h6, new_apart h2.lt k2, new_apart h3.lt k2, h7.trans (k3.mono h7.size), (k3.block z (lt_of_heap h8)).trans h8, h9, h10, h11, (fun hf => by have := k2 z hf; have := lt_of_heap h8; omega)⟩⟩
theorem st_first (k : Int) (w : World) : Calls Try.prog 13 #[.int .i64 k] w fun e w' => ∃ p, e = .returned (.tuple #[.pointer p, .int .i64 (newc k)]) ∧ Hid (∃ F, SN w w' p (newn k) 0 F ∧ Below w.heap.size w w') := by
  refine (s_new k (Below.refl _ w)).mono ?_
  rintro e w' ⟨p, rfl, hs⟩
  obtain ⟨G, k1, _, k3⟩ := hs.out
  exact ⟨p, rfl, G, k1, k3⟩
theorem st_second {F : Nat → Prop} (k : Int) (h : SN w0 w p (newn k) 0 F) (hl : Below w0.heap.size w0 w) : Calls Try.prog 14 #[.int .i64 k] w fun e w' => ∃ r, e = .returned (.tuple #[.pointer r, .int .i64 (newc k)]) ∧ Hid (St0 w0 p r (newn k) 0 w') := by
  refine (r_new k hl).mono ?_
  rintro e w' ⟨r, rfl, hs⟩
  obtain ⟨G, k1, k2, k3⟩ := hs.out
  exact ⟨r, rfl, F, G, h.below k3, k1, new_apart h.lt k2, hl.trans (k3.mono hl.size)⟩
end
end Go.Proofs.Ytpdipcgchhibeaa
