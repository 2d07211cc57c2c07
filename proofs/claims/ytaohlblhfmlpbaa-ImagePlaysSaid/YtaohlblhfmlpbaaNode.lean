/- An image and the reference's, side by side; those from which they were copied. -/
import Derived.Test.YtaohlblhfmlpbaaShows
namespace Go.Proofs.Ytaohlblhfmlpbaa
open Go.RowKit
/-- An image and the reference's, in the same state, their blocks F. -/
def Node (w0 w : World) (P Q : Nat) (F : Nat → Prop) : Prop :=
  ∃ sz d v u l, IOwn w w0.heap.size P sz d v l ∧ ROwn w w0.heap.size Q sz d u l ∧ Apart (Foot P v) (Foot Q u) ∧ (F = fun b => Foot P v b ∨ Foot Q u b)
/-- What an operation leaves of both. -/
def Next (w0 w : World) (P Q : Nat) (F : Nat → Prop) (w' : World) : Prop := ∃ F', Node w0 w' P Q F' ∧ Turn F F' w w'
section
variable {w0 w : World} {P Q : Nat} {F : Nat → Prop}
theorem Node.shows (h : Node w0 w P Q F) (i j : Int) (hi : i < 9223372036854775808) (hj : j < 9223372036854775808) : Calls Try.prog 23 #[.pointer (some ⟨P, 0, none⟩), .pointer (some ⟨Q, 0, none⟩), .int .i64 i, .int .i64 j] w fun e w' => e = .returned (.bool true) ∧ Below w.heap.size w w' := by
  obtain ⟨sz, d, v, u, l, h1, h2, _⟩ := h
  exact shows_any h1 h2 i j hi hj
theorem Node.lt (h : Node w0 w P Q F) : ∀ b, F b → b < w.heap.size := by
  obtain ⟨sz, d, v, u, l, h1, h2, _, rfl⟩ := h
  rintro b (hb | hb)
  · exact h1.foot_lt b hb
  · exact h2.foot_lt b hb
theorem Node.le (h : Node w0 w P Q F) : ∀ b, F b → w0.heap.size ≤ b := by
  obtain ⟨sz, d, v, u, l, h1, h2, _, rfl⟩ := h
  rintro b (hb | hb)
  · exact h1.foot_le b hb
  · exact h2.foot_le b hb
theorem Node.same {w' : World} (h : Node w0 w P Q F) (hb : ∀ b, F b → w'.heap[b]? = w.heap[b]?) : Node w0 w' P Q F := by
  obtain ⟨sz, d, v, u, l, h1, h2, h3, rfl⟩ := h
  exact ⟨sz, d, v, u, l, h1.same fun b hF => hb b (.inl hF), h2.same fun b hF => hb b (.inr hF), h3, rfl⟩
theorem Node.below {w' : World} (h : Node w0 w P Q F) (hb : Below w.heap.size w w') : Node w0 w' P Q F := h.same fun b hF => hb.block b (h.lt b hF)
theorem Node.turned {w' : World} {G G' : Nat → Prop} (h : Node w0 w P Q F) (hT : Turn G G' w w') (hA : Apart G F) : Node w0 w' P Q F := h.same (hT.same hA h.lt)
/-- A turn of a part is one of the whole. -/
theorem turn_left {F F' G : Nat → Prop} {a b : World} (h : Turn F F' a b) : Turn (fun b => F b ∨ G b) (fun b => F' b ∨ G b) a b :=
  ⟨h.but.mono' fun _ hb => .inl hb, fun b hb => hb.elim (fun h1 => (h.own b h1).imp_left .inl) fun h1 => .inl (.inr h1)⟩
theorem turn_right {F F' G : Nat → Prop} {a b : World} (h : Turn F F' a b) : Turn (fun b => G b ∨ F b) (fun b => G b ∨ F' b) a b :=
  ⟨h.but.mono' fun _ hb => .inr hb, fun b hb => hb.elim (fun h1 => .inl (.inl h1)) fun h1 => (h.own b h1).imp_left .inr⟩
theorem but_left {F G : Nat → Prop} {a b : World} (h : But F a b) : But (fun b => F b ∨ G b) a b := h.mono' fun _ hb => .inl hb
theorem sides_end {sz d' : Nat} {v u : Value} {w1 w2 : World} {v' u' : Value} {l' : List E}
    (h1 : IOwn w1 w0.heap.size P sz d' v' l') (ht : Turn (Foot P v) (Foot P v') w w1) (hA : Apart (Foot P v') (Foot Q u)) (h2 : ROwn w2 w0.heap.size Q sz d' u' l') (ht2 : Turn (Foot Q u) (Foot Q u') w1 w2) :
    Next w0 w P Q (fun b => Foot P v b ∨ Foot Q u b) w2 :=
  ⟨_, ⟨sz, d', v', u', l', h1.turned ht2 hA.symm, h2, (ht2.apart hA.symm h1.foot_lt).symm, rfl⟩, (turn_left (G := Foot Q u) ht).trans (turn_right ht2)⟩
theorem node_append (h : Node w0 w P Q F) (hl : Below w0.heap.size w0 w) {A : Option Addr} {n c : Nat} {xs : List E} (hs : SB w0 A n xs) (hA : A = none → c = 0) : ∃ (k : Int) (Mid : World → Prop),
    (Calls Try.prog 13 #[.pointer (some ⟨P, 0, none⟩), .slice A n c] w fun e w1 => e = .returned (.int .i64 k) ∧ Hid (Mid w1 ∧ But F w w1)) ∧
    ∀ w1, Mid w1 → Calls Try.prog 14 #[.pointer (some ⟨Q, 0, none⟩), .slice A n c] w1 fun e w2 => e = .returned (.int .i64 k) ∧ Hid (Next w0 w P Q F w2) := by
  obtain ⟨sz, d, v, u, l, h1, h2, h3, rfl⟩ := h
  by_cases hn : l.length + n ≤ sz
  · refine ⟨0, fun w1 => ∃ v', IOwn w1 w0.heap.size P sz d v' (l ++ xs) ∧ Turn (Foot P v) (Foot P v') w w1, (append_any h1 (hs.below hl) hA hn).mono ?_, ?_⟩
    · rintro e w1 ⟨rfl, v', k1, k2⟩
      exact ⟨rfl, ⟨v', k1, k2⟩, but_left k2.but⟩
    · rintro w1 ⟨v', k1, k2⟩
      refine (rappend_any (h2.turned k2 h3) (hs.below (hl.trans (k2.below hl.size h1.foot_le).1)) hA hn).mono ?_
      rintro e w2 ⟨rfl, u', k3, k4⟩
      exact ⟨rfl, sides_end k1 k2 (k2.apart h3 h2.foot_lt) k3 k4⟩
  · refine ⟨4, fun w1 => w = w1, (append_full h1 A n c (by omega)).mono ?_, ?_⟩
    · rintro e _ ⟨rfl, rfl⟩
      exact ⟨rfl, rfl, But.refl _ _⟩
    · rintro _ rfl
      refine (rappend_full h2 A n c (by omega)).mono ?_
      rintro e w2 ⟨rfl, hb⟩
      exact ⟨rfl, sides_end h1 (Turn.refl _ _) h3 (h2.below hb) (Turn.of_below hb)⟩
theorem node_crash (h : Node w0 w P Q F) (i : Int) (hi : i < 9223372036854775808) : ∃ (k : Int) (Mid : World → Prop),
    (Calls Try.prog 17 #[.pointer (some ⟨P, 0, none⟩), .int .i64 i] w fun e w1 => e = .returned (.int .i64 k) ∧ Hid (Mid w1 ∧ But F w w1)) ∧
    ∀ w1, Mid w1 → Calls Try.prog 18 #[.pointer (some ⟨Q, 0, none⟩), .int .i64 i] w1 fun e w2 => e = .returned (.int .i64 k) ∧ Hid (Next w0 w P Q F w2) := by
  obtain ⟨sz, d, v, u, l, h1, h2, h3, rfl⟩ := h
  by_cases h0 : 0 ≤ i
  · obtain ⟨q, rfl⟩ : ∃ q : Nat, i = q := ⟨i.toNat, by omega⟩
    refine ⟨0, fun w1 => ∃ v', IOwn w1 w0.heap.size P sz (kept d q l.length) v' (l.take (kept d q l.length)) ∧ Turn (Foot P v) (Foot P v') w w1, (crash_any h1 q (by omega)).mono ?_, ?_⟩
    · rintro e w1 ⟨rfl, v', k1, k2⟩
      exact ⟨rfl, ⟨v', k1, k2⟩, but_left k2.but⟩
    · rintro w1 ⟨v', k1, k2⟩
      refine (rcrash_any (h2.turned k2 h3) q (by omega)).mono ?_
      rintro e w2 ⟨rfl, u', k3, k4⟩
      exact ⟨rfl, sides_end k1 k2 (k2.apart h3 h2.foot_lt) k3 k4⟩
  · refine ⟨2, fun w1 => w = w1, (crash_arg h1 i (by omega)).mono ?_, ?_⟩
    · rintro e _ ⟨rfl, rfl⟩
      exact ⟨rfl, rfl, But.refl _ _⟩
    · rintro _ rfl
      refine (rcrash_arg h2 i (by omega)).mono ?_
      rintro e _ ⟨rfl, rfl⟩
      exact ⟨rfl, sides_end h1 (Turn.refl _ _) h3 h2 (Turn.refl _ _)⟩
theorem node_sync (h : Node w0 w P Q F) : ∃ (Mid : World → Prop),
    (Calls Try.prog 15 #[.pointer (some ⟨P, 0, none⟩)] w fun e w1 => e = .returned (.tuple #[]) ∧ Hid (Mid w1)) ∧
    ∀ w1, Mid w1 → Calls Try.prog 16 #[.pointer (some ⟨Q, 0, none⟩)] w1 fun e w2 => e = .returned (.tuple #[]) ∧ Hid (Next w0 w P Q F w2) := by
  obtain ⟨sz, d, v, u, l, h1, h2, h3, rfl⟩ := h
  refine ⟨fun w1 => IOwn w1 w0.heap.size P sz l.length v l ∧ Turn (Foot P v) (Foot P v) w w1, (sync_any h1).mono fun e w1 g => ⟨g.1, g.2⟩, ?_⟩
  rintro w1 ⟨k1, k2⟩
  refine (rsync_any (h2.turned k2 h3)).mono ?_
  rintro e w2 ⟨rfl, g⟩
  exact ⟨rfl, sides_end k1 k2 (k2.apart h3 h2.foot_lt) g.out.1 g.out.2⟩
theorem node_erase (h : Node w0 w P Q F) : ∃ (Mid : World → Prop),
    (Calls Try.prog 19 #[.pointer (some ⟨P, 0, none⟩)] w fun e w1 => e = .returned (.tuple #[]) ∧ Hid (Mid w1)) ∧
    ∀ w1, Mid w1 → Calls Try.prog 20 #[.pointer (some ⟨Q, 0, none⟩)] w1 fun e w2 => e = .returned (.tuple #[]) ∧ Hid (Next w0 w P Q F w2) := by
  obtain ⟨sz, d, v, u, l, h1, h2, h3, rfl⟩ := h
  refine ⟨fun w1 => IOwn w1 w0.heap.size P sz 0 (.slice none 0 0) [] ∧ Turn (Foot P v) (Foot P (.slice none 0 0)) w w1, (erase_any h1).mono fun e w1 g => ⟨g.1, g.2⟩, ?_⟩
  rintro w1 ⟨k1, k2⟩
  refine (rerase_any (h2.turned k2 h3)).mono ?_
  rintro e w2 ⟨rfl, g⟩
  exact ⟨rfl, sides_end k1 k2 (k2.apart h3 h2.foot_lt) g.out.1 g.out.2⟩
/-- A pair that is new. -/
def Fresh (w0 w : World) (P Q : Nat) (w' : World) : Prop := ∃ F, Node w0 w' P Q F ∧ Below w.heap.size w w' ∧ ∀ b, F b → w.heap.size ≤ b
theorem fresh_pair {sz d : Nat} {v u : Value} {l : List E} {w1 w2 : World} (hl : w0.heap.size ≤ w.heap.size) (h1 : IOwn w1 w.heap.size P sz d v l) (hb1 : Below w.heap.size w w1) (h2 : ROwn w2 w1.heap.size Q sz d u l) (hb2 : Below w1.heap.size w1 w2) : Fresh w0 w P Q w2 := by
  have hs := hb1.size
  refine ⟨_, ⟨sz, d, v, u, l, ?_, ?_, ?_, rfl⟩, hb1.trans (hb2.mono hs), ?_⟩
  · have := h1.below hb2
    exact ⟨Nat.le_trans hl this.hP, this.blk, owns_le this.row hl, this.dle, this.le, this.sz_le⟩
  · exact ⟨Nat.le_trans (Nat.le_trans hl hs) h2.hP, h2.blk, owns_le h2.row (Nat.le_trans hl hs), h2.dle, h2.le, h2.pos, h2.sz_le⟩
  · intro b ha hb
    have := h1.foot_lt b ha
    have := h2.foot_le b hb
    omega
  · rintro b (hb | hb)
    · exact h1.foot_le b hb
    · have := h2.foot_le b hb
      omega
theorem node_copy (h : Node w0 w P Q F) (hl : w0.heap.size ≤ w.heap.size) : ∃ (P' : Nat) (Mid : World → Prop),
    (Calls Try.prog 21 #[.pointer (some ⟨P, 0, none⟩)] w fun e w1 => e = .returned (.pointer (some ⟨P', 0, none⟩)) ∧ Hid (Mid w1)) ∧
    ∀ w1, Mid w1 → Calls Try.prog 22 #[.pointer (some ⟨Q, 0, none⟩)] w1 fun e w2 => ∃ Q', e = .returned (.pointer (some ⟨Q', 0, none⟩)) ∧ Hid (Fresh w0 w P' Q' w2) := by
  obtain ⟨sz, d, v, u, l, h1, h2, h3, rfl⟩ := h
  refine ⟨w.heap.size, fun w1 => ∃ v', IOwn w1 w.heap.size w.heap.size sz d v' l ∧ Below w.heap.size w w1, (copy_any h1).mono fun e w1 g => ⟨g.1, g.2⟩, ?_⟩
  rintro w1 ⟨v', k1, k2⟩
  refine (rcopy_any (h2.below k2)).mono ?_
  rintro e w2 ⟨R, rfl, g⟩
  obtain ⟨u', k3, k4⟩ := g.out
  exact ⟨R, rfl, fresh_pair hl k1 k2 k3 k4⟩
theorem node_new (n : Nat) (w : World) (h1 : 1 ≤ n) (h : n ≤ 8192) : ∃ (Mid : World → Prop),
    (Calls Try.prog 11 #[.int .i64 (n : Nat)] w fun e w1 => e = .returned (.tuple #[.pointer (some ⟨w.heap.size, 0, none⟩), .int .i64 0]) ∧ Hid (Mid w1)) ∧
    ∀ w1, Mid w1 → Calls Try.prog 12 #[.int .i64 (n : Nat)] w1 fun e w2 => ∃ Q, e = .returned (.tuple #[.pointer (some ⟨Q, 0, none⟩), .int .i64 0]) ∧ Hid (Fresh w w w.heap.size Q w2) := by
  refine ⟨fun w1 => IOwn w1 w.heap.size w.heap.size n 0 (.slice none 0 0) [] ∧ Below w.heap.size w w1, (new_any n w h1 h).mono fun e w1 g => ⟨g.1, g.2⟩, ?_⟩
  rintro w1 ⟨k1, k2⟩
  refine (rnew_any n w1 h1 h).mono ?_
  rintro e w2 ⟨rfl, g⟩
  exact ⟨_, rfl, fresh_pair (Nat.le_refl _) k1 k2 g.out.1 g.out.2⟩
end
theorem Node.back {w0 w' w : World} {P Q : Nat} {F : Nat → Prop} (h : Node w' w P Q F) (hb : w0.heap.size ≤ w'.heap.size) : Node w0 w P Q F := by
  obtain ⟨sz, d, v, u, l, h1, h2, h3, h4⟩ := h
  exact ⟨sz, d, v, u, l, ⟨Nat.le_trans hb h1.hP, h1.blk, owns_le h1.row hb, h1.dle, h1.le, h1.sz_le⟩, ⟨Nat.le_trans hb h2.hP, h2.blk, owns_le h2.row hb, h2.dle, h2.le, h2.pos, h2.sz_le⟩, h3, h4⟩
/-- Image and reference, and those from which they were copied, apart. -/
def St (w0 : World) (P Q : Nat) (p2 q2 : Option Addr) (w : World) : Prop := ∃ F, Node w0 w P Q F ∧ Below w0.heap.size w0 w ∧
  ((p2 = none ∧ q2 = none) ∨ ∃ P2 Q2 G, p2 = some ⟨P2, 0, none⟩ ∧ q2 = some ⟨Q2, 0, none⟩ ∧ Node w0 w P2 Q2 G ∧ Apart F G)
section
variable {w0 w V : World} {P Q : Nat} {p2 q2 : Option Addr}
theorem St.low (h : St w0 P Q p2 q2 w) : Below w0.heap.size w0 w := by
  obtain ⟨F, h1, h2, h3⟩ := h
  exact h2
theorem St.below {w' : World} (h : St w0 P Q p2 q2 w) (hb : Below w.heap.size w w') : St w0 P Q p2 q2 w' := by
  obtain ⟨F, h1, h2, h3⟩ := h
  refine ⟨F, h1.below hb, h2.trans (hb.mono h2.size), ?_⟩
  rcases h3 with h3 | ⟨P2, Q2, G, e1, e2, h4, h5⟩
  · exact .inl h3
  · exact .inr ⟨P2, Q2, G, e1, e2, h4.below hb, h5⟩
theorem St.shows (h : St w0 P Q p2 q2 w) (i j : Int) (hi : i < 9223372036854775808) (hj : j < 9223372036854775808) : Calls Try.prog 23 #[.pointer (some ⟨P, 0, none⟩), .pointer (some ⟨Q, 0, none⟩), .int .i64 i, .int .i64 j] w fun e w' => e = .returned (.bool true) ∧ Below w.heap.size w w' := by
  obtain ⟨F, h1, _⟩ := h
  exact h1.shows i j hi hj
theorem St.old (h : St w0 P Q p2 q2 w) : (p2 = none ∧ q2 = none) ∨ ∃ P2 Q2, p2 = some ⟨P2, 0, none⟩ ∧ q2 = some ⟨Q2, 0, none⟩ := by
  obtain ⟨F, _, _, h3⟩ := h
  rcases h3 with h3 | ⟨P2, Q2, G, e1, e2, _⟩
  · exact .inl h3
  · exact .inr ⟨P2, Q2, e1, e2⟩
theorem St.shows2 {P2 Q2 : Nat} (h : St w0 P Q (some ⟨P2, 0, none⟩) (some ⟨Q2, 0, none⟩) w) (i j : Int) (hi : i < 9223372036854775808) (hj : j < 9223372036854775808) : Calls Try.prog 23 #[.pointer (some ⟨P2, 0, none⟩), .pointer (some ⟨Q2, 0, none⟩), .int .i64 i, .int .i64 j] w fun e w' => e = .returned (.bool true) ∧ Below w.heap.size w w' := by
  obtain ⟨F, _, _, h3⟩ := h
  rcases h3 with ⟨h3, _⟩ | ⟨P3, Q3, G, e1, e2, h4, _⟩
  · cases h3
  · cases e1
    cases e2
    exact h4.shows i j hi hj
theorem st_start {w1 : World} (h : Fresh w w P Q w1) (hl : Below w0.heap.size w0 w) : St w0 P Q none none w1 := by
  obtain ⟨F, h1, h2, _⟩ := h
  exact ⟨F, h1.back hl.size, hl.trans (h2.mono hl.size), .inl ⟨rfl, rfl⟩⟩
theorem st_next {w' : World} {F : Nat → Prop} (h1 : Node w0 w P Q F) (h2 : Below w0.heap.size w0 w) (h3 : (p2 = none ∧ q2 = none) ∨ ∃ P2 Q2 G, p2 = some ⟨P2, 0, none⟩ ∧ q2 = some ⟨Q2, 0, none⟩ ∧ Node w0 w P2 Q2 G ∧ Apart F G) (hN : Next w0 w P Q F w') : St w0 P Q p2 q2 w' := by
  obtain ⟨F', k1, k2⟩ := hN
  refine ⟨F', k1, h2.trans (k2.below h2.size h1.le).1, ?_⟩
  rcases h3 with h3 | ⟨P2, Q2, G, e1, e2, h4, h5⟩
  · exact .inl h3
  · exact .inr ⟨P2, Q2, G, e1, e2, h4.turned k2 h5, k2.apart h5 h4.lt⟩
theorem node_keep {F : Nat → Prop} {w' : World} (hb : But F w w') {z : Nat} {o : Obj} (hz : w.heap[z]? = some o) (hF : ¬ F z) : w'.heap[z]? = some o := (hb.block z (lt_of_heap hz) hF).trans hz
/-- The parts in a later world; the blocks were there before. -/
theorem St.parts (h : St w0 P Q p2 q2 w) (hV : Below w.heap.size w V) : ∃ F, Node w0 V P Q F ∧ Below w0.heap.size w0 V ∧
    ((p2 = none ∧ q2 = none) ∨ ∃ P2 Q2 G, p2 = some ⟨P2, 0, none⟩ ∧ q2 = some ⟨Q2, 0, none⟩ ∧ Node w0 V P2 Q2 G ∧ Apart F G) ∧ ∀ b, F b → b < w.heap.size := by
  obtain ⟨F, h1, h2, h3⟩ := h
  refine ⟨F, h1.below hV, h2.trans (hV.mono h2.size), ?_, h1.lt⟩
  rcases h3 with h3 | ⟨P2, Q2, G, e1, e2, h4, h5⟩
  · exact .inl h3
  · exact .inr ⟨P2, Q2, G, e1, e2, h4.below hV, h5⟩
theorem st_append {z : Nat} {o : Obj} (h : St w0 P Q p2 q2 w) (hV : Below w.heap.size w V) (hz : V.heap[z]? = some o) (hzw : w.heap.size ≤ z) {A : Option Addr} {n c : Nat} {xs : List E} (hs : SB w0 A n xs) (hA : A = none → c = 0) : ∃ (k : Int) (Mid : World → Prop),
    (Calls Try.prog 13 #[.pointer (some ⟨P, 0, none⟩), .slice A n c] V fun e w1 => e = .returned (.int .i64 k) ∧ Hid (Mid w1 ∧ w1.heap[z]? = some o)) ∧
    ∀ w1, Mid w1 → Calls Try.prog 14 #[.pointer (some ⟨Q, 0, none⟩), .slice A n c] w1 fun e w2 => e = .returned (.int .i64 k) ∧ Hid (St w0 P Q p2 q2 w2 ∧ w2.heap[z]? = some o) := by
  obtain ⟨F, h1, h2, h3, hlt⟩ := h.parts hV
  obtain ⟨k, Mid, k1, k2⟩ := node_append h1 h2 hs hA
  have hz' : ¬ F z := fun hb => by have := hlt z hb; omega
  refine ⟨k, Mid, k1.mono fun e w1 hw => ⟨hw.1, hw.2.out.1, node_keep hw.2.out.2 hz hz'⟩, fun w1 hm => (k2 w1 hm).mono fun e w2 hw => ⟨hw.1, st_next h1 h2 h3 hw.2.out, ?_⟩⟩
  obtain ⟨F'', _, hT⟩ := hw.2.out
  exact node_keep hT.but hz hz'
theorem st_crash {z : Nat} {o : Obj} (h : St w0 P Q p2 q2 w) (hV : Below w.heap.size w V) (hz : V.heap[z]? = some o) (hzw : w.heap.size ≤ z) (i : Int) (hi : i < 9223372036854775808) : ∃ (k : Int) (Mid : World → Prop),
    (Calls Try.prog 17 #[.pointer (some ⟨P, 0, none⟩), .int .i64 i] V fun e w1 => e = .returned (.int .i64 k) ∧ Hid (Mid w1 ∧ w1.heap[z]? = some o)) ∧
    ∀ w1, Mid w1 → Calls Try.prog 18 #[.pointer (some ⟨Q, 0, none⟩), .int .i64 i] w1 fun e w2 => e = .returned (.int .i64 k) ∧ Hid (St w0 P Q p2 q2 w2 ∧ w2.heap[z]? = some o) := by
  obtain ⟨F, h1, h2, h3, hlt⟩ := h.parts hV
  obtain ⟨k, Mid, k1, k2⟩ := node_crash h1 i hi
  have hz' : ¬ F z := fun hb => by have := hlt z hb; omega
  refine ⟨k, Mid, k1.mono fun e w1 hw => ⟨hw.1, hw.2.out.1, node_keep hw.2.out.2 hz hz'⟩, fun w1 hm => (k2 w1 hm).mono fun e w2 hw => ⟨hw.1, st_next h1 h2 h3 hw.2.out, ?_⟩⟩
  obtain ⟨F'', _, hT⟩ := hw.2.out
  exact node_keep hT.but hz hz'
theorem st_sync (h : St w0 P Q p2 q2 w) : ∃ (Mid : World → Prop),
    (Calls Try.prog 15 #[.pointer (some ⟨P, 0, none⟩)] w fun e w1 => e = .returned (.tuple #[]) ∧ Hid (Mid w1)) ∧
    ∀ w1, Mid w1 → Calls Try.prog 16 #[.pointer (some ⟨Q, 0, none⟩)] w1 fun e w2 => e = .returned (.tuple #[]) ∧ Hid (St w0 P Q p2 q2 w2) := by
  obtain ⟨F, h1, h2, h3⟩ := h
  obtain ⟨Mid, k1, k2⟩ := node_sync h1
  exact ⟨Mid, k1, fun w1 hm => (k2 w1 hm).mono fun e w2 hw => ⟨hw.1, st_next h1 h2 h3 hw.2.out⟩⟩
theorem st_erase (h : St w0 P Q p2 q2 w) : ∃ (Mid : World → Prop),
    (Calls Try.prog 19 #[.pointer (some ⟨P, 0, none⟩)] w fun e w1 => e = .returned (.tuple #[]) ∧ Hid (Mid w1)) ∧
    ∀ w1, Mid w1 → Calls Try.prog 20 #[.pointer (some ⟨Q, 0, none⟩)] w1 fun e w2 => e = .returned (.tuple #[]) ∧ Hid (St w0 P Q p2 q2 w2) := by
  obtain ⟨F, h1, h2, h3⟩ := h
  obtain ⟨Mid, k1, k2⟩ := node_erase h1
  exact ⟨Mid, k1, fun w1 hm => (k2 w1 hm).mono fun e w2 hw => ⟨hw.1, st_next h1 h2 h3 hw.2.out⟩⟩
theorem st_copy (h : St w0 P Q p2 q2 w) : ∃ (P' : Nat) (Mid : World → Prop),
    (Calls Try.prog 21 #[.pointer (some ⟨P, 0, none⟩)] w fun e w1 => e = .returned (.pointer (some ⟨P', 0, none⟩)) ∧ Hid (Mid w1)) ∧
    ∀ w1, Mid w1 → Calls Try.prog 22 #[.pointer (some ⟨Q, 0, none⟩)] w1 fun e w2 => ∃ Q', e = .returned (.pointer (some ⟨Q', 0, none⟩)) ∧ Hid (St w0 P' Q' (some ⟨P, 0, none⟩) (some ⟨Q, 0, none⟩) w2) := by
  obtain ⟨F, h1, h2, _⟩ := h
  obtain ⟨P', Mid, k1, k2⟩ := node_copy h1 h2.size
  refine ⟨P', Mid, k1, fun w1 hm => (k2 w1 hm).mono fun e w2 hw => ?_⟩
  obtain ⟨Q', he, hf⟩ := hw
  obtain ⟨F', f1, f2, f3⟩ := hf.out
  refine ⟨Q', he, F', f1, h2.trans (f2.mono h2.size), .inr ⟨P, Q, F, rfl, rfl, h1.below f2, fun b ha hb => ?_⟩⟩
  have := f3 b ha
  have := h1.lt b hb
  omega
end
end Go.Proofs.Ytaohlblhfmlpbaa
