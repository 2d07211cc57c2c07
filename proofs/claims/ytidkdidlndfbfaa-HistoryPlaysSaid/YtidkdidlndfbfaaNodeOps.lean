/- A list and the reference's, side by side: the operations. -/
import Derived.Test.YtidkdidlndfbfaaNode
namespace Go.Proofs.Ytidkdidlndfbfaa.HS
open Go.RowKit
theorem radd_nil (x : E) (w : World) : Calls Try.prog 14 #[.pointer none, .string x] w fun e w' => e = .returned (.int .i64 1) ∧ w = w' := by
  go_enter Try.func14, Try.ntmps14
  go_wp2_with (go_at_call 46; refine (rvalid_nil _).mono ?_; rintro e w' ⟨rfl, rfl⟩)
  go_ret
  exact ⟨rfl, rfl⟩
theorem rcut_nil (i : Int) (w : World) : Calls Try.prog 18 #[.pointer none, .int .i64 i] w fun e w' => e = .returned (.int .i64 1) ∧ w = w' := by
  go_enter Try.func18, Try.ntmps18
  go_wp2_with (go_at_call 46; refine (rvalid_nil _).mono ?_; rintro e w' ⟨rfl, rfl⟩)
  go_ret
  exact ⟨rfl, rfl⟩
theorem rmark_nil (w : World) : Calls Try.prog 16 #[.pointer none] w fun e w' => e = .returned (.tuple #[]) ∧ w = w' := by
  go_enter Try.func16, Try.ntmps16
  go_wp2_with (go_at_call 46; refine (rvalid_nil _).mono ?_; rintro e w' ⟨rfl, rfl⟩)
  go_end0
  exact ⟨rfl, rfl⟩
theorem rclear_nil (w : World) : Calls Try.prog 20 #[.pointer none] w fun e w' => e = .returned (.tuple #[]) ∧ w = w' := by
  go_enter Try.func20, Try.ntmps20
  go_wp2_with (go_at_call 46; refine (rvalid_nil _).mono ?_; rintro e w' ⟨rfl, rfl⟩)
  go_end0
  exact ⟨rfl, rfl⟩
theorem rcopy_nil (w : World) : Calls Try.prog 22 #[.pointer none] w fun e w' => e = .returned (.pointer none) ∧ w = w' := by
  go_enter Try.func22, Try.ntmps22
  go_wp2_with (go_at_call 46; refine (rvalid_nil _).mono ?_; rintro e w' ⟨rfl, rfl⟩)
  go_ret
  exact ⟨rfl, rfl⟩
section
variable {w0 w : World} {p q : Option Addr} {F : Nat → Prop} {n : Nat}
theorem next_nil (n : Nat) : Next w0 w none none (fun _ => False) n w := ⟨_, .inl ⟨rfl, rfl, rfl⟩, Turn.refl _ _⟩
theorem but_left {F G : Nat → Prop} {a b : World} (h : But F a b) : But (fun b => F b ∨ G b) a b := h.mono' fun _ hb => .inl hb
theorem node_add (h : Node w0 w p q F n) (x : E) : ∃ (c : Int) (Mid : World → Prop), (Calls Try.prog 13 #[.pointer p, .string x] w fun e w1 => e = .returned (.int .i64 c) ∧ Hid (Mid w1 ∧ But F w w1)) ∧
    ∀ w1, Mid w1 → Calls Try.prog 14 #[.pointer q, .string x] w1 fun e w2 => e = .returned (.int .i64 c) ∧ Hid (Next w0 w p q F (n + 1) w2) := by
  rcases h with ⟨rfl, rfl, rfl⟩ | ⟨P, Q, lim, mk, v, u, l, rfl, rfl, h1, h2, h3, rfl, h4⟩
  · refine ⟨1, fun w1 => w = w1, (add_bad none x w (.inl rfl)).mono ?_, ?_⟩
    · rintro e _ ⟨rfl, rfl⟩
      exact ⟨rfl, rfl, But.refl _ _⟩
    · rintro _ rfl
      refine (radd_nil x w).mono ?_
      rintro e _ ⟨rfl, rfl⟩
      exact ⟨rfl, next_nil _⟩
  · by_cases hl : l.length = lim
    · refine ⟨4, fun w1 => Below w.heap.size w w1, (add_full h1 hl x).mono ?_, ?_⟩
      · rintro e w1 ⟨rfl, hb⟩
        exact ⟨rfl, hb, But.of_below hb⟩
      · intro w1 hb
        refine (radd_full (h2.below hb) hl x).mono ?_
        rintro e w2 ⟨rfl, hb2⟩
        exact ⟨rfl, sides_end (h1.below hb) (Turn.of_below hb) h3 ((h2.below hb).below hb2) (Turn.of_below hb2) (by omega)⟩
    · have hl' : l.length < lim := by have := h1.le; omega
      refine ⟨0, fun w1 => ∃ v', HOwn w1 w0.heap.size P lim mk v' (l ++ [x]) ∧ Turn (Foot P v) (Foot P v') w w1, (add_any h1 hl' x).mono ?_, ?_⟩
      · rintro e w1 ⟨rfl, v', k1, k2⟩
        exact ⟨rfl, ⟨v', k1, k2⟩, but_left k2.but⟩
      · rintro w1 ⟨v', k1, k2⟩
        refine (radd_any (h2.turned k2 h3) hl' x).mono ?_
        rintro e w2 ⟨rfl, u', k3, k4⟩
        exact ⟨rfl, sides_end k1 k2 (k2.apart h3 h2.foot_lt) k3 k4 (by simp; omega)⟩
theorem node_cut (h : Node w0 w p q F n) (i : Int) : ∃ (c : Int) (Mid : World → Prop), (Calls Try.prog 17 #[.pointer p, .int .i64 i] w fun e w1 => e = .returned (.int .i64 c) ∧ Hid (Mid w1 ∧ But F w w1)) ∧
    ∀ w1, Mid w1 → Calls Try.prog 18 #[.pointer q, .int .i64 i] w1 fun e w2 => e = .returned (.int .i64 c) ∧ Hid (Next w0 w p q F (n + 1) w2) := by
  rcases h with ⟨rfl, rfl, rfl⟩ | ⟨P, Q, lim, mk, v, u, l, rfl, rfl, h1, h2, h3, rfl, h4⟩
  · refine ⟨1, fun w1 => w = w1, (cut_bad none i w (.inl rfl)).mono ?_, ?_⟩
    · rintro e _ ⟨rfl, rfl⟩
      exact ⟨rfl, rfl, But.refl _ _⟩
    · rintro _ rfl
      refine (rcut_nil i w).mono ?_
      rintro e _ ⟨rfl, rfl⟩
      exact ⟨rfl, next_nil _⟩
  · by_cases hi : (mk : Int) ≤ i ∧ i ≤ (l.length : Int)
    · obtain ⟨k, rfl⟩ : ∃ k : Nat, i = k := ⟨i.toNat, by omega⟩
      refine ⟨0, fun w1 => ∃ v', HOwn w1 w0.heap.size P lim mk v' (l.take k) ∧ Turn (Foot P v) (Foot P v') w w1, (cut_any h1 k (by omega) (by omega)).mono ?_, ?_⟩
      · rintro e w1 ⟨rfl, v', k1, k2⟩
        exact ⟨rfl, ⟨v', k1, k2⟩, but_left k2.but⟩
      · rintro w1 ⟨v', k1, k2⟩
        refine (rcut_any (h2.turned k2 h3) k (by omega) (by omega)).mono ?_
        rintro e w2 ⟨rfl, u', k3, k4⟩
        exact ⟨rfl, sides_end k1 k2 (k2.apart h3 h2.foot_lt) k3 k4 (by simp; omega)⟩
    · have hi' : i < mk ∨ (l.length : Int) < i := by omega
      refine ⟨3, fun w1 => w = w1, (cut_out h1 i hi').mono ?_, ?_⟩
      · rintro e _ ⟨rfl, rfl⟩
        exact ⟨rfl, rfl, But.refl _ _⟩
      · rintro _ rfl
        refine (rcut_out h2 i hi').mono ?_
        rintro e _ ⟨rfl, rfl⟩
        exact ⟨rfl, sides_end h1 (Turn.refl _ _) h3 h2 (Turn.refl _ _) (by omega)⟩
theorem node_mark (h : Node w0 w p q F n) : ∃ (Mid : World → Prop), (Calls Try.prog 15 #[.pointer p] w fun e w1 => e = .returned (.tuple #[]) ∧ Hid (Mid w1)) ∧
    ∀ w1, Mid w1 → Calls Try.prog 16 #[.pointer q] w1 fun e w2 => e = .returned (.tuple #[]) ∧ Hid (Next w0 w p q F (n + 1) w2) := by
  rcases h with ⟨rfl, rfl, rfl⟩ | ⟨P, Q, lim, mk, v, u, l, rfl, rfl, h1, h2, h3, rfl, h4⟩
  · refine ⟨fun w1 => w = w1, (mark_bad none w (.inl rfl)).mono ?_, ?_⟩
    · rintro e _ ⟨rfl, rfl⟩
      exact ⟨rfl, rfl⟩
    · rintro _ rfl
      refine (rmark_nil w).mono ?_
      rintro e _ ⟨rfl, rfl⟩
      exact ⟨rfl, next_nil _⟩
  · refine ⟨fun w1 => HOwn w1 w0.heap.size P lim l.length v l ∧ Turn (Foot P v) (Foot P v) w w1, (mark_any h1).mono ?_, ?_⟩
    · rintro e w1 ⟨rfl, g⟩
      exact ⟨rfl, g.out⟩
    · rintro w1 ⟨k1, k2⟩
      refine (rmark_any (h2.turned k2 h3)).mono ?_
      rintro e w2 ⟨rfl, g⟩
      exact ⟨rfl, sides_end k1 k2 (k2.apart h3 h2.foot_lt) g.out.1 g.out.2 (by omega)⟩
theorem node_clear (h : Node w0 w p q F n) : ∃ (Mid : World → Prop), (Calls Try.prog 19 #[.pointer p] w fun e w1 => e = .returned (.tuple #[]) ∧ Hid (Mid w1)) ∧
    ∀ w1, Mid w1 → Calls Try.prog 20 #[.pointer q] w1 fun e w2 => e = .returned (.tuple #[]) ∧ Hid (Next w0 w p q F (n + 1) w2) := by
  rcases h with ⟨rfl, rfl, rfl⟩ | ⟨P, Q, lim, mk, v, u, l, rfl, rfl, h1, h2, h3, rfl, h4⟩
  · refine ⟨fun w1 => w = w1, (clear_bad none w (.inl rfl)).mono ?_, ?_⟩
    · rintro e _ ⟨rfl, rfl⟩
      exact ⟨rfl, rfl⟩
    · rintro _ rfl
      refine (rclear_nil w).mono ?_
      rintro e _ ⟨rfl, rfl⟩
      exact ⟨rfl, next_nil _⟩
  · refine ⟨fun w1 => HOwn w1 w0.heap.size P lim 0 (.slice none 0 0) [] ∧ Turn (Foot P v) (Foot P (.slice none 0 0)) w w1, (clear_any h1).mono ?_, ?_⟩
    · rintro e w1 ⟨rfl, g⟩
      exact ⟨rfl, g.out⟩
    · rintro w1 ⟨k1, k2⟩
      refine (rclear_any (h2.turned k2 h3)).mono ?_
      rintro e w2 ⟨rfl, g⟩
      exact ⟨rfl, sides_end k1 k2 (k2.apart h3 h2.foot_lt) g.out.1 g.out.2 (by simp)⟩
/-- What New or Copy leave. -/
def Fresh (w0 w : World) (p q : Option Addr) (n : Nat) (w' : World) : Prop := ∃ F, Node w0 w' p q F n ∧ Below w.heap.size w w' ∧ ∀ b, F b → w.heap.size ≤ b
theorem fresh_end {P Q lim mk : Nat} {v u : Value} {l : List E} {w1 w2 : World} (h0 : w0.heap.size ≤ w.heap.size) (h1 : HOwn w1 w.heap.size P lim mk v l) (hb : Below w.heap.size w w1) (h2 : ROwn w2 w1.heap.size Q lim mk u l) (hb2 : Below w1.heap.size w1 w2) (hl : l.length ≤ n) :
    Fresh w0 w (some ⟨P, 0, none⟩) (some ⟨Q, 0, none⟩) n w2 := by
  have hs := hb.size
  refine ⟨_, .inr ⟨P, Q, lim, mk, v, u, l, rfl, rfl, ⟨Nat.le_trans h0 (h1.below hb2).hP, (h1.below hb2).blk, owns_le (h1.below hb2).row h0, h1.mkle, h1.le, h1.lim_le⟩, ⟨by have := h2.hP; omega, h2.blk, owns_le h2.row (by omega), h2.mkle, h2.le, h2.lim_le⟩, fun b ha hb' => ?_, rfl, hl⟩, hb.trans (hb2.mono hs), fun b hb' => ?_⟩
  · have := h1.foot_lt b ha
    have := h2.foot_le b hb'
    omega
  · rcases hb' with hb' | hb'
    · exact h1.foot_le b hb'
    · exact Nat.le_trans hs (h2.foot_le b hb')
theorem fresh_nil (n : Nat) : Fresh w0 w none none n w := ⟨_, .inl ⟨rfl, rfl, rfl⟩, Below.refl _ _, fun _ h => h.elim⟩
theorem node_copy (h : Node w0 w p q F n) (h0 : w0.heap.size ≤ w.heap.size) : ∃ (p' : Option Addr) (Mid : World → Prop), (Calls Try.prog 21 #[.pointer p] w fun e w1 => e = .returned (.pointer p') ∧ Hid (Mid w1)) ∧
    ∀ w1, Mid w1 → Calls Try.prog 22 #[.pointer q] w1 fun e w2 => ∃ q', e = .returned (.pointer q') ∧ Hid (Fresh w0 w p' q' (n + 1) w2) := by
  rcases h with ⟨rfl, rfl, rfl⟩ | ⟨P, Q, lim, mk, v, u, l, rfl, rfl, h1, h2, h3, rfl, h4⟩
  · refine ⟨none, fun w1 => w = w1, (copy_bad none w (.inl rfl)).mono ?_, ?_⟩
    · rintro e _ ⟨rfl, rfl⟩
      exact ⟨rfl, rfl⟩
    · rintro _ rfl
      refine (rcopy_nil w).mono ?_
      rintro e _ ⟨rfl, rfl⟩
      exact ⟨_, rfl, fresh_nil _⟩
  · refine ⟨some ⟨w.heap.size, 0, none⟩, fun w1 => ∃ v', HOwn w1 w.heap.size w.heap.size lim mk v' l ∧ Below w.heap.size w w1, (copy_any h1).mono ?_, ?_⟩
    · rintro e w1 ⟨rfl, g⟩
      exact ⟨rfl, g.out⟩
    · rintro w1 ⟨v', k1, k2⟩
      refine (rcopy_any (h2.below k2)).mono ?_
      rintro e w2 ⟨R, rfl, g⟩
      obtain ⟨u', k3, k4⟩ := g.out
      exact ⟨_, rfl, fresh_end h0 k1 k2 k3 k4 (by omega)⟩
theorem node_new (w : World) (most : Int) : ∃ (c : Int) (p : Option Addr) (Mid : World → Prop), (Calls Try.prog 11 #[.int .i64 most] w fun e w1 => e = .returned (.tuple #[.pointer p, .int .i64 c]) ∧ Hid (Mid w1)) ∧
    ∀ w1, Mid w1 → Calls Try.prog 12 #[.int .i64 most] w1 fun e w2 => ∃ q, e = .returned (.tuple #[.pointer q, .int .i64 c]) ∧ ((p = none ∧ q = none) ∨ (∃ a, p = some a) ∧ ∃ a, q = some a) ∧ Hid (Fresh w w p q 0 w2) := by
  by_cases hm : 0 ≤ most ∧ most ≤ 100000
  · obtain ⟨k, rfl⟩ : ∃ k : Nat, most = k := ⟨most.toNat, by omega⟩
    refine ⟨0, some ⟨w.heap.size, 0, none⟩, fun w1 => HOwn w1 w.heap.size w.heap.size k 0 (.slice none 0 0) [] ∧ Below w.heap.size w w1, (new_any k w (by omega)).mono ?_, ?_⟩
    · rintro e w1 ⟨rfl, g⟩
      exact ⟨rfl, g.out⟩
    · rintro w1 ⟨k1, k2⟩
      refine (rnew_any k w1 (by omega)).mono ?_
      rintro e w2 ⟨rfl, g⟩
      exact ⟨_, rfl, .inr ⟨⟨_, rfl⟩, _, rfl⟩, fresh_end (Nat.le_refl _) k1 k2 g.out.1 g.out.2 (Nat.le_refl _)⟩
  · have hm' : most < 0 ∨ 100000 < most := by omega
    refine ⟨2, none, fun w1 => w = w1, (new_bad most w hm').mono ?_, ?_⟩
    · rintro e _ ⟨rfl, rfl⟩
      exact ⟨rfl, rfl⟩
    · rintro _ rfl
      refine (rnew_bad most w hm').mono ?_
      rintro e _ ⟨rfl, rfl⟩
      exact ⟨_, rfl, .inl ⟨rfl, rfl⟩, fresh_nil _⟩
end
end Go.Proofs.Ytidkdidlndfbfaa.HS
