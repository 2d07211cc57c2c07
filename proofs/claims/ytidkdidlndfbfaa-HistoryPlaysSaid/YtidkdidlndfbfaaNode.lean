/- A list and the reference's, side by side: nil both, or of the same elements. -/
import Derived.Test.YtidkdidlndfbfaaRefRows
import Derived.Test.YtidkdidlndfbfaaHSCopy
namespace Go.Proofs.Ytidkdidlndfbfaa.HS
open Go.RowKit
theorem both_own {w : World} {B P Q lim mk : Nat} {v u : Value} {l : List E} (h : HOwn w B P lim mk v l) (k : ROwn w B Q lim mk u l) : Both w (some ⟨P, 0, none⟩) (some ⟨Q, 0, none⟩) mk l where
  rd := reads_own h
  ats i := by
    by_cases hi : 0 ≤ i ∧ i < (l.length : Int)
    · obtain ⟨n, rfl⟩ : ∃ n : Nat, i = n := ⟨i.toNat, by omega⟩
      have hn : n < l.length := by omega
      have hx : l[n]? = some l[n] := List.getElem?_eq_getElem hn
      refine ⟨l[n], 0, fun W hb => (at_in (h.below hb) n _ hx).mono ?_, fun W hb => rat_in (k.below hb) n _ hx⟩
      rintro e w' ⟨rfl, q, rfl⟩
      exact ⟨rfl, below_draws W q⟩
    · have hi' : i < 0 ∨ (l.length : Int) ≤ i := by omega
      refine ⟨_, 3, fun W hb => (at_out (h.below hb) i hi').mono ?_, fun W hb => rat_out (k.below hb) i hi'⟩
      rintro e w' ⟨rfl, rfl⟩
      exact ⟨rfl, Below.refl _ _⟩
  len W hb := len_any (h.below hb)
  rlen W hb := rlen_any (k.below hb)
  rmark W hb := rmarked_any (k.below hb)
  rall W hb := rall_any (k.below hb)
  rsince W hb := rsince_any (k.below hb)
/-- Both nil, or both of the same elements, their blocks F. -/
def Node (w0 w : World) (p q : Option Addr) (F : Nat → Prop) (n : Nat) : Prop :=
  (p = none ∧ q = none ∧ F = fun _ => False) ∨
  ∃ P Q lim mk v u l, p = some ⟨P, 0, none⟩ ∧ q = some ⟨Q, 0, none⟩ ∧ HOwn w w0.heap.size P lim mk v l ∧ ROwn w w0.heap.size Q lim mk u l ∧ Apart (Foot P v) (Foot Q u) ∧ (F = fun b => Foot P v b ∨ Foot Q u b) ∧ l.length ≤ n
section
variable {w0 w : World} {p q : Option Addr} {F : Nat → Prop} {n : Nat}
theorem Node.both (h : Node w0 w p q F n) : ∃ mk l, Both w p q mk l ∧ l.length ≤ n := by
  rcases h with ⟨rfl, rfl, _⟩ | ⟨P, Q, lim, mk, v, u, l, rfl, rfl, h1, h2, _, _, h3⟩
  · exact ⟨0, [], both_bad (.inl rfl), Nat.zero_le _⟩
  · exact ⟨mk, l, both_own h1 h2, h3⟩
theorem Node.shows (h : Node w0 w p q F n) (hn : n ≤ 1000) (i : Int) : Calls Try.prog 23 #[.pointer p, .pointer q, .int .i64 i] w fun e w' => e = .returned (.bool true) ∧ Below w.heap.size w w' := by
  obtain ⟨mk, l, h1, h2⟩ := h.both
  exact shows_ok h1 (by omega) i
theorem Node.lt (h : Node w0 w p q F n) : ∀ b, F b → b < w.heap.size := by
  rcases h with ⟨_, _, rfl⟩ | ⟨P, Q, lim, mk, v, u, l, rfl, rfl, h1, h2, _, rfl, _⟩
  · exact fun _ h => h.elim
  · rintro b (hb | hb)
    · exact h1.foot_lt b hb
    · exact h2.foot_lt b hb
theorem Node.le (h : Node w0 w p q F n) : ∀ b, F b → w0.heap.size ≤ b := by
  rcases h with ⟨_, _, rfl⟩ | ⟨P, Q, lim, mk, v, u, l, rfl, rfl, h1, h2, _, rfl, _⟩
  · exact fun _ h => h.elim
  · rintro b (hb | hb)
    · exact h1.foot_le b hb
    · exact h2.foot_le b hb
theorem Node.same {w' : World} (h : Node w0 w p q F n) (hb : ∀ b, F b → w'.heap[b]? = w.heap[b]?) : Node w0 w' p q F n := by
  rcases h with h | ⟨P, Q, lim, mk, v, u, l, rfl, rfl, h1, h2, h3, rfl, h4⟩
  · exact .inl h
  · exact .inr ⟨P, Q, lim, mk, v, u, l, rfl, rfl, h1.same fun b hF => hb b (.inl hF), h2.same fun b hF => hb b (.inr hF), h3, rfl, h4⟩
theorem Node.below {w' : World} (h : Node w0 w p q F n) (hb : Below w.heap.size w w') : Node w0 w' p q F n := h.same fun b hF => hb.block b (h.lt b hF)
theorem Node.turned {w' : World} {G G' : Nat → Prop} (h : Node w0 w p q F n) (hT : Turn G G' w w') (hA : Apart G F) : Node w0 w' p q F n := h.same (hT.same hA h.lt)
theorem Node.more {m : Nat} (h : Node w0 w p q F n) (hm : n ≤ m) : Node w0 w p q F m := by
  rcases h with h | ⟨P, Q, lim, mk, v, u, l, rfl, rfl, h1, h2, h3, h4, h5⟩
  · exact .inl h
  · exact .inr ⟨P, Q, lim, mk, v, u, l, rfl, rfl, h1, h2, h3, h4, Nat.le_trans h5 hm⟩
theorem Node.back {w' : World} (h : Node w' w p q F n) (hb : w0.heap.size ≤ w'.heap.size) : Node w0 w p q F n := by
  rcases h with h | ⟨P, Q, lim, mk, v, u, l, rfl, rfl, h1, h2, h3, h4, h5⟩
  · exact .inl h
  · exact .inr ⟨P, Q, lim, mk, v, u, l, rfl, rfl, ⟨Nat.le_trans hb h1.hP, h1.blk, owns_le h1.row hb, h1.mkle, h1.le, h1.lim_le⟩, ⟨Nat.le_trans hb h2.hP, h2.blk, owns_le h2.row hb, h2.mkle, h2.le, h2.lim_le⟩, h3, h4, h5⟩
/-- A turn of a part is one of the whole. -/
theorem turn_left {F F' G : Nat → Prop} {a b : World} (h : Turn F F' a b) : Turn (fun b => F b ∨ G b) (fun b => F' b ∨ G b) a b :=
  ⟨h.but.mono' fun _ hb => .inl hb, fun b hb => hb.elim (fun h1 => (h.own b h1).imp_left .inl) fun h1 => .inl (.inr h1)⟩
theorem turn_right {F F' G : Nat → Prop} {a b : World} (h : Turn F F' a b) : Turn (fun b => G b ∨ F b) (fun b => G b ∨ F' b) a b :=
  ⟨h.but.mono' fun _ hb => .inr hb, fun b hb => hb.elim (fun h1 => .inl (.inl h1)) fun h1 => (h.own b h1).imp_left .inr⟩
/-- What an operation leaves of both. -/
def Next (w0 w : World) (p q : Option Addr) (F : Nat → Prop) (n : Nat) (w' : World) : Prop := ∃ F', Node w0 w' p q F' n ∧ Turn F F' w w'
theorem sides_end {P Q lim : Nat} {v u : Value} {w1 w2 : World} {mk' : Nat} {v' u' : Value} {l' : List E}
    (h1 : HOwn w1 w0.heap.size P lim mk' v' l') (ht : Turn (Foot P v) (Foot P v') w w1) (hA : Apart (Foot P v') (Foot Q u)) (h2 : ROwn w2 w0.heap.size Q lim mk' u' l') (ht2 : Turn (Foot Q u) (Foot Q u') w1 w2) (hl : l'.length ≤ n) :
    Next w0 w (some ⟨P, 0, none⟩) (some ⟨Q, 0, none⟩) (fun b => Foot P v b ∨ Foot Q u b) n w2 :=
  ⟨_, .inr ⟨P, Q, lim, mk', v', u', l', rfl, rfl, h1.turned ht2 hA.symm, h2, (ht2.apart hA.symm h1.foot_lt).symm, rfl, hl⟩, (turn_left (G := Foot Q u) ht).trans (turn_right ht2)⟩
end
end Go.Proofs.Ytidkdidlndfbfaa.HS
