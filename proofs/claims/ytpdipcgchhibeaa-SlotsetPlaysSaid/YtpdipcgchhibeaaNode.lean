/- A set and the reference's beside each other, nil or not: their operations give the same. -/
import Derived.Test.YtpdipcgchhibeaaRefTake
import Derived.Test.YtpdipcgchhibeaaLSlotsetNil
namespace Go.Proofs.Ytpdipcgchhibeaa
open Go.RowKit
/-- A set, or nil: its size, its number, its block. -/
def SN (w0 w : World) (p : Option Addr) (n m : Nat) (F : Nat → Prop) : Prop :=
  (p = none ∧ n = 0 ∧ m = 0 ∧ F = fun _ => False) ∨ ∃ P, p = some ⟨P, 0, none⟩ ∧ SOwn w P n m ∧ w0.heap.size ≤ P ∧ F = fun b => b = P
/-- A set of the reference, or nil. -/
def RN (w0 w : World) (r : Option Addr) (n m : Nat) (F : Nat → Prop) : Prop :=
  (r = none ∧ n = 0 ∧ m = 0 ∧ F = fun _ => False) ∨ ∃ R g c, r = some ⟨R, 0, none⟩ ∧ ROwn w w0.heap.size R g c n m ∧ F = RF R g
theorem ROwn.mono {w : World} {B B' R g c n m : Nat} (h : ROwn w B R g c n m) (hb : B' ≤ B) : ROwn w B' R g c n m := ⟨Nat.le_trans hb h.hR, h.blk, owns_le h.row hb, h.pos, h.le, h.lt⟩
section
variable {w0 w w' : World} {p q : Option Addr} {n m n2 t : Nat} {F G : Nat → Prop}
theorem SN.lt (h : SN w0 w p n m F) : ∀ b, F b → b < w.heap.size := fun b hb => by
  rcases h with ⟨_, _, _, rfl⟩ | ⟨P, _, hS, _, rfl⟩
  · exact hb.elim
  · rw [show b = P from hb]; exact hS.blt
theorem SN.le (h : SN w0 w p n m F) : ∀ b, F b → w0.heap.size ≤ b := fun b hb => by
  rcases h with ⟨_, _, _, rfl⟩ | ⟨P, _, _, hP, rfl⟩
  · exact hb.elim
  · rw [show b = P from hb]; exact hP
theorem RN.lt (h : RN w0 w p n m F) : ∀ b, F b → b < w.heap.size := fun b hb => by
  rcases h with ⟨_, _, _, rfl⟩ | ⟨R, g, c, _, hR, rfl⟩
  · exact hb.elim
  · exact hR.foot_lt b hb
theorem RN.le (h : RN w0 w p n m F) : ∀ b, F b → w0.heap.size ≤ b := fun b hb => by
  rcases h with ⟨_, _, _, rfl⟩ | ⟨R, g, c, _, hR, rfl⟩
  · exact hb.elim
  · exact hR.foot_le b hb
theorem SN.keep (h : SN w0 w p n m F) (hB : But G w w') (hA : Apart G F) : SN w0 w' p n m F := by
  rcases h with h | ⟨P, rfl, hS, hP, rfl⟩
  · exact .inl h
  · exact .inr ⟨P, rfl, hS.but hB (fun hG => hA P hG rfl), hP, rfl⟩
theorem RN.keep (h : RN w0 w p n m F) (hB : But G w w') (hA : Apart G F) : RN w0 w' p n m F := by
  rcases h with h | ⟨R, g, c, rfl, hR, rfl⟩
  · exact .inl h
  · exact .inr ⟨R, g, c, rfl, hR.same fun b hb => hB.block b (hR.foot_lt b hb) (fun hG => hA b hG hb), rfl⟩
theorem SN.below (h : SN w0 w p n m F) (hb : Below w.heap.size w w') : SN w0 w' p n m F := h.keep (G := fun _ => False) (.of_below hb) (fun _ h => h.elim)
theorem RN.below (h : RN w0 w p n m F) (hb : Below w.heap.size w w') : RN w0 w' p n m F := h.keep (G := fun _ => False) (.of_below hb) (fun _ h => h.elim)
theorem SN.shows (h : SN w0 w p n m F) : Shows w p m := by
  rcases h with ⟨rfl, _, rfl, _⟩ | ⟨P, rfl, hS, _⟩
  · exact shows_bad (.inl rfl)
  · exact shows_own hS
theorem sl_small {m : Nat} (h : m < 17179869184) : (sl m).length ≤ 34 := sl_len (n := 34) h (by decide)
/-- What the operations give: their results, the numbers of the slots. -/
def addc (n : Nat) (i : Int) : Int := if n = 0 then 1 else if 0 ≤ i ∧ i < (n : Int) then 0 else 3
def addm (n m : Nat) (i : Int) : Nat := if 0 ≤ i ∧ i < (n : Int) then m ||| 2 ^ i.toNat else m
def remm (n m : Nat) (i : Int) : Nat := if 0 ≤ i ∧ i < (n : Int) then minus m (2 ^ i.toNat) else m
def hasv (n m : Nat) (i : Int) : Bool := if 0 ≤ i ∧ i < (n : Int) then m.testBit i.toNat else false
def unc (n n2 : Nat) : Int := if n = 0 ∨ n2 = 0 then 1 else if n = n2 then 0 else 2
def unm (b : Bool) (n n2 m t : Nat) : Nat := if n = 0 ∨ n2 = 0 then m else if n = n2 then tkn b m t else m
theorem out_of {n : Nat} {i : Int} (h : ¬ (0 ≤ i ∧ i < (n : Int))) : i < 0 ∨ (n : Int) ≤ i := by omega
theorem nat_of {n : Nat} {i : Int} (h : 0 ≤ i ∧ i < (n : Int)) : ∃ k : Nat, i = (k : Nat) ∧ k < n := ⟨i.toNat, by omega, by omega⟩
theorem no_slot {n : Nat} {i : Int} (h : n = 0) : ¬ (0 ≤ i ∧ i < (n : Int)) := by omega
theorem s_add (h : SN w0 w p n m F) (i : Int) : Calls Try.prog 15 #[.pointer p, .int .i64 i] w fun e w' => e = .returned (.int .i64 (addc n i)) ∧ SN w0 w' p n (addm n m i) F ∧ But F w w' := by
  rcases h with ⟨rfl, rfl, rfl, rfl⟩ | ⟨P, rfl, hS, hP, rfl⟩
  · refine (add_bad none i w (.inl rfl)).mono ?_
    rintro e _ ⟨rfl, rfl⟩
    exact ⟨by unfold addc; rw [if_pos rfl], .inl ⟨rfl, rfl, by unfold addm; rw [if_neg (no_slot rfl)], rfl⟩, But.refl _ _⟩
  · have hn : n ≠ 0 := by have := hS.pos; omega
    by_cases hi : 0 ≤ i ∧ i < (n : Int)
    · obtain ⟨k, rfl, hk⟩ := nat_of hi
      refine (add_in hS k hk).mono ?_
      rintro e w' ⟨rfl, hL⟩
      refine ⟨by unfold addc; rw [if_neg hn, if_pos hi], .inr ⟨P, rfl, ?_, hP, rfl⟩, hL.2⟩
      unfold addm
      rw [if_pos hi, Int.toNat_natCast]
      exact hL.1
    · refine (add_out hS i (out_of hi)).mono ?_
      rintro e _ ⟨rfl, rfl⟩
      refine ⟨by unfold addc; rw [if_neg hn, if_neg hi], .inr ⟨P, rfl, ?_, hP, rfl⟩, But.refl _ _⟩
      unfold addm
      rw [if_neg hi]
      exact hS
theorem s_remove (h : SN w0 w p n m F) (i : Int) : Calls Try.prog 17 #[.pointer p, .int .i64 i] w fun e w' => e = .returned (.int .i64 (addc n i)) ∧ SN w0 w' p n (remm n m i) F ∧ But F w w' := by
  rcases h with ⟨rfl, rfl, rfl, rfl⟩ | ⟨P, rfl, hS, hP, rfl⟩
  · refine (remove_bad none i w (.inl rfl)).mono ?_
    rintro e _ ⟨rfl, rfl⟩
    exact ⟨by unfold addc; rw [if_pos rfl], .inl ⟨rfl, rfl, by unfold remm; rw [if_neg (no_slot rfl)], rfl⟩, But.refl _ _⟩
  · have hn : n ≠ 0 := by have := hS.pos; omega
    by_cases hi : 0 ≤ i ∧ i < (n : Int)
    · obtain ⟨k, rfl, hk⟩ := nat_of hi
      refine (remove_in hS k hk).mono ?_
      rintro e w' ⟨rfl, hL⟩
      refine ⟨by unfold addc; rw [if_neg hn, if_pos hi], .inr ⟨P, rfl, ?_, hP, rfl⟩, hL.2⟩
      unfold remm
      rw [if_pos hi, Int.toNat_natCast]
      exact hL.1
    · refine (remove_out hS i (out_of hi)).mono ?_
      rintro e _ ⟨rfl, rfl⟩
      refine ⟨by unfold addc; rw [if_neg hn, if_neg hi], .inr ⟨P, rfl, ?_, hP, rfl⟩, But.refl _ _⟩
      unfold remm
      rw [if_neg hi]
      exact hS
theorem r_add (h : RN w0 w p n m F) (i : Int) : Calls Try.prog 16 #[.pointer p, .int .i64 i] w fun e w' => e = .returned (.int .i64 (addc n i)) ∧ RN w0 w' p n (addm n m i) F ∧ But F w w' := by
  refine radd_of ?_
  rcases h with ⟨rfl, rfl, rfl, rfl⟩ | ⟨R, g, c, rfl, hR, rfl⟩
  · refine (rset_none w i true).mono ?_
    rintro e _ ⟨rfl, rfl⟩
    exact ⟨by unfold addc; rw [if_pos rfl], .inl ⟨rfl, rfl, by unfold addm; rw [if_neg (no_slot rfl)], rfl⟩, But.refl _ _⟩
  · have hn : n ≠ 0 := by have := hR.pos; omega
    have h34 := hR.le
    by_cases hi : 0 ≤ i ∧ i < (n : Int)
    · obtain ⟨k, rfl, hk⟩ := nat_of hi
      refine (rset_in hR k _ hk true (Nat.or_lt_two_pow hR.lt (pow_lt hk)) (fun j hj => bit_or)).mono ?_
      rintro e w' ⟨rfl, hL⟩
      refine ⟨by unfold addc; rw [if_neg hn, if_pos hi], .inr ⟨R, g, c, rfl, ?_, rfl⟩, hL.2⟩
      unfold addm
      rw [if_pos hi, Int.toNat_natCast]
      exact hL.1
    · refine (rset_out hR i (out_of hi) true).mono ?_
      rintro e _ ⟨rfl, rfl⟩
      refine ⟨by unfold addc; rw [if_neg hn, if_neg hi], .inr ⟨R, g, c, rfl, ?_, rfl⟩, But.refl _ _⟩
      unfold addm
      rw [if_neg hi]
      exact hR
theorem r_remove (h : RN w0 w p n m F) (i : Int) : Calls Try.prog 18 #[.pointer p, .int .i64 i] w fun e w' => e = .returned (.int .i64 (addc n i)) ∧ RN w0 w' p n (remm n m i) F ∧ But F w w' := by
  refine rremove_of ?_
  rcases h with ⟨rfl, rfl, rfl, rfl⟩ | ⟨R, g, c, rfl, hR, rfl⟩
  · refine (rset_none w i false).mono ?_
    rintro e _ ⟨rfl, rfl⟩
    exact ⟨by unfold addc; rw [if_pos rfl], .inl ⟨rfl, rfl, by unfold remm; rw [if_neg (no_slot rfl)], rfl⟩, But.refl _ _⟩
  · have hn : n ≠ 0 := by have := hR.pos; omega
    have h34 := hR.le
    by_cases hi : 0 ≤ i ∧ i < (n : Int)
    · obtain ⟨k, rfl, hk⟩ := nat_of hi
      refine (rset_in hR k _ hk false (minus_lt hR.lt) (fun j hj => bit_minus (by omega) (by omega))).mono ?_
      rintro e w' ⟨rfl, hL⟩
      refine ⟨by unfold addc; rw [if_neg hn, if_pos hi], .inr ⟨R, g, c, rfl, ?_, rfl⟩, hL.2⟩
      unfold remm
      rw [if_pos hi, Int.toNat_natCast]
      exact hL.1
    · refine (rset_out hR i (out_of hi) false).mono ?_
      rintro e _ ⟨rfl, rfl⟩
      refine ⟨by unfold addc; rw [if_neg hn, if_neg hi], .inr ⟨R, g, c, rfl, ?_, rfl⟩, But.refl _ _⟩
      unfold remm
      rw [if_neg hi]
      exact hR
theorem s_union (h : SN w0 w p n m F) (k : SN w0 w q n2 t G) : Calls Try.prog 19 #[.pointer p, .pointer q] w fun e w' => e = .returned (.int .i64 (unc n n2)) ∧ SN w0 w' p n (unm true n n2 m t) F ∧ But F w w' := by
  rcases h with ⟨rfl, rfl, rfl, rfl⟩ | ⟨P, rfl, hS, hP, rfl⟩
  · refine (union_bad1 none q w (.inl rfl)).mono ?_
    rintro e _ ⟨rfl, rfl⟩
    exact ⟨by unfold unc; rw [if_pos (.inl rfl)], .inl ⟨rfl, rfl, by unfold unm; rw [if_pos (.inl rfl)], rfl⟩, But.refl _ _⟩
  · have hn : n ≠ 0 := by have := hS.pos; omega
    rcases k with ⟨rfl, rfl, rfl, rfl⟩ | ⟨Q, rfl, hT, hQ, rfl⟩
    · refine (union_bad2 hS none (.inl rfl)).mono ?_
      rintro e _ ⟨rfl, rfl⟩
      refine ⟨by unfold unc; rw [if_pos (.inr rfl)], .inr ⟨P, rfl, ?_, hP, rfl⟩, But.refl _ _⟩
      unfold unm
      rw [if_pos (.inr rfl)]
      exact hS
    · have hn2 : n2 ≠ 0 := by have := hT.pos; omega
      by_cases he : n = n2
      · subst he
        refine (union_any hS hT).mono ?_
        rintro e w' ⟨rfl, hL⟩
        refine ⟨by unfold unc; rw [if_neg (by omega), if_pos rfl], .inr ⟨P, rfl, ?_, hP, rfl⟩, hL.2⟩
        unfold unm
        rw [if_neg (by omega), if_pos rfl]
        exact hL.1
      · refine (union_ne hS hT he).mono ?_
        rintro e _ ⟨rfl, k, rfl⟩
        refine ⟨by unfold unc; rw [if_neg (by omega), if_neg he], .inr ⟨P, rfl, ?_, hP, rfl⟩, .of_below (bel_drewN (Below.refl _ _) k)⟩
        unfold unm
        rw [if_neg (by omega), if_neg he]
        exact hS.below (bel_drewN (Below.refl _ _) k)
theorem s_minus (h : SN w0 w p n m F) (k : SN w0 w q n2 t G) : Calls Try.prog 21 #[.pointer p, .pointer q] w fun e w' => e = .returned (.int .i64 (unc n n2)) ∧ SN w0 w' p n (unm false n n2 m t) F ∧ But F w w' := by
  rcases h with ⟨rfl, rfl, rfl, rfl⟩ | ⟨P, rfl, hS, hP, rfl⟩
  · refine (minus_bad1 none q w (.inl rfl)).mono ?_
    rintro e _ ⟨rfl, rfl⟩
    exact ⟨by unfold unc; rw [if_pos (.inl rfl)], .inl ⟨rfl, rfl, by unfold unm; rw [if_pos (.inl rfl)], rfl⟩, But.refl _ _⟩
  · have hn : n ≠ 0 := by have := hS.pos; omega
    rcases k with ⟨rfl, rfl, rfl, rfl⟩ | ⟨Q, rfl, hT, hQ, rfl⟩
    · refine (minus_bad2 hS none (.inl rfl)).mono ?_
      rintro e _ ⟨rfl, rfl⟩
      refine ⟨by unfold unc; rw [if_pos (.inr rfl)], .inr ⟨P, rfl, ?_, hP, rfl⟩, But.refl _ _⟩
      unfold unm
      rw [if_pos (.inr rfl)]
      exact hS
    · have hn2 : n2 ≠ 0 := by have := hT.pos; omega
      by_cases he : n = n2
      · subst he
        refine (minus_any hS hT).mono ?_
        rintro e w' ⟨rfl, hL⟩
        refine ⟨by unfold unc; rw [if_neg (by omega), if_pos rfl], .inr ⟨P, rfl, ?_, hP, rfl⟩, hL.2⟩
        unfold unm
        rw [if_neg (by omega), if_pos rfl]
        exact hL.1
      · refine (minus_ne hS hT he).mono ?_
        rintro e _ ⟨rfl, k, rfl⟩
        refine ⟨by unfold unc; rw [if_neg (by omega), if_neg he], .inr ⟨P, rfl, ?_, hP, rfl⟩, .of_below (bel_drewN (Below.refl _ _) k)⟩
        unfold unm
        rw [if_neg (by omega), if_neg he]
        exact hS.below (bel_drewN (Below.refl _ _) k)
theorem r_union (h : RN w0 w p n m F) (k : RN w0 w q n2 t G) : Calls Try.prog 20 #[.pointer p, .pointer q] w fun e w' => e = .returned (.int .i64 (unc n n2)) ∧ RN w0 w' p n (unm true n n2 m t) F ∧ But F w w' := by
  refine runion_of ?_
  rcases h with ⟨rfl, rfl, rfl, rfl⟩ | ⟨R, g, c, rfl, hS, rfl⟩
  · refine (rtake_none1 q true w).mono ?_
    rintro e _ ⟨rfl, rfl⟩
    exact ⟨by unfold unc; rw [if_pos (.inl rfl)], .inl ⟨rfl, rfl, by unfold unm; rw [if_pos (.inl rfl)], rfl⟩, But.refl _ _⟩
  · have hn : n ≠ 0 := by have := hS.pos; omega
    rcases k with ⟨rfl, rfl, rfl, rfl⟩ | ⟨R2, g2, c2, rfl, hT, rfl⟩
    · refine (rtake_none2 hS true).mono ?_
      rintro e _ ⟨rfl, rfl⟩
      refine ⟨by unfold unc; rw [if_pos (.inr rfl)], .inr ⟨R, g, c, rfl, ?_, rfl⟩, But.refl _ _⟩
      unfold unm
      rw [if_pos (.inr rfl)]
      exact hS
    · have hn2 : n2 ≠ 0 := by have := hT.pos; omega
      by_cases he : n = n2
      · subst he
        refine (rtake_any hS hT true).mono ?_
        rintro e w' ⟨rfl, hL⟩
        refine ⟨by unfold unc; rw [if_neg (by omega), if_pos rfl], .inr ⟨R, g, c, rfl, ?_, rfl⟩, hL.2⟩
        unfold unm
        rw [if_neg (by omega), if_pos rfl]
        exact hL.1
      · refine (rtake_ne hS hT he true).mono ?_
        rintro e _ ⟨rfl, k, rfl⟩
        refine ⟨by unfold unc; rw [if_neg (by omega), if_neg he], .inr ⟨R, g, c, rfl, ?_, rfl⟩, .of_below (bel_drewN (Below.refl _ _) k)⟩
        unfold unm
        rw [if_neg (by omega), if_neg he]
        exact hS.below (bel_drewN (Below.refl _ _) k)
theorem r_minus (h : RN w0 w p n m F) (k : RN w0 w q n2 t G) : Calls Try.prog 22 #[.pointer p, .pointer q] w fun e w' => e = .returned (.int .i64 (unc n n2)) ∧ RN w0 w' p n (unm false n n2 m t) F ∧ But F w w' := by
  refine rminus_of ?_
  rcases h with ⟨rfl, rfl, rfl, rfl⟩ | ⟨R, g, c, rfl, hS, rfl⟩
  · refine (rtake_none1 q false w).mono ?_
    rintro e _ ⟨rfl, rfl⟩
    exact ⟨by unfold unc; rw [if_pos (.inl rfl)], .inl ⟨rfl, rfl, by unfold unm; rw [if_pos (.inl rfl)], rfl⟩, But.refl _ _⟩
  · have hn : n ≠ 0 := by have := hS.pos; omega
    rcases k with ⟨rfl, rfl, rfl, rfl⟩ | ⟨R2, g2, c2, rfl, hT, rfl⟩
    · refine (rtake_none2 hS false).mono ?_
      rintro e _ ⟨rfl, rfl⟩
      refine ⟨by unfold unc; rw [if_pos (.inr rfl)], .inr ⟨R, g, c, rfl, ?_, rfl⟩, But.refl _ _⟩
      unfold unm
      rw [if_pos (.inr rfl)]
      exact hS
    · have hn2 : n2 ≠ 0 := by have := hT.pos; omega
      by_cases he : n = n2
      · subst he
        refine (rtake_any hS hT false).mono ?_
        rintro e w' ⟨rfl, hL⟩
        refine ⟨by unfold unc; rw [if_neg (by omega), if_pos rfl], .inr ⟨R, g, c, rfl, ?_, rfl⟩, hL.2⟩
        unfold unm
        rw [if_neg (by omega), if_pos rfl]
        exact hL.1
      · refine (rtake_ne hS hT he false).mono ?_
        rintro e _ ⟨rfl, k, rfl⟩
        refine ⟨by unfold unc; rw [if_neg (by omega), if_neg he], .inr ⟨R, g, c, rfl, ?_, rfl⟩, .of_below (bel_drewN (Below.refl _ _) k)⟩
        unfold unm
        rw [if_neg (by omega), if_neg he]
        exact hS.below (bel_drewN (Below.refl _ _) k)
theorem s_has (h : SN w0 w p n m F) (i : Int) : Calls Try.prog 29 #[.pointer p, .int .i64 i] w fun e w' => e = .returned (.bool (hasv n m i)) ∧ w = w' := by
  unfold hasv
  rcases h with ⟨rfl, rfl, rfl, rfl⟩ | ⟨P, rfl, hS, hP, rfl⟩
  · rw [if_neg (no_slot rfl)]
    exact has_bad none i w (.inl rfl)
  · by_cases hi : 0 ≤ i ∧ i < (n : Int)
    · rw [if_pos hi]
      obtain ⟨k, rfl, hk⟩ := nat_of hi
      exact has_in hS k hk
    · rw [if_neg hi]
      exact has_out hS i (out_of hi)
theorem r_has (h : RN w0 w p n m F) (i : Int) : Calls Try.prog 30 #[.pointer p, .int .i64 i] w fun e w' => e = .returned (.bool (hasv n m i)) ∧ w = w' := by
  unfold hasv
  rcases h with ⟨rfl, rfl, rfl, rfl⟩ | ⟨R, g, c, rfl, hR, rfl⟩
  · rw [if_neg (no_slot rfl)]
    exact rhas_none w i
  · by_cases hi : 0 ≤ i ∧ i < (n : Int)
    · rw [if_pos hi]
      obtain ⟨k, rfl, hk⟩ := nat_of hi
      exact rhas_in hR k hk
    · rw [if_neg hi]
      exact rhas_out hR i (out_of hi)
theorem s_size (h : SN w0 w p n m F) : Calls Try.prog 31 #[.pointer p] w fun e w' => e = .returned (.int .i64 (n : Nat)) ∧ w = w' := by
  rcases h with ⟨rfl, rfl, rfl, rfl⟩ | ⟨P, rfl, hS, hP, rfl⟩
  · exact size_bad none w (.inl rfl)
  · exact size_any hS
theorem r_size (h : RN w0 w p n m F) : Calls Try.prog 32 #[.pointer p] w fun e w' => e = .returned (.int .i64 (n : Nat)) ∧ w = w' := by
  rcases h with ⟨rfl, rfl, rfl, rfl⟩ | ⟨R, g, c, rfl, hR, rfl⟩
  · exact rsize_none w
  · exact rsize_any hR
theorem s_next (h : SN w0 w p n m F) (f : Int) : Calls Try.prog 25 #[.pointer p, .int .i64 f] w fun e w' => e = .returned (.tuple #[.int .i64 (nxt m f : Nat), .bool (nok m f)]) ∧ Below w.heap.size w w' := next_any h.shows.gives h.shows.lt f
theorem s_lowest (h : SN w0 w p n m F) : Calls Try.prog 27 #[.pointer p] w fun e w' => e = .returned (.tuple #[.int .i64 (nxt m 0 : Nat), .bool (nok m 0)]) ∧ Below w.heap.size w w' := lowest_any h.shows.gives h.shows.lt
theorem s_same (h : SN w0 w p n m F) {A : Option Addr} {c : Nat} (hl : SL w A (sl m)) : Calls Try.prog 33 #[.pointer p, .slice A (sl m).length c] w fun e w' => e = .returned (.bool true) ∧ Below w.heap.size w w' := same_any h.shows hl rfl
theorem r_all (h : RN w0 w p n m F) : Calls Try.prog 34 #[.pointer p] w (Lists w m) := by
  rcases h with ⟨rfl, rfl, rfl, rfl⟩ | ⟨R, g, c, rfl, hR, rfl⟩
  · exact rall_none w
  · exact rall_any hR
theorem RN.small (h : RN w0 w p n m F) : (sl m).length ≤ 100 := by
  rcases h with ⟨rfl, rfl, rfl, rfl⟩ | ⟨R, g, c, rfl, hR, rfl⟩
  · rw [sl_zero]; decide
  · have := sl_len hR.lt (show n ≤ 64 by have := hR.le; omega)
    have := hR.le
    omega
theorem r_next (h : RN w0 w p n m F) (f : Int) : Calls Try.prog 26 #[.pointer p, .int .i64 f] w fun e w' => e = .returned (.tuple #[.int .i64 (nxt m f : Nat), .bool (nok m f)]) ∧ Below w.heap.size w w' := rnext_of (r_all h) h.small f
theorem r_lowest (h : RN w0 w p n m F) : Calls Try.prog 28 #[.pointer p] w fun e w' => e = .returned (.tuple #[.int .i64 (nxt m 0 : Nat), .bool (nok m 0)]) ∧ Below w.heap.size w w' := rlowest_of (r_all h) h.small
/-- What New gives for a number. -/
def newc (k : Int) : Int := if 1 ≤ k ∧ k ≤ 34 then 0 else 2
def newn (k : Int) : Nat := if 1 ≤ k ∧ k ≤ 34 then k.toNat else 0
theorem s_new (k : Int) (hl : Below w0.heap.size w0 w) : Calls Try.prog 13 #[.int .i64 k] w fun e w' => ∃ p, e = .returned (.tuple #[.pointer p, .int .i64 (newc k)]) ∧ Hid (∃ F, SN w0 w' p (newn k) 0 F ∧ (∀ b, F b → w.heap.size ≤ b) ∧ Below w.heap.size w w') := by
  unfold newc newn
  by_cases hk : 1 ≤ k ∧ k ≤ 34
  · obtain ⟨n, rfl⟩ : ∃ n : Nat, k = n := ⟨k.toNat, by omega⟩
    rw [if_pos hk, if_pos hk, Int.toNat_natCast]
    refine (new_any n w (by omega) (by omega)).mono ?_
    rintro e w' ⟨rfl, h⟩
    exact ⟨_, rfl, fun b => b = w.heap.size, .inr ⟨_, rfl, h.out.1, hl.size, rfl⟩, fun b hb => Nat.le_of_eq (show w.heap.size = b from Eq.symm hb), h.out.2⟩
  · rw [if_neg hk, if_neg hk]
    refine (new_bad k w (by omega)).mono ?_
    rintro e _ ⟨rfl, rfl⟩
    exact ⟨_, rfl, fun _ => False, .inl ⟨rfl, rfl, rfl, rfl⟩, fun b hb => hb.elim, Below.refl _ _⟩
theorem r_new (k : Int) (hl : Below w0.heap.size w0 w) : Calls Try.prog 14 #[.int .i64 k] w fun e w' => ∃ p, e = .returned (.tuple #[.pointer p, .int .i64 (newc k)]) ∧ Hid (∃ F, RN w0 w' p (newn k) 0 F ∧ (∀ b, F b → w.heap.size ≤ b) ∧ Below w.heap.size w w') := by
  unfold newc newn
  by_cases hk : 1 ≤ k ∧ k ≤ 34
  · obtain ⟨n, rfl⟩ : ∃ n : Nat, k = n := ⟨k.toNat, by omega⟩
    rw [if_pos hk, if_pos hk, Int.toNat_natCast]
    refine (rnew_any n w (by omega) (by omega)).mono ?_
    rintro e w' ⟨rfl, h⟩
    exact ⟨_, rfl, _, .inr ⟨_, _, _, rfl, h.out.1.mono hl.size, rfl⟩, h.out.1.foot_le, h.out.2⟩
  · rw [if_neg hk, if_neg hk]
    refine (rnew_bad k w (by omega)).mono ?_
    rintro e _ ⟨rfl, rfl⟩
    exact ⟨_, rfl, fun _ => False, .inl ⟨rfl, rfl, rfl, rfl⟩, fun b hb => hb.elim, Below.refl _ _⟩
theorem s_copy (h : SN w0 w p n m F) (hl : w0.heap.size ≤ w.heap.size) : Calls Try.prog 23 #[.pointer p] w fun e w' => ∃ q, e = .returned (.pointer q) ∧ Hid (∃ G, SN w0 w' q n m G ∧ (∀ b, G b → w.heap.size ≤ b) ∧ Below w.heap.size w w') := by
  rcases h with ⟨rfl, rfl, rfl, rfl⟩ | ⟨P, rfl, hS, hP, rfl⟩
  · refine (copy_bad none w (.inl rfl)).mono ?_
    rintro e _ ⟨rfl, rfl⟩
    exact ⟨_, rfl, fun _ => False, .inl ⟨rfl, rfl, rfl, rfl⟩, fun b hb => hb.elim, Below.refl _ _⟩
  · refine (copy_any hS).mono ?_
    rintro e w' ⟨rfl, h⟩
    exact ⟨_, rfl, fun b => b = w.heap.size, .inr ⟨_, rfl, h.out.1, hl, rfl⟩, fun b hb => Nat.le_of_eq (show w.heap.size = b from Eq.symm hb), h.out.2⟩
theorem r_copy (h : RN w0 w p n m F) (hl : w0.heap.size ≤ w.heap.size) : Calls Try.prog 24 #[.pointer p] w fun e w' => ∃ q, e = .returned (.pointer q) ∧ Hid (∃ G, RN w0 w' q n m G ∧ (∀ b, G b → w.heap.size ≤ b) ∧ Below w.heap.size w w') := by
  rcases h with ⟨rfl, rfl, rfl, rfl⟩ | ⟨R, g, c, rfl, hR, rfl⟩
  · refine (rcopy_none w).mono ?_
    rintro e _ ⟨rfl, rfl⟩
    exact ⟨_, rfl, fun _ => False, .inl ⟨rfl, rfl, rfl, rfl⟩, fun b hb => hb.elim, Below.refl _ _⟩
  · refine (rcopy_any hR).mono ?_
    rintro e w' ⟨R2, g2, c2, rfl, h⟩
    exact ⟨_, rfl, _, .inr ⟨R2, g2, c2, rfl, h.out.1.mono hl, rfl⟩, h.out.1.foot_le, h.out.2⟩
theorem SN.nil_iff (h : SN w0 w p n m F) : (n = 0 ∧ p = none) ∨ (n ≠ 0 ∧ ∃ a, p = some a) := by
  rcases h with ⟨rfl, rfl, _, _⟩ | ⟨P, rfl, hS, _⟩
  · exact .inl ⟨rfl, rfl⟩
  · exact .inr ⟨by have := hS.pos; omega, _, rfl⟩
theorem RN.nil_iff (h : RN w0 w p n m F) : (n = 0 ∧ p = none) ∨ (n ≠ 0 ∧ ∃ a, p = some a) := by
  rcases h with ⟨rfl, rfl, _, _⟩ | ⟨R, g, c, rfl, hR, _⟩
  · exact .inl ⟨rfl, rfl⟩
  · exact .inr ⟨by have := hR.pos; omega, _, rfl⟩
end
end Go.Proofs.Ytpdipcgchhibeaa
