/- A valid set's operations. -/
import Derived.Test.YtpdipcgchhibeaaSet
import Derived.Laws.Rows
namespace Go.Proofs.Ytpdipcgchhibeaa
open Go.RowKit
theorem bel_drewN {B : Nat} {a w : World} (h : Below B a w) (n : Nat) : Below B a (w.drewN n) := h.trans ⟨rfl, rfl, rfl, Nat.le_refl _, fun _ _ => rfl⟩
theorem pow_int (i : Nat) : ((2 : Int) ^ i) = ((2 ^ i : Nat) : Int) := by simp
theorem pow_lt {n i : Nat} (hi : i < n) : 2 ^ i < 2 ^ n := Nat.pow_lt_pow_right (by decide) hi
theorem or_u64 {m t n : Nat} (hm : m < 2 ^ n) (ht : t < 2 ^ n) (hn : n ≤ 34) : bits .or .u64 (m : Int) (t : Int) = ((m ||| t : Nat) : Int) := u64_or_nat m t (lt_64 hm (by omega)) (lt_64 ht (by omega))
theorem andNot_u64 {m t n : Nat} (hm : m < 2 ^ n) (ht : t < 2 ^ n) (hn : n ≤ 34) : bits .andNot .u64 (m : Int) (t : Int) = ((minus m t : Nat) : Int) := u64_andNot_nat m t (lt_64 hm (by omega)) (lt_64 ht (by omega))
theorem bit_u64 {m i : Nat} (hm : m < 18446744073709551616) (hi : i < 64) : (bits .and .u64 ((m : Int) / 2 ^ min i 64) 1 == 1) = m.testBit i := by
  have e : ((m : Int) / 2 ^ min i 64) = ((m / 2 ^ i : Nat) : Int) := by
    rw [Nat.min_eq_left (by omega), Int.natCast_ediv]
    simp
  have h := u64_and_nat (m / 2 ^ i) 1 (Nat.lt_of_le_of_lt (Nat.div_le_self _ _) hm) (by decide)
  rw [e, show (1 : Int) = ((1 : Nat) : Int) from rfl, h, nat_mask1, Nat.testBit_eq_decide_div_mod_eq]
  rcases Nat.mod_two_eq_zero_or_one (m / 2 ^ i) with h1 | h1 <;> simp [h1]
section
variable {w : World} {P n m : Nat}
theorem held_any (h : SOwn w P n m) : Calls Try.prog 48 #[.pointer (some ⟨P, 0, none⟩)] w fun e w' => e = .returned (.int .u64 (m : Nat)) ∧ w = w' := by
  have c0 := h.c0
  have c2 := h.c2
  clear h
  go_enter Try.func48, Try.ntmps48
  go_wp2_with (go_at_call 44; refine (valid_any _ _ c0).mono ?_; rintro e w' ⟨rfl, rfl⟩)
  go_ret
  exact ⟨rfl, rfl⟩
theorem size_any (h : SOwn w P n m) : Calls Try.prog 31 #[.pointer (some ⟨P, 0, none⟩)] w fun e w' => e = .returned (.int .i64 (n : Nat)) ∧ w = w' := by
  have c0 := h.c0
  have c1 := h.c1
  clear h
  go_enter Try.func31, Try.ntmps31
  go_wp2_with (go_at_call 44; refine (valid_any _ _ c0).mono ?_; rintro e w' ⟨rfl, rfl⟩)
  go_ret
  exact ⟨rfl, rfl⟩
theorem check_in (h : SOwn w P n m) (i : Nat) (hi : i < n) : Calls Try.prog 40 #[.pointer (some ⟨P, 0, none⟩), .int .i64 (i : Nat)] w fun e w' => e = .returned (.int .i64 0) ∧ w = w' := by
  have c0 := h.c0
  have c1 := h.c1
  have i0 : (0 : Int) ≤ (i : Int) := by omega
  have i1 : decide (n ≤ i) = false := by simp; omega
  have i2 : decide ((n : Int) ≤ (i : Int)) = false := by simp; omega
  have i3 : decide ((i : Int) < 0) = false := by simp
  clear h hi
  go_enter Try.func40, Try.ntmps40
  go_wp2_with (go_at_call 44; refine (valid_any _ _ c0).mono ?_; rintro e w' ⟨rfl, rfl⟩)
  go_ret
  exact ⟨rfl, rfl⟩
theorem check_out (h : SOwn w P n m) (i : Int) (hi : i < 0 ∨ (n : Int) ≤ i) : Calls Try.prog 40 #[.pointer (some ⟨P, 0, none⟩), .int .i64 i] w fun e w' => e = .returned (.int .i64 3) ∧ w = w' := by
  have c0 := h.c0
  have c1 := h.c1
  clear h
  rcases Int.lt_or_le i 0 with h0 | h0
  · have i3 : decide (i < 0) = true := by simpa using h0
    go_enter Try.func40, Try.ntmps40
    go_wp2_with (go_at_call 44; refine (valid_any _ _ c0).mono ?_; rintro e w' ⟨rfl, rfl⟩)
    go_ret
    exact ⟨rfl, rfl⟩
  · have i3 : decide (i < 0) = false := by simpa using h0
    have i2 : decide ((n : Int) ≤ i) = true := by simp; omega
    clear hi h0
    go_enter Try.func40, Try.ntmps40
    go_wp2_with (go_at_call 44; refine (valid_any _ _ c0).mono ?_; rintro e w' ⟨rfl, rfl⟩)
    go_ret
    exact ⟨rfl, rfl⟩
theorem add_out (h : SOwn w P n m) (i : Int) (hi : i < 0 ∨ (n : Int) ≤ i) : Calls Try.prog 15 #[.pointer (some ⟨P, 0, none⟩), .int .i64 i] w fun e w' => e = .returned (.int .i64 3) ∧ w = w' := by
  have g := Lib.hid h
  have gi := Lib.hid hi
  clear h hi
  go_enter Try.func15, Try.ntmps15
  go_wp2_with (go_at_call 40; refine (check_out g.out _ gi.out).mono ?_; rintro e w' ⟨rfl, rfl⟩)
  go_ret
  exact ⟨rfl, rfl⟩
theorem remove_out (h : SOwn w P n m) (i : Int) (hi : i < 0 ∨ (n : Int) ≤ i) : Calls Try.prog 17 #[.pointer (some ⟨P, 0, none⟩), .int .i64 i] w fun e w' => e = .returned (.int .i64 3) ∧ w = w' := by
  have g := Lib.hid h
  have gi := Lib.hid hi
  clear h hi
  go_enter Try.func17, Try.ntmps17
  go_wp2_with (go_at_call 40; refine (check_out g.out _ gi.out).mono ?_; rintro e w' ⟨rfl, rfl⟩)
  go_ret
  exact ⟨rfl, rfl⟩
theorem has_out (h : SOwn w P n m) (i : Int) (hi : i < 0 ∨ (n : Int) ≤ i) : Calls Try.prog 29 #[.pointer (some ⟨P, 0, none⟩), .int .i64 i] w fun e w' => e = .returned (.bool false) ∧ w = w' := by
  have g := Lib.hid h
  have gi := Lib.hid hi
  clear h hi
  go_enter Try.func29, Try.ntmps29
  go_wp2_with (go_at_call 40; refine (check_out g.out _ gi.out).mono ?_; rintro e w' ⟨rfl, rfl⟩)
  go_ret
  exact ⟨rfl, rfl⟩
theorem has_in (h : SOwn w P n m) (i : Nat) (hi : i < n) : Calls Try.prog 29 #[.pointer (some ⟨P, 0, none⟩), .int .i64 (i : Nat)] w fun e w' => e = .returned (.bool (m.testBit i)) ∧ w = w' := by
  have g := Lib.hid h
  have gi := Lib.hid hi
  have c2 := h.c2
  have i0 : (0 : Int) ≤ (i : Int) := by omega
  have hb := bit_u64 h.m64 (show i < 64 by have := h.le; omega)
  clear h hi
  go_enter Try.func29, Try.ntmps29
  go_wp2_with (go_at_call 40; refine (check_in g.out _ gi.out).mono ?_; rintro e w' ⟨rfl, rfl⟩)
  go_ret
  exact ⟨rfl, rfl⟩
/-- What an operation on the set leaves. -/
def Left (w : World) (P n k : Nat) (w' : World) : Prop := SOwn w' P n k ∧ But (fun b => b = P) w w'
theorem left_of (h : SOwn w P n m) (k : Nat) (hk : k < 2 ^ n) : Left w P n k (w.setCell ⟨P, 2, none⟩ (.int .u64 (k : Nat))) := ⟨h.set k hk, SOwn.turn w P _⟩
theorem left_drew {k : Nat} {w' : World} (h : Left w P n k w') : Left w P n k w'.drew := ⟨h.1.below ((Below.refl _ _).drew), h.2.drew⟩
theorem shl_or {m i n : Nat} (hm : m < 2 ^ n) (hi : i < n) (hn : n ≤ 34) : bits .or .u64 (m : Int) (IntKind.u64.wrap (2 ^ min i 64)) = ((m ||| 2 ^ i : Nat) : Int) := by
  have e : IntKind.u64.wrap (2 ^ min i 64) = ((2 ^ i : Nat) : Int) := by
    have h := lt_64 (pow_lt hi) (show n ≤ 64 by omega)
    rw [IntKind.wrap_u64, Nat.min_eq_left (by omega), pow_int]
    obtain ⟨q, hq⟩ : ∃ q, q = 2 ^ i := ⟨_, rfl⟩
    rw [← hq] at h ⊢
    clear hq
    omega
  rw [e]
  exact or_u64 hm (pow_lt hi) hn
theorem shl_andNot {m i n : Nat} (hm : m < 2 ^ n) (hi : i < n) (hn : n ≤ 34) : bits .andNot .u64 (m : Int) (IntKind.u64.wrap (2 ^ min i 64)) = ((minus m (2 ^ i) : Nat) : Int) := by
  have e : IntKind.u64.wrap (2 ^ min i 64) = ((2 ^ i : Nat) : Int) := by
    have h := lt_64 (pow_lt hi) (show n ≤ 64 by omega)
    rw [IntKind.wrap_u64, Nat.min_eq_left (by omega), pow_int]
    obtain ⟨q, hq⟩ : ∃ q, q = 2 ^ i := ⟨_, rfl⟩
    rw [← hq] at h ⊢
    clear hq
    omega
  rw [e]
  exact andNot_u64 hm (pow_lt hi) hn
theorem add_in (h : SOwn w P n m) (i : Nat) (hi : i < n) : Calls Try.prog 15 #[.pointer (some ⟨P, 0, none⟩), .int .i64 (i : Nat)] w fun e w' => e = .returned (.int .i64 0) ∧ Left w P n (m ||| 2 ^ i) w' := by
  have g := Lib.hid h
  have gi := Lib.hid hi
  have c2 := h.c2
  have f2 := h.fz 2
  have i0 : (0 : Int) ≤ (i : Int) := by omega
  have gE := Lib.hid (left_drew (left_of h (m ||| 2 ^ i) (Nat.or_lt_two_pow h.lt (pow_lt hi))))
  have hs := shl_or h.lt hi h.le
  obtain ⟨k, hk⟩ : ∃ k, k = m ||| 2 ^ i := ⟨_, rfl⟩
  rw [← hk] at hs gE ⊢
  clear h hi hk
  go_enter Try.func15, Try.ntmps15
  go_wp2_with (go_at_call 40; refine (check_in g.out _ gi.out).mono ?_; rintro e w' ⟨rfl, rfl⟩)
  go_region
  go_wp2
  go_ret
  exact ⟨rfl, gE.out⟩
theorem remove_in (h : SOwn w P n m) (i : Nat) (hi : i < n) : Calls Try.prog 17 #[.pointer (some ⟨P, 0, none⟩), .int .i64 (i : Nat)] w fun e w' => e = .returned (.int .i64 0) ∧ Left w P n (minus m (2 ^ i)) w' := by
  have g := Lib.hid h
  have gi := Lib.hid hi
  have c2 := h.c2
  have f2 := h.fz 2
  have i0 : (0 : Int) ≤ (i : Int) := by omega
  have gE := Lib.hid (left_drew (left_of h (minus m (2 ^ i)) (minus_lt h.lt)))
  have hs := shl_andNot h.lt hi h.le
  obtain ⟨k, hk⟩ : ∃ k, k = minus m (2 ^ i) := ⟨_, rfl⟩
  rw [← hk] at hs gE ⊢
  clear h hi hk
  go_enter Try.func17, Try.ntmps17
  go_wp2_with (go_at_call 40; refine (check_in g.out _ gi.out).mono ?_; rintro e w' ⟨rfl, rfl⟩)
  go_region
  go_wp2
  go_ret
  exact ⟨rfl, gE.out⟩
section
variable {Q n2 t : Nat}
theorem fits_bad2 (h : SOwn w P n m) (q : Option Addr) (hq : Bad w q) : Calls Try.prog 42 #[.pointer (some ⟨P, 0, none⟩), .pointer q] w fun e w' => e = .returned (.int .i64 1) ∧ w = w' := by
  have c0 := h.c0
  have gq := Lib.hid hq
  clear h hq
  go_enter Try.func42, Try.ntmps42
  go_wp2_with fail
  refine (valid_any _ _ c0).mono ?_
  rintro e _ ⟨rfl, rfl⟩
  go_wp2_with fail
  refine (valid_bad _ _ gq.out).mono ?_
  rintro e _ ⟨rfl, rfl⟩
  go_wp2_with fail
  go_ret
  exact ⟨rfl, rfl⟩
theorem fits_ne (h : SOwn w P n m) (k : SOwn w Q n2 t) (hne : n ≠ n2) : Calls Try.prog 42 #[.pointer (some ⟨P, 0, none⟩), .pointer (some ⟨Q, 0, none⟩)] w fun e w' => e = .returned (.int .i64 2) ∧ ∃ q, w' = w.drewN q := by
  have c0 := h.c0
  have c1 := h.c1
  have d0 := k.c0
  have d1 := k.c1
  have e1 : ((n : Int) == (n2 : Int)) = false := by simp; omega
  have e2 : ((n : Int) != (n2 : Int)) = true := by simp; omega
  clear h k hne
  go_enter Try.func42, Try.ntmps42
  go_wp2_with fail
  refine (valid_any _ _ c0).mono ?_
  rintro e _ ⟨rfl, rfl⟩
  go_wp2_with fail
  refine (valid_any _ _ d0).mono ?_
  rintro e _ ⟨rfl, rfl⟩
  go_wp2_with fail
  go_quiet (fail)
  go_wp2_with fail
  go_ret
  exact ⟨rfl, _, rfl⟩
theorem fits_eq (h : SOwn w P n m) (k : SOwn w Q n t) : Calls Try.prog 42 #[.pointer (some ⟨P, 0, none⟩), .pointer (some ⟨Q, 0, none⟩)] w fun e w' => e = .returned (.int .i64 0) ∧ ∃ q, w' = w.drewN q := by
  have c0 := h.c0
  have c1 := h.c1
  have d0 := k.c0
  have d1 := k.c1
  clear h k
  go_enter Try.func42, Try.ntmps42
  go_wp2_with fail
  refine (valid_any _ _ c0).mono ?_
  rintro e _ ⟨rfl, rfl⟩
  go_wp2_with fail
  refine (valid_any _ _ d0).mono ?_
  rintro e _ ⟨rfl, rfl⟩
  go_wp2_with fail
  go_quiet (fail)
  go_wp2_with fail
  go_ret
  exact ⟨rfl, _, rfl⟩
theorem union_any (h : SOwn w P n m) (k : SOwn w Q n t) : Calls Try.prog 19 #[.pointer (some ⟨P, 0, none⟩), .pointer (some ⟨Q, 0, none⟩)] w fun e w' => e = .returned (.int .i64 0) ∧ Left w P n (m ||| t) w' := by
  have g := Lib.hid h
  have gk := Lib.hid k
  have hs := or_u64 h.lt k.lt h.le
  have hl := Nat.or_lt_two_pow h.lt k.lt
  obtain ⟨r, hr⟩ : ∃ r, r = m ||| t := ⟨_, rfl⟩
  rw [← hr] at hs hl ⊢
  have gl := Lib.hid hl
  clear h k hr hl
  go_enter Try.func19, Try.ntmps19
  go_wp2_with fail
  refine (fits_eq g.out gk.out).mono ?_
  rintro e _ ⟨rfl, q, rfl⟩
  have gd := Lib.hid (bel_drewN (Below.refl w.heap.size w) q)
  obtain ⟨V, hV⟩ : ∃ V, V = w.drewN q := ⟨_, rfl⟩
  rw [← hV] at gd ⊢
  clear hV
  have g2 := Lib.hid (g.out.below gd.out)
  have gk2 := Lib.hid (gk.out.below gd.out)
  have c2 := g2.out.c2
  have d2 := gk2.out.c2
  have f2 := g2.out.fz 2
  have gE := Lib.hid (left_drew (left_of g2.out r gl.out))
  have gF := Lib.hid (show Left w P n r _ from ⟨gE.out.1, (But.of_below gd.out).trans gE.out.2⟩)
  go_wp2_with fail
  go_region
  go_wp2_with fail
  go_ret
  exact ⟨rfl, gF.out⟩
theorem union_ne (h : SOwn w P n m) (k : SOwn w Q n2 t) (hne : n ≠ n2) : Calls Try.prog 19 #[.pointer (some ⟨P, 0, none⟩), .pointer (some ⟨Q, 0, none⟩)] w fun e w' => e = .returned (.int .i64 2) ∧ ∃ q, w' = w.drewN q := by
  have g := Lib.hid h
  have gk := Lib.hid k
  have gn := Lib.hid hne
  clear h k hne
  go_enter Try.func19, Try.ntmps19
  go_wp2_with fail
  refine (fits_ne g.out gk.out gn.out).mono ?_
  rintro e _ ⟨rfl, q, rfl⟩
  go_wp2_with fail
  go_ret
  exact ⟨rfl, q, rfl⟩
theorem union_bad1 (p q : Option Addr) (w : World) (h : Bad w p) : Calls Try.prog 19 #[.pointer p, .pointer q] w fun e w' => e = .returned (.int .i64 1) ∧ w = w' := by
  have g := Lib.hid h
  clear h
  go_enter Try.func19, Try.ntmps19
  go_wp2_with fail
  refine (fits_bad1 _ _ _ g.out).mono ?_
  rintro e _ ⟨rfl, rfl⟩
  go_wp2_with fail
  go_ret
  exact ⟨rfl, rfl⟩
theorem union_bad2 (h : SOwn w P n m) (q : Option Addr) (hq : Bad w q) : Calls Try.prog 19 #[.pointer (some ⟨P, 0, none⟩), .pointer q] w fun e w' => e = .returned (.int .i64 1) ∧ w = w' := by
  have g := Lib.hid h
  have gq := Lib.hid hq
  clear h hq
  go_enter Try.func19, Try.ntmps19
  go_wp2_with fail
  refine (fits_bad2 g.out _ gq.out).mono ?_
  rintro e _ ⟨rfl, rfl⟩
  go_wp2_with fail
  go_ret
  exact ⟨rfl, rfl⟩
theorem minus_any (h : SOwn w P n m) (k : SOwn w Q n t) : Calls Try.prog 21 #[.pointer (some ⟨P, 0, none⟩), .pointer (some ⟨Q, 0, none⟩)] w fun e w' => e = .returned (.int .i64 0) ∧ Left w P n (minus m t) w' := by
  have g := Lib.hid h
  have gk := Lib.hid k
  have hs := andNot_u64 h.lt k.lt h.le
  have hl := minus_lt (t := t) h.lt
  obtain ⟨r, hr⟩ : ∃ r, r = minus m t := ⟨_, rfl⟩
  rw [← hr] at hs hl ⊢
  have gl := Lib.hid hl
  clear h k hr hl
  go_enter Try.func21, Try.ntmps21
  go_wp2_with fail
  refine (fits_eq g.out gk.out).mono ?_
  rintro e _ ⟨rfl, q, rfl⟩
  have gd := Lib.hid (bel_drewN (Below.refl w.heap.size w) q)
  obtain ⟨V, hV⟩ : ∃ V, V = w.drewN q := ⟨_, rfl⟩
  rw [← hV] at gd ⊢
  clear hV
  have g2 := Lib.hid (g.out.below gd.out)
  have gk2 := Lib.hid (gk.out.below gd.out)
  have c2 := g2.out.c2
  have d2 := gk2.out.c2
  have f2 := g2.out.fz 2
  have gE := Lib.hid (left_drew (left_of g2.out r gl.out))
  have gF := Lib.hid (show Left w P n r _ from ⟨gE.out.1, (But.of_below gd.out).trans gE.out.2⟩)
  go_wp2_with fail
  go_region
  go_wp2_with fail
  go_ret
  exact ⟨rfl, gF.out⟩
theorem minus_ne (h : SOwn w P n m) (k : SOwn w Q n2 t) (hne : n ≠ n2) : Calls Try.prog 21 #[.pointer (some ⟨P, 0, none⟩), .pointer (some ⟨Q, 0, none⟩)] w fun e w' => e = .returned (.int .i64 2) ∧ ∃ q, w' = w.drewN q := by
  have g := Lib.hid h
  have gk := Lib.hid k
  have gn := Lib.hid hne
  clear h k hne
  go_enter Try.func21, Try.ntmps21
  go_wp2_with fail
  refine (fits_ne g.out gk.out gn.out).mono ?_
  rintro e _ ⟨rfl, q, rfl⟩
  go_wp2_with fail
  go_ret
  exact ⟨rfl, q, rfl⟩
theorem minus_bad1 (p q : Option Addr) (w : World) (h : Bad w p) : Calls Try.prog 21 #[.pointer p, .pointer q] w fun e w' => e = .returned (.int .i64 1) ∧ w = w' := by
  have g := Lib.hid h
  clear h
  go_enter Try.func21, Try.ntmps21
  go_wp2_with fail
  refine (fits_bad1 _ _ _ g.out).mono ?_
  rintro e _ ⟨rfl, rfl⟩
  go_wp2_with fail
  go_ret
  exact ⟨rfl, rfl⟩
theorem minus_bad2 (h : SOwn w P n m) (q : Option Addr) (hq : Bad w q) : Calls Try.prog 21 #[.pointer (some ⟨P, 0, none⟩), .pointer q] w fun e w' => e = .returned (.int .i64 1) ∧ w = w' := by
  have g := Lib.hid h
  have gq := Lib.hid hq
  clear h hq
  go_enter Try.func21, Try.ntmps21
  go_wp2_with fail
  refine (fits_bad2 g.out _ gq.out).mono ?_
  rintro e _ ⟨rfl, rfl⟩
  go_wp2_with fail
  go_ret
  exact ⟨rfl, rfl⟩
theorem copy_any (h : SOwn w P n m) : Calls Try.prog 23 #[.pointer (some ⟨P, 0, none⟩)] w fun e w' => e = .returned (.pointer (some ⟨w.heap.size, 0, none⟩)) ∧ Hid (SOwn w' w.heap.size n m ∧ Below w.heap.size w w') := by
  have c0 := h.c0
  have c1 := h.c1
  have c2 := h.c2
  have g := Lib.hid h
  clear h
  go_enter Try.func23, Try.ntmps23
  go_wp2_with fail
  refine (valid_any _ _ c0).mono ?_
  rintro e _ ⟨rfl, rfl⟩
  go_wp2_with fail
  go_ret
  exact ⟨rfl, ⟨World.alloc_heap_new _ _, g.out.pos, g.out.le, g.out.lt⟩, (Below.refl _ w).alloc (Nat.le_refl _) _⟩
end
end
end Go.Proofs.Ytpdipcgchhibeaa
