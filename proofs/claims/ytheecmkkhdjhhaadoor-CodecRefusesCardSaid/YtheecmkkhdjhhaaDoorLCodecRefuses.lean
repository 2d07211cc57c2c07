/- The walk of CodecRefuses: whatever the width, it is turned into one that is none; the calls are refused. -/
import Derived.Test.YtheecmkkhdjhhaaDoorFrame
import Derived.Test.YtheecmkkhdjhhaaDoorWorks
namespace Go.Proofs.YtheecmkkhdjhhaaDoor
open Go.RowKit Go.PlainAid

theorem append_bad (A : Option Addr) (n c : Nat) (zs : List Int) (x k : Int) (w : World) (h : Wid w) (hb : BI w A n zs) (hn : n ≤ 281474976710000) (hx0 : 0 ≤ x) (hx1 : x < 18446744073709551616) (hk : isW k = false) :
   Calls Tryd.prog 13 #[.slice A n c, .int .u64 x, .int .i64 k] w fun e w' => ∃ A', e = .returned (.tuple #[.slice A' 0 0, .int .i64 2]) ∧ Below w.heap.size w w' := by
  refine (append_any A n c zs x k w h hb hn hx0 hx1).mono ?_
  rintro e w' ⟨A', m, rfl, hb', hl⟩
  have e2 : appE x k = 2 := by simp [appE, hk]
  have e1 : appL zs x k = [] := by rw [appL, e2]; rfl
  rw [e1] at hb'
  obtain rfl : m = 0 := hb'.1.symm
  exact ⟨A', by rw [e2], hl⟩
theorem uint_bad (A : Option Addr) (n c : Nat) (zs : List Int) (i k : Int) (w : World) (h : Wid w) (hb : BI w A n zs) (hn : n ≤ 9223372036854775807) (hk1 : -9223372036854775808 ≤ k) (hk2 : k ≤ 9223372036854775807) (hk : isW k = false) :
   Calls Tryd.prog 15 #[.slice A n c, .int .i64 i, .int .i64 k] w fun e w' => e = .returned (.tuple #[.int .u64 0, .int .i64 2]) ∧ w = w' := by
  have := uint_any A n c zs i k w h hb hn hk1 hk2
  have e2 : uintE n i k = 2 := by simp [uintE, hk]
  have e1 : uintV zs i k = 0 := by rw [uintV, hb.1, e2]; rfl
  rw [e1, e2] at this
  exact this
theorem uint_neg (A : Option Addr) (n c : Nat) (zs : List Int) (i : Int) (w : World) (h : Wid w) (hb : BI w A n zs) (hn : n ≤ 9223372036854775807) (hi : i < 0) :
   Calls Tryd.prog 15 #[.slice A n c, .int .i64 i, .int .i64 4] w fun e w' => e = .returned (.tuple #[.int .u64 0, .int .i64 3]) ∧ w = w' := by
  have := uint_any A n c zs i 4 w h hb hn (by omega) (by omega)
  have e2 : uintE n i 4 = 3 := by simp [uintE, isW, hi]
  have e1 : uintV zs i 4 = 0 := by rw [uintV, hb.1, e2]; rfl
  rw [e1, e2] at this
  exact this
theorem fits_bad (n k : Int) (w : World) (h : Wid w) (h0 : 0 ≤ n) (h1 : n < 18446744073709551616) (hk : isW k = false) : Calls Tryd.prog 18 #[.int .u64 n, .int .i64 k] w fun e w' => e = .returned (.bool false) ∧ w = w' := by
  have := fits_any n k w h h0 h1
  rw [show fitsB n k = false from by simp [fitsB, hk]] at this
  exact this

set_option maxRecDepth 100000 in
set_option maxHeartbeats 2000000 in
theorem codecRefuses_walk (a0 : Int) (a1 : Int) (a2 : Int) (w : World) (wid : Wid w) (w0 : (Lit.int .i64 a0).wf = true) (w1 : (Lit.int .u64 a1).wf = true) (w2 : (Lit.int .u16 a2).wf = true) :
    Calls Tryd.prog 11 #[.int .i64 a0, .int .u64 a1, .int .u16 a2] w fun e w' => e = .returned (.bool true) ∧ Below w.heap.size w w' := by
  have b0 := bounds_i64 w0
  have b1 := bounds_u64 w1
  have b2 := bounds_u16 w2
  clear w0 w1 w2
  obtain ⟨c1, c2⟩ := b0
  obtain ⟨c3, c4⟩ := b1
  obtain ⟨c5, c6⟩ := b2
  have hB0 : Below w.heap.size w (w.alloc (.cells #[.int .u8 1] 5)) := (Below.refl _ _).alloc (Nat.le_refl _) _
  have hw0 := wid.below hB0
  have hl0 : BI (w.alloc (.cells #[.int .u8 1] 5)) (some ⟨w.heap.size, 0, none⟩) 1 [1] := lit_bi w [1] (by decide)
  have hmk := make_bytes 20 20 (Nat.le_refl _) (by omega)
  rw [show ((20 : Nat) : Int) = 20 from rfl] at hmk
  have hcases : ∃ k : Int, isW k = false ∧ ((a0 = 1 ∧ k = 3) ∨ (a0 = 2 ∧ k = 3) ∨ (a0 = 4 ∧ k = 5) ∨ (a0 = 8 ∧ k = 9) ∨ (((a0 == 1) = false ∧ (a0 == 2) = false ∧ (a0 == 4) = false ∧ (a0 == 8) = false) ∧ k = a0)) := by
    by_cases h1 : a0 = 1
    · exact ⟨3, by decide, by simp [*]⟩
    by_cases h2 : a0 = 2
    · exact ⟨3, by decide, by simp [*]⟩
    by_cases h3 : a0 = 4
    · exact ⟨5, by decide, by simp [*]⟩
    by_cases h4 : a0 = 8
    · exact ⟨9, by decide, by simp [*]⟩
    exact ⟨a0, by simp [isW, h1, h2, h3, h4], by simp [*]⟩
  obtain ⟨k, hk, ⟨rfl, rfl⟩ | ⟨rfl, rfl⟩ | ⟨rfl, rfl⟩ | ⟨rfl, rfl⟩ | ⟨⟨h1, h2, h3, h4⟩, rfl⟩⟩ := hcases
  all_goals (
    go_enter Tryd.func11, Tryd.ntmps11
    go_wp2_with fail
    refine (append_bad _ _ _ _ _ _ _ hw0 hl0 (by omega) (by omega) (by omega) hk).mono ?_
    rintro e wA ⟨A1, rfl, hBA⟩
    have hwA := hw0.below hBA
    have hB1 : Below wA.heap.size wA (wA.alloc (.cells (byteZeros 20) 5)) := (Below.refl _ _).alloc (Nat.le_refl _) _
    have hl1 := (row_zeros wA 20).bi (n := 20) (by simp) (by simp)
    have hw1 := hwA.below hB1
    go_wp2_with fail
    refine (uint_bad _ _ _ _ _ _ _ hw1 hl1 (by omega) (by omega) (by omega) hk).mono ?_
    rintro e _ ⟨rfl, rfl⟩
    obtain ⟨wE, hwE⟩ : ∃ wE, wE = wA.alloc (.cells (byteZeros 20) 5) := ⟨_, rfl⟩
    rw [← hwE] at hB1 hw1 ⊢
    clear hwE hl1
    have hB2 : Below wE.heap.size wE (wE.alloc (.cells (byteZeros 20) 5)) := (Below.refl _ _).alloc (Nat.le_refl _) _
    have hl2 := (row_zeros wE 20).bi (n := 20) (by simp) (by simp)
    have hw2 := hw1.below hB2
    go_wp2_with fail
    refine (uint_neg _ _ _ _ _ _ hw2 hl2 (by omega) (by omega)).mono ?_
    rintro e _ ⟨rfl, rfl⟩
    go_wp2_with fail
    refine (fits_bad _ _ _ hw2 (by omega) (by omega) hk).mono ?_
    rintro e _ ⟨rfl, rfl⟩
    go_wp2_with fail
    refine (works_any _ hw2).mono ?_
    rintro e wF ⟨rfl, hBF⟩
    go_wp2_with fail
    go_ret
    exact ⟨rfl, bchain (bchain (bchain (bchain hB0 hBA) hB1) hB2) hBF⟩)
end Go.Proofs.YtheecmkkhdjhhaaDoor
