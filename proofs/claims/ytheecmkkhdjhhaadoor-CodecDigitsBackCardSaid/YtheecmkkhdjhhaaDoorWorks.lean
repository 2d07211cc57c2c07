/- works(): the examples of chapter 1 hold. -/
import Derived.Test.YtheecmkkhdjhhaaDoorHex
import Derived.WalkKit
import Derived.WalkSpells
import Derived.WalkLawsBesides
import Derived.Handy
import Derived.Lib.Hide
import Derived.Outline
import Derived.Laws.BytesArg
import Derived.Laws.CopyOwn
import Derived.Deep.Draws
import Derived.Test.YtheecmkkhdjhhaaDoorDec
namespace Go.Proofs.YtheecmkkhdjhhaaDoor
open Go.RowKit Go.PlainAid

set_option maxHeartbeats 400000 in
theorem digits_zero (w : World) : Calls Tryd.prog 26 #[.int .u64 0] w fun e w' => e = .returned (.string ⟨#[48]⟩) ∧ w = w' := by
  go_enter Tryd.func26, Tryd.ntmps26
  go_wp2
  go_ret
  exact ⟨rfl, rfl⟩

theorem bchain {a b c : World} (h : Below a.heap.size a b) (k : Below b.heap.size b c) : Below a.heap.size a c := h.trans (k.mono h.size)

theorem w1 (A : Option Addr) (c : Nat) (w : World) (h : Wid w) (hb : BI w A 1 [7]) :
    Calls Tryd.prog 13 #[.slice A 1 c, .int .u64 513, .int .i64 2] w fun e w' => ∃ A', e = .returned (.tuple #[.slice A' 3 3, .int .i64 0]) ∧ BI w' A' 3 [7, 1, 2] ∧ Below w.heap.size w w' := by
  refine (append_any A 1 c [7] 513 2 w h hb (by omega) (by omega) (by omega)).mono ?_
  rintro e w' ⟨A', m, rfl, hb', hl⟩
  have e1 : appL [7] 513 2 = [7, 1, 2] := by decide
  have e2 : appE 513 2 = 0 := by decide
  rw [e1] at hb'
  obtain rfl : m = 3 := hb'.1.symm
  exact ⟨A', by rw [e2], hb', hl⟩
theorem w2 (w : World) (h : Wid w) : Calls Tryd.prog 13 #[.slice none 0 0, .int .u64 256, .int .i64 1] w fun e w' => ∃ A' m, e = .returned (.tuple #[.slice A' m m, .int .i64 16]) ∧ Below w.heap.size w w' := by
  refine (append_any none 0 0 [] 256 1 w h (BI.nil _ _) (by omega) (by omega) (by omega)).mono ?_
  rintro e w' ⟨A', m, rfl, _, hl⟩
  have e2 : appE 256 1 = 16 := by decide
  exact ⟨A', m, by rw [e2], hl⟩
theorem w3 (A : Option Addr) (c : Nat) (w : World) (h : Wid w) (hb : BI w A 3 [7, 1, 2]) : Calls Tryd.prog 15 #[.slice A 3 c, .int .i64 1, .int .i64 2] w fun e w' => e = .returned (.tuple #[.int .u64 513, .int .i64 0]) ∧ w = w' := by
  have e1 : uintV [7, 1, 2] 1 2 = 513 := by decide
  have e2 : uintE (3 : Nat) 1 2 = 0 := by decide
  have := uint_any A 3 c [7, 1, 2] 1 2 w h hb (by omega) (by omega) (by omega)
  rw [e1, e2] at this
  exact this
theorem w4 (A : Option Addr) (c : Nat) (w : World) (h : Wid w) (hb : BI w A 3 [7, 1, 2]) : Calls Tryd.prog 15 #[.slice A 3 c, .int .i64 2, .int .i64 2] w fun e w' => e = .returned (.tuple #[.int .u64 0, .int .i64 14]) ∧ w = w' := by
  have e1 : uintV [7, 1, 2] 2 2 = 0 := by decide
  have e2 : uintE (3 : Nat) 2 2 = 14 := by decide
  have := uint_any A 3 c [7, 1, 2] 2 2 w h hb (by omega) (by omega) (by omega)
  rw [e1, e2] at this
  exact this
theorem w5 (w : World) : Calls Tryd.prog 20 #[.string ⟨#[48, 102, 97, 48]⟩] w fun e w' => ∃ A', e = .returned (.tuple #[.slice A' 2 2, .int .i64 0]) ∧ BI w' A' 2 [15, 160] ∧ Below w.heap.size w w' := by
  refine (parseHex_any ⟨#[48, 102, 97, 48]⟩ w (by decide)).mono ?_
  rintro e w' ⟨A', m, rfl, hb', hl⟩
  have e1 : hexOkS ⟨#[48, 102, 97, 48]⟩ = true := by decide +kernel
  have e2 : hexS ⟨#[48, 102, 97, 48]⟩ ((⟨#[48, 102, 97, 48]⟩ : ByteArray).size / 2) = [15, 160] := by decide +kernel
  rw [e1, if_pos rfl, e2] at hb'
  obtain rfl : m = 2 := hb'.1.symm
  exact ⟨A', by rw [e1]; rfl, hb', hl⟩
theorem w6 (w : World) : Calls Tryd.prog 20 #[.string ⟨#[48, 70, 65, 48]⟩] w fun e w' => ∃ A' m, e = .returned (.tuple #[.slice A' m m, .int .i64 8]) ∧ Below w.heap.size w w' := by
  refine (parseHex_any ⟨#[48, 70, 65, 48]⟩ w (by decide)).mono ?_
  rintro e w' ⟨A', m, rfl, _, hl⟩
  have e1 : hexOkS ⟨#[48, 70, 65, 48]⟩ = false := by decide +kernel
  exact ⟨A', m, by rw [e1]; rfl, hl⟩
theorem w7 (w : World) : Calls Tryd.prog 24 #[.string ⟨#[49, 56, 52, 52, 54, 55, 52, 52, 48, 55, 51, 55, 48, 57, 53, 53, 49, 54, 49, 53]⟩] w fun e w' => e = .returned (.tuple #[.int .u64 18446744073709551615, .int .i64 0]) ∧ w = w' := by
  have := parseDigits_any ⟨#[49, 56, 52, 52, 54, 55, 52, 52, 48, 55, 51, 55, 48, 57, 53, 53, 49, 54, 49, 53]⟩ w (by decide)
  have e1 : pdV ⟨#[49, 56, 52, 52, 54, 55, 52, 52, 48, 55, 51, 55, 48, 57, 53, 53, 49, 54, 49, 53]⟩ = 18446744073709551615 := by decide +kernel
  have e2 : pdE ⟨#[49, 56, 52, 52, 54, 55, 52, 52, 48, 55, 51, 55, 48, 57, 53, 53, 49, 54, 49, 53]⟩ = 0 := by decide +kernel
  rw [e1, e2] at this
  exact this
theorem w8 (w : World) : Calls Tryd.prog 24 #[.string ⟨#[49, 56, 52, 52, 54, 55, 52, 52, 48, 55, 51, 55, 48, 57, 53, 53, 49, 54, 49, 54]⟩] w fun e w' => e = .returned (.tuple #[.int .u64 0, .int .i64 16]) ∧ w = w' := by
  have := parseDigits_any ⟨#[49, 56, 52, 52, 54, 55, 52, 52, 48, 55, 51, 55, 48, 57, 53, 53, 49, 54, 49, 54]⟩ w (by decide)
  have e1 : pdV ⟨#[49, 56, 52, 52, 54, 55, 52, 52, 48, 55, 51, 55, 48, 57, 53, 53, 49, 54, 49, 54]⟩ = 0 := by decide +kernel
  have e2 : pdE ⟨#[49, 56, 52, 52, 54, 55, 52, 52, 48, 55, 51, 55, 48, 57, 53, 53, 49, 54, 49, 54]⟩ = 16 := by decide +kernel
  rw [e1, e2] at this
  exact this
theorem w9 (w : World) : Calls Tryd.prog 24 #[.string ⟨#[48, 49]⟩] w fun e w' => e = .returned (.tuple #[.int .u64 0, .int .i64 8]) ∧ w = w' := by
  have := parseDigits_any ⟨#[48, 49]⟩ w (by decide)
  have e1 : pdV ⟨#[48, 49]⟩ = 0 := by decide +kernel
  have e2 : pdE ⟨#[48, 49]⟩ = 8 := by decide +kernel
  rw [e1, e2] at this
  exact this
theorem w10 (A : Option Addr) (c : Nat) (w : World) (hb : BI w A 2 [15, 160]) : Calls Tryd.prog 22 #[.slice A 2 c] w fun e w' => e = .returned (.string ⟨#[48, 102, 97, 48]⟩) ∧ Below w.heap.size w w' :=
  hex_any A 2 c [15, 160] w hb (by omega)
theorem w11 (w : World) (h : Wid w) : Calls Tryd.prog 18 #[.int .u64 255, .int .i64 1] w fun e w' => e = .returned (.bool true) ∧ w = w' := fits_any 255 1 w h (by omega) (by omega)
theorem w12 (w : World) (h : Wid w) : Calls Tryd.prog 18 #[.int .u64 0, .int .i64 3] w fun e w' => e = .returned (.bool false) ∧ w = w' := fits_any 0 3 w h (by omega) (by omega)
/-- A literal slice of bytes. -/
theorem lit_bi (w : World) (zs : List Int) (hb : ∀ z ∈ zs, 0 ≤ z ∧ z ≤ 255) : BI (w.alloc (.cells (zs.map (Value.int .u8)).toArray 5)) (some ⟨w.heap.size, 0, none⟩) zs.length zs :=
  Row.bi (heap_alloc_new w _) rfl hb

set_option maxRecDepth 100000 in
set_option maxHeartbeats 2000000 in
theorem works_any (w : World) (h : Wid w) : Calls Tryd.prog 12 #[] w fun e w' => e = .returned (.bool true) ∧ Below w.heap.size w w' := by
  have hB0 : Below w.heap.size w (w.alloc (.cells #[.int .u8 7] 5)) := (Below.refl _ _).alloc (Nat.le_refl _) _
  have hw0 := h.below hB0
  have hl0 : BI (w.alloc (.cells #[.int .u8 7] 5)) (some ⟨w.heap.size, 0, none⟩) 1 [7] := lit_bi w [7] (by decide)
  go_enter Tryd.func12, Tryd.ntmps12
  go_wp2_with fail
  refine (w1 _ _ _ hw0 hl0).mono ?_
  rintro e wA ⟨A1, rfl, hbA, hBA⟩
  have hwA := hw0.below hBA
  go_wp2_with fail
  refine (w3 _ _ _ hwA hbA).mono ?_
  rintro e _ ⟨rfl, rfl⟩
  go_wp2_with fail
  refine (w2 _ hwA).mono ?_
  rintro e wB ⟨A2, m2, rfl, hBB⟩
  have hwB := hwA.below hBB
  have hbB := hbA.below hBB
  go_wp2_with fail
  refine (w4 _ _ _ hwB hbB).mono ?_
  rintro e _ ⟨rfl, rfl⟩
  go_wp2_with fail
  refine (w5 _).mono ?_
  rintro e wC ⟨A3, rfl, hxC, hBC⟩
  go_wp2_with fail
  refine (w6 _).mono ?_
  rintro e wD ⟨A4, m4, rfl, hBD⟩
  go_wp2_with fail
  refine (w7 _).mono ?_
  rintro e _ ⟨rfl, rfl⟩
  go_wp2_with fail
  refine (w8 _).mono ?_
  rintro e _ ⟨rfl, rfl⟩
  go_wp2_with fail
  refine (w9 _).mono ?_
  rintro e _ ⟨rfl, rfl⟩
  go_wp2_with fail
  have hl1 : BI (wD.alloc (.cells #[.int .u8 7, .int .u8 1, .int .u8 2] 5)) (some ⟨wD.heap.size, 0, none⟩) 3 [7, 1, 2] := lit_bi wD [7, 1, 2] (by decide)
  have hB1 : Below wD.heap.size wD (wD.alloc (.cells #[.int .u8 7, .int .u8 1, .int .u8 2] 5)) := (Below.refl _ _).alloc (Nat.le_refl _) _
  have hb1 := ((hbB.below hBC).below hBD).below hB1
  have hx1 := (hxC.below hBD).below hB1
  have hw1 := ((hwB.below hBC).below hBD).below hB1
  refine (equal_any _ _ _ _ _ _ _ _ _ hb1 hl1).mono ?_
  rintro e _ ⟨rfl, rfl⟩
  rw [decide_eq_true (rfl : ([7, 1, 2] : List Int) = [7, 1, 2])]
  obtain ⟨wE, hwE⟩ : ∃ wE, wE = wD.alloc (.cells #[.int .u8 7, .int .u8 1, .int .u8 2] 5) := ⟨_, rfl⟩
  rw [← hwE] at hl1 hB1 hb1 hx1 hw1 ⊢
  clear hwE
  have hl2 : BI (wE.alloc (.cells #[.int .u8 15, .int .u8 160] 5)) (some ⟨wE.heap.size, 0, none⟩) 2 [15, 160] := lit_bi wE [15, 160] (by decide)
  have hB2 : Below wE.heap.size wE (wE.alloc (.cells #[.int .u8 15, .int .u8 160] 5)) := (Below.refl _ _).alloc (Nat.le_refl _) _
  go_wp2_with fail
  refine (equal_any _ _ _ _ _ _ _ _ _ (hx1.below hB2) hl2).mono ?_
  rintro e _ ⟨rfl, rfl⟩
  rw [decide_eq_true (rfl : ([15, 160] : List Int) = [15, 160])]
  go_wp2_with fail
  refine (w10 _ _ _ (hx1.below hB2)).mono ?_
  rintro e wF ⟨rfl, hBF⟩
  have hwF := (hw1.below hB2).below hBF
  go_wp2_with fail
  refine (digits_zero _).mono ?_
  rintro e _ ⟨rfl, rfl⟩
  go_wp2_with fail
  refine (w11 _ hwF).mono ?_
  rintro e _ ⟨rfl, rfl⟩
  go_wp2_with fail
  refine (w12 _ hwF).mono ?_
  rintro e _ ⟨rfl, rfl⟩
  go_wp2_with fail
  go_ret
  exact ⟨rfl, bchain (bchain (bchain (bchain (bchain (bchain (bchain hB0 hBA) hBB) hBC) hBD) hB1) hB2) hBF⟩
end Go.Proofs.YtheecmkkhdjhhaaDoor
