/- SlotsetCopies: the walk. -/
import Derived.Test.YtpdipcgchhibeaaUse
namespace Go.Proofs.Ytpdipcgchhibeaa
open Go.RowKit
theorem minus_self {m : Nat} (h : m < 18446744073709551616) : minus m m = 0 := by
  apply Nat.eq_of_testBit_eq
  intro i
  rw [testBit_minus h, Nat.zero_testBit]
  cases m.testBit i <;> simp
/-- A set, its row, and a copy of it beside. -/
structure Pair (w : World) (P R C n m t : Nat) (wr : World) : Prop where
  s : Hold w P n m wr
  r : Row wr R n m
  c : Hold w C n t wr
  h1 : C ≠ P
  h2 : R ≠ P
  h3 : R ≠ C
theorem Pair.below {w wr w' : World} {P R C n m t : Nat} (h : Pair w P R C n m t wr) (hb : Below wr.heap.size wr w') : Pair w P R C n m t w' := ⟨h.s.below hb, h.r.below hb, h.c.below hb, h.h1, h.h2, h.h3⟩
theorem Pair.turn {w wr w' : World} {P R C n m t k : Nat} (h : Pair w P R C n m t wr) (hL : Left wr C n k w') : Pair w P R C n m k w' := ⟨h.s.beside hL h.c.hP h.h1.symm, h.r.left hL h.h3, h.c.left hL, h.h1, h.h2, h.h3⟩
set_option maxRecDepth 100000 in
set_option maxHeartbeats 8000000 in
theorem slotsetCopies_walk (a0 : Int) (a1 : Option Addr) (len1 cap1 : Nat) (z1 : List Int) (a2 : Option Addr) (len2 cap2 : Nat) (z2 : List Int) (w : World) (w0 : (Lit.int .u8 a0).wf = true) (w1 : IsRow .u8 w a1 len1 cap1 z1) (w2 : IsRow .u8 w a2 len2 cap2 z2) :
    Calls Try.prog 10 #[.int .u8 a0, .slice a1 len1 cap1, .slice a2 len2 cap2] w fun e w' => e = .returned (.bool true) ∧ Below w.heap.size w w' := by
  obtain ⟨s, rfl, hs⟩ := nat_of_u8 w0
  have hlen := w1.len
  have hlen2 := w2.len
  have gl := Lib.hid w1.bn
  have gl2 := Lib.hid w2.bn
  obtain ⟨ns, hns⟩ : ∃ ns, ns = nums len1 z1 := ⟨_, rfl⟩
  obtain ⟨ms, hms⟩ : ∃ ms, ms = nums len2 z2 := ⟨_, rfl⟩
  rw [← hns] at gl
  rw [← hms] at gl2
  clear w0 w1 w2 hns hms
  by_cases h100 : 100 < len1
  · have d1 : decide (100 < len1) = true := by simpa using h100
    go_enter Try.func10, Try.ntmps10
    go_wp2_with fail
    refine (works_any _).mono ?_
    rintro e w' ⟨rfl, hb⟩
    have gb := Lib.hid hb
    clear hb
    go_wp2_with fail
    go_ret
    exact ⟨rfl, gb.out⟩
  · have d1 : decide (100 < len1) = false := by simpa using h100
    have d1i : decide ((100 : Int) < (len1 : Int)) = false := by simp; omega
    have h100' : len1 ≤ 100 := by omega
    by_cases h40 : 40 < len2
    · have d2 : decide (40 < len2) = true := by simpa using h40
      clear h100
      go_enter Try.func10, Try.ntmps10
      go_wp2_with fail
      refine (works_any _).mono ?_
      rintro e w' ⟨rfl, hb⟩
      have gb := Lib.hid hb
      clear hb
      go_wp2_with fail
      go_ret
      exact ⟨rfl, gb.out⟩
    · have d2 : decide (40 < len2) = false := by simpa using h40
      have d2i : decide ((40 : Int) < (len2 : Int)) = false := by simp; omega
      have h40' : len2 ≤ 40 := by omega
      have gs := Lib.hid hs
      clear hs h100 h40
      go_enter Try.func10, Try.ntmps10
      go_wp2_with fail
      refine (filled_any s a1 len1 cap1 ns w gl.out (by omega) gs.out).mono ?_
      rintro e W1 ⟨P, R, rfl, gF⟩
      obtain ⟨n, hn⟩ : ∃ n, n = 1 + s % 34 := ⟨_, rfl⟩
      obtain ⟨m, hm⟩ : ∃ m, m = fillN (1 + s % 34) ns := ⟨_, rfl⟩
      rw [← hm, ← hn] at gF
      rw [← hn]
      clear hn hm
      have hn34 : n ≤ 34 := gF.out.set.le
      have hn1 : 1 ≤ n := gF.out.set.pos
      clear gl gs d1 d1i d2 d2i
      go_wp2_with fail
      refine (h_copy gF.out.hold).mono ?_
      rintro e W2 ⟨rfl, h2, hb⟩
      obtain ⟨C, hC⟩ : ∃ C, C = W1.heap.size := ⟨_, rfl⟩
      rw [← hC] at h2
      rw [← hC]
      have gP := Lib.hid (show Pair w P R C n m m W2 from ⟨gF.out.hold.below hb, gF.out.rows.below hb, h2, by have := gF.out.set.blt; omega, gF.out.ne, by have := lt_of_heap gF.out.row; omega⟩)
      clear h2 hb hC gF
      go_wp2_with fail
      refine (h_size gP.out.c).mono ?_
      rintro e _ ⟨rfl, rfl⟩
      go_wp2_with fail
      go_loopw [10] (fun c wr => ∃ (k t : Nat), k ≤ len2 ∧ c = .int .i64 (k : Nat) ∧ Hid (Pair w P R C n m t wr)) (fun c _ => len2 - (intOf c).toNat)
      case atStart => exact ⟨0, m, Nat.zero_le _, rfl, gP.out⟩
      case round =>
        obtain ⟨k, t, hk, rfl, gI⟩ := hrel
        clear gP
        by_cases hlt : k < len2
        · obtain ⟨b, o, x, rfl, _, hx256, hc⟩ := (gl2.out.below gI.out.s.low).at hlt
          obtain ⟨q, hq⟩ : ∃ q, q = x % n := ⟨_, rfl⟩
          have hqn : q < n := by rw [hq]; exact Nat.mod_lt _ (by omega)
          have e3 : Int.tmod (x : Int) (n : Int) = (q : Int) := by rw [hq]; rfl
          have e4 : (x : Int) % (n : Int) = (q : Int) := by rw [hq]; rfl
          have n0 : ¬ ((n : Int) = 0) := by omega
          have gH := Lib.hid (has_in gI.out.c.set q hqn)
          obtain ⟨u, hu⟩ : ∃ u, u = t.testBit q := ⟨_, rfl⟩
          rw [← hu] at gH
          clear hq hu
          cases u with
          | true =>
            go_wp2_with fail
            refine gH.out.mono ?_
            rintro e _ ⟨rfl, rfl⟩
            go_wp2_with fail
            refine (h_remove gI.out.c q hqn).mono ?_
            rintro e w2 ⟨rfl, _, hL⟩
            have gN := Lib.hid (gI.out.turn hL)
            clear hL
            go_wp2_with fail
            go_roundw
            case rel => exact ⟨k + 1, _, by omega, by simp, gN.out⟩
            case measure => simp [intOf] <;> omega
          | false =>
            go_wp2_with fail
            refine gH.out.mono ?_
            rintro e _ ⟨rfl, rfl⟩
            go_wp2_with fail
            refine (h_add gI.out.c q hqn).mono ?_
            rintro e w2 ⟨rfl, _, hL⟩
            have gN := Lib.hid (gI.out.turn hL)
            clear hL
            go_wp2_with fail
            go_roundw
            case rel => exact ⟨k + 1, _, by omega, by simp, gN.out⟩
            case measure => simp [intOf] <;> omega
        · obtain rfl : k = len2 := by omega
          clear hlt
          go_wp2_with fail
          refine (slots_is gI.out.r hn34 gI.out.s.set.lt).mono ?_
          rintro e W5 ⟨A, d, rfl, gA⟩
          have g5 := Lib.hid (gI.out.below gA.out.2)
          clear gI
          go_wp2_with fail
          refine (same_is g5.out.s gA.out.1).mono ?_
          rintro e W6 ⟨rfl, hb⟩
          have g6 := Lib.hid (g5.out.below hb)
          clear g5 gA hb
          go_wp2_with fail
          refine (h_copy g6.out.s).mono ?_
          rintro e W7 ⟨rfl, h7, hb⟩
          obtain ⟨D, hD⟩ : ∃ D, D = W6.heap.size := ⟨_, rfl⟩
          rw [← hD] at h7
          rw [← hD]
          have gP := Lib.hid (show Pair w P R D n m m W7 from ⟨g6.out.s.below hb, g6.out.r.below hb, h7, by have := g6.out.s.lt; omega, g6.out.h2, by have := lt_of_heap g6.out.r; omega⟩)
          clear h7 hb hD g6
          go_wp2_with fail
          refine (h_minus gP.out.s gP.out.s.set).mono ?_
          rintro e W8 ⟨rfl, h8, hL⟩
          rw [minus_self gP.out.s.set.m64] at h8 hL
          have g8 := Lib.hid h8
          have d8 := Lib.hid (gP.out.c.beside hL gP.out.s.hP gP.out.h1)
          have r8 := Lib.hid (gP.out.r.left hL gP.out.h2)
          clear h8 hL gP
          go_wp2_with fail
          refine (slots_is r8.out hn34 d8.out.set.lt).mono ?_
          rintro e W9 ⟨A, d, rfl, gA⟩
          have g9 := Lib.hid (g8.out.below gA.out.2)
          have d9 := Lib.hid (d8.out.below gA.out.2)
          clear g8 d8 r8
          go_wp2_with fail
          refine (same_is d9.out gA.out.1).mono ?_
          rintro e W10 ⟨rfl, hb⟩
          have g10 := Lib.hid (g9.out.below hb)
          clear g9 d9 gA hb
          go_wp2_with fail
          refine (h_len g10.out).mono ?_
          rintro e _ ⟨rfl, rfl⟩
          rw [sl_zero]
          go_wp2_with fail
          refine (works_any _).mono ?_
          rintro e W11 ⟨rfl, hb⟩
          have gE := Lib.hid (g10.out.below hb).low
          clear hb g10
          go_wp2_with fail
          go_ret
          exact ⟨rfl, gE.out⟩
end Go.Proofs.Ytpdipcgchhibeaa
