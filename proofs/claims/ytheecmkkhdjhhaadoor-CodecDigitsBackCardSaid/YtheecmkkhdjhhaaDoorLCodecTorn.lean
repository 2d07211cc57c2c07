/- The walk of CodecTorn. -/
import Derived.Test.YtheecmkkhdjhhaaDoorFrame
import Derived.Test.YtheecmkkhdjhhaaDoorWorks
namespace Go.Proofs.YtheecmkkhdjhhaaDoor
open Go.RowKit Go.PlainAid

/-- Block g holds the four widths. -/
def Four (w : World) (g : Nat) : Prop := w.heap[g]? = some (.cells #[.int .i64 1, .int .i64 2, .int .i64 4, .int .i64 8] 3 (0, 0))
theorem Four.cell {w : World} {g : Nat} (h : Four w g) : w.cell? ⟨g, 0, none⟩ = some (.int .i64 1) ∧ w.cell? ⟨g, 1, none⟩ = some (.int .i64 2) ∧ w.cell? ⟨g, 2, none⟩ = some (.int .i64 4) ∧ w.cell? ⟨g, 3, none⟩ = some (.int .i64 8) :=
  ⟨cell_of_row w g 0 _ 3 (0, 0) h, cell_of_row w g 1 _ 3 (0, 0) h, cell_of_row w g 2 _ 3 (0, 0) h, cell_of_row w g 3 _ 3 (0, 0) h⟩
theorem Four.lt {w : World} {g : Nat} (h : Four w g) : g < w.heap.size := lt_of_cell h.cell.1
theorem Four.below {w w' : World} {g : Nat} (h : Four w g) (hb : Below w.heap.size w w') : Four w' g := (hb.block g h.lt).trans h

theorem widths_any (w : World) : Calls Tryd.prog 29 #[] w fun e w' => ∃ g, e = .returned (.slice (some ⟨g, 0, none⟩) 4 4) ∧ Four w' g ∧ Below w.heap.size w w' := by
  go_enter Tryd.func29, Tryd.ntmps29
  go_wp2
  go_ret
  exact ⟨_, rfl, heap_alloc_new w _, (Below.refl _ _).alloc (Nat.le_refl _) _⟩

theorem BI.take {w : World} {A : Option Addr} {n : Nat} {zs : List Int} (h : BI w A n zs) (m : Nat) (hm : m ≤ n) : BI w A m (zs.take m) := by
  refine ⟨by rw [List.length_take, h.1]; omega, fun z hz => h.2.1 z (List.mem_of_mem_take hz), fun hp => ?_⟩
  obtain ⟨b, o, rfl, hc⟩ := h.2.2 (by omega)
  refine ⟨b, o, rfl, fun i hi => ?_⟩
  rw [hc i (by omega)]
  simp [hi]

theorem uint_torn (A : Option Addr) (n c : Nat) (zs : List Int) (i k : Int) (w : World) (h : Wid w) (hb : BI w A n zs) (hn : n ≤ 9223372036854775807) (hk : isW k = true) (hi : 0 ≤ i) (ht : (n : Int) - k < i) :
   Calls Tryd.prog 15 #[.slice A n c, .int .i64 i, .int .i64 k] w fun e w' => e = .returned (.tuple #[.int .u64 0, .int .i64 14]) ∧ w = w' := by
  have hk3 := isW_bd hk
  have := uint_any A n c zs i k w h hb hn (by omega) (by omega)
  have e2 : uintE n i k = 14 := by simp [uintE, hk, ht]; omega
  have e1 : uintV zs i k = 0 := by rw [uintV, hb.1, e2]; rfl
  rw [e1, e2] at this
  exact this
theorem uint_fit (A : Option Addr) (n c : Nat) (zs : List Int) (i k : Int) (w : World) (h : Wid w) (hb : BI w A n zs) (hn : n ≤ 9223372036854775807) (hk : isW k = true) (hi : 0 ≤ i) (ht : ¬ (n : Int) - k < i) :
   Calls Tryd.prog 15 #[.slice A n c, .int .i64 i, .int .i64 k] w fun e w' => e = .returned (.tuple #[.int .u64 (dec ((zs.drop i.toNat).take k.toNat)), .int .i64 0]) ∧ w = w' := by
  have hk3 := isW_bd hk
  have := uint_any A n c zs i k w h hb hn (by omega) (by omega)
  have e2 : uintE n i k = 0 := by simp [uintE, hk, ht]; omega
  have e1 : uintV zs i k = dec ((zs.drop i.toNat).take k.toNat) := by rw [uintV, hb.1, e2]; rfl
  rw [e1, e2] at this
  exact this
theorem take_drop_same (zs : List Int) (i k : Nat) : ((zs.take (i + k)).drop i).take k = (zs.drop i).take k := by
  rw [List.drop_take, show i + k - i = k from by omega, List.take_take, Nat.min_self]

set_option maxRecDepth 100000 in
set_option maxHeartbeats 4000000 in
theorem torn_core (A : Option Addr) (m c : Nat) (zs : List Int) (a1 : Int) (w : World) (wid : Wid w) (hb : BI w A m zs) (hm : m ≤ 300) (h0 : 0 ≤ a1) (h1 : a1 ≤ 65535) (len0 : Nat) (hl : m ≤ len0) (hlc : len0 ≤ c) (hc : c ≤ 9223372036854775807) (hmin : (len0 ≤ 300 ∧ m = len0) ∨ (300 < len0 ∧ m = 300)) :
    Calls Tryd.prog 8 #[.slice A len0 c, .int .u16 a1] w fun e w' => e = .returned (.bool true) ∧ Below w.heap.size w w' := by
  rcases hmin with ⟨hs, rfl⟩ | ⟨hs, rfl⟩
  · go_enter Tryd.func8, Tryd.ntmps8
    go_wp2_with (go_at_call 29; refine (widths_any _).mono ?_; rintro e w1 ⟨g, rfl, hf, hB1⟩)
    have wid1 := wid.below hB1
    have hb1 := hb.below hB1
    obtain ⟨f0, f1, f2, f3⟩ := hf.cell
    obtain ⟨i, hi⟩ : ∃ i : Nat, (i : Int) = a1 % 320 := ⟨(a1 % 320).toNat, by omega⟩
    rw [← hi]
    have i1 : i ≤ 320 := by omega
    clear hi
    go_loop [22] (fun i => ∃ j : Nat, j ≤ 4 ∧ i = .int .i64 j) (fun i => 4 - (intOf i).toNat)
    case atStart => exact ⟨0, by omega, rfl⟩
    case round =>
      obtain ⟨j, hj, rfl⟩ := hrel
      rcases (show j = 0 ∨ j = 1 ∨ j = 2 ∨ j = 3 ∨ j = 4 from by omega) with rfl | rfl | rfl | rfl | rfl
      · by_cases ht : m < i + 1
        · go_wp2_with fail
          refine (uint_torn _ _ _ _ _ _ _ wid1 hb1 (by omega) (by decide) (by omega) (by omega)).mono ?_
          rintro e _ ⟨rfl, rfl⟩
          go_wp2_with fail
          go_round
          case rel => exact ⟨1, by omega, rfl⟩
          case measure => simp [intOf]
        · have hb2 := hb1.take (i + 1) (by omega)
          have e2 := Lib.hid (take_drop_same zs i 1)
          go_wp2_with fail
          refine (uint_fit _ _ _ _ _ _ _ wid1 hb1 (by omega) (by decide) (by omega) (by omega)).mono ?_
          rintro e _ ⟨rfl, rfl⟩
          rw [Int.toNat_natCast, show ((1 : Int)).toNat = 1 from rfl]
          go_wp2_with fail
          refine (uint_fit _ _ _ _ _ _ _ wid1 hb2 (by omega) (by decide) (by omega) (by omega)).mono ?_
          rintro e _ ⟨rfl, rfl⟩
          rw [Int.toNat_natCast, show ((1 : Int)).toNat = 1 from rfl, e2.out]
          go_wp2_with fail
          go_round
          case rel => exact ⟨1, by omega, rfl⟩
          case measure => simp [intOf]
      · by_cases ht : m < i + 2
        · go_wp2_with fail
          refine (uint_torn _ _ _ _ _ _ _ wid1 hb1 (by omega) (by decide) (by omega) (by omega)).mono ?_
          rintro e _ ⟨rfl, rfl⟩
          go_wp2_with fail
          go_round
          case rel => exact ⟨2, by omega, rfl⟩
          case measure => simp [intOf]
        · have hb2 := hb1.take (i + 2) (by omega)
          have e2 := Lib.hid (take_drop_same zs i 2)
          go_wp2_with fail
          refine (uint_fit _ _ _ _ _ _ _ wid1 hb1 (by omega) (by decide) (by omega) (by omega)).mono ?_
          rintro e _ ⟨rfl, rfl⟩
          rw [Int.toNat_natCast, show ((2 : Int)).toNat = 2 from rfl]
          go_wp2_with fail
          refine (uint_fit _ _ _ _ _ _ _ wid1 hb2 (by omega) (by decide) (by omega) (by omega)).mono ?_
          rintro e _ ⟨rfl, rfl⟩
          rw [Int.toNat_natCast, show ((2 : Int)).toNat = 2 from rfl, e2.out]
          go_wp2_with fail
          go_round
          case rel => exact ⟨2, by omega, rfl⟩
          case measure => simp [intOf]
      · by_cases ht : m < i + 4
        · go_wp2_with fail
          refine (uint_torn _ _ _ _ _ _ _ wid1 hb1 (by omega) (by decide) (by omega) (by omega)).mono ?_
          rintro e _ ⟨rfl, rfl⟩
          go_wp2_with fail
          go_round
          case rel => exact ⟨3, by omega, rfl⟩
          case measure => simp [intOf]
        · have hb2 := hb1.take (i + 4) (by omega)
          have e2 := Lib.hid (take_drop_same zs i 4)
          go_wp2_with fail
          refine (uint_fit _ _ _ _ _ _ _ wid1 hb1 (by omega) (by decide) (by omega) (by omega)).mono ?_
          rintro e _ ⟨rfl, rfl⟩
          rw [Int.toNat_natCast, show ((4 : Int)).toNat = 4 from rfl]
          go_wp2_with fail
          refine (uint_fit _ _ _ _ _ _ _ wid1 hb2 (by omega) (by decide) (by omega) (by omega)).mono ?_
          rintro e _ ⟨rfl, rfl⟩
          rw [Int.toNat_natCast, show ((4 : Int)).toNat = 4 from rfl, e2.out]
          go_wp2_with fail
          go_round
          case rel => exact ⟨3, by omega, rfl⟩
          case measure => simp [intOf]
      · by_cases ht : m < i + 8
        · go_wp2_with fail
          refine (uint_torn _ _ _ _ _ _ _ wid1 hb1 (by omega) (by decide) (by omega) (by omega)).mono ?_
          rintro e _ ⟨rfl, rfl⟩
          go_wp2_with fail
          go_round
          case rel => exact ⟨4, by omega, rfl⟩
          case measure => simp [intOf]
        · have hb2 := hb1.take (i + 8) (by omega)
          have e2 := Lib.hid (take_drop_same zs i 8)
          go_wp2_with fail
          refine (uint_fit _ _ _ _ _ _ _ wid1 hb1 (by omega) (by decide) (by omega) (by omega)).mono ?_
          rintro e _ ⟨rfl, rfl⟩
          rw [Int.toNat_natCast, show ((8 : Int)).toNat = 8 from rfl]
          go_wp2_with fail
          refine (uint_fit _ _ _ _ _ _ _ wid1 hb2 (by omega) (by decide) (by omega) (by omega)).mono ?_
          rintro e _ ⟨rfl, rfl⟩
          rw [Int.toNat_natCast, show ((8 : Int)).toNat = 8 from rfl, e2.out]
          go_wp2_with fail
          go_round
          case rel => exact ⟨4, by omega, rfl⟩
          case measure => simp [intOf]
      · go_wp2_with fail
        refine (works_any _ wid1).mono ?_
        rintro e wF ⟨rfl, hBF⟩
        go_wp2_with fail
        go_ret
        exact ⟨rfl, bchain hB1 hBF⟩
  · go_enter Tryd.func8, Tryd.ntmps8
    go_wp2_with (go_at_call 29; refine (widths_any _).mono ?_; rintro e w1 ⟨g, rfl, hf, hB1⟩)
    have wid1 := wid.below hB1
    have hb1 := hb.below hB1
    obtain ⟨f0, f1, f2, f3⟩ := hf.cell
    obtain ⟨i, hi⟩ : ∃ i : Nat, (i : Int) = a1 % 320 := ⟨(a1 % 320).toNat, by omega⟩
    rw [← hi]
    have i1 : i ≤ 320 := by omega
    clear hi
    go_loop [22] (fun i => ∃ j : Nat, j ≤ 4 ∧ i = .int .i64 j) (fun i => 4 - (intOf i).toNat)
    case atStart => exact ⟨0, by omega, rfl⟩
    case round =>
      obtain ⟨j, hj, rfl⟩ := hrel
      rcases (show j = 0 ∨ j = 1 ∨ j = 2 ∨ j = 3 ∨ j = 4 from by omega) with rfl | rfl | rfl | rfl | rfl
      · by_cases ht : 300 < i + 1
        · go_wp2_with fail
          refine (uint_torn _ _ _ _ _ _ _ wid1 hb1 (by omega) (by decide) (by omega) (by omega)).mono ?_
          rintro e _ ⟨rfl, rfl⟩
          go_wp2_with fail
          go_round
          case rel => exact ⟨1, by omega, rfl⟩
          case measure => simp [intOf]
        · have hb2 := hb1.take (i + 1) (by omega)
          have e2 := Lib.hid (take_drop_same zs i 1)
          go_wp2_with fail
          refine (uint_fit _ _ _ _ _ _ _ wid1 hb1 (by omega) (by decide) (by omega) (by omega)).mono ?_
          rintro e _ ⟨rfl, rfl⟩
          rw [Int.toNat_natCast, show ((1 : Int)).toNat = 1 from rfl]
          go_wp2_with fail
          refine (uint_fit _ _ _ _ _ _ _ wid1 hb2 (by omega) (by decide) (by omega) (by omega)).mono ?_
          rintro e _ ⟨rfl, rfl⟩
          rw [Int.toNat_natCast, show ((1 : Int)).toNat = 1 from rfl, e2.out]
          go_wp2_with fail
          go_round
          case rel => exact ⟨1, by omega, rfl⟩
          case measure => simp [intOf]
      · by_cases ht : 300 < i + 2
        · go_wp2_with fail
          refine (uint_torn _ _ _ _ _ _ _ wid1 hb1 (by omega) (by decide) (by omega) (by omega)).mono ?_
          rintro e _ ⟨rfl, rfl⟩
          go_wp2_with fail
          go_round
          case rel => exact ⟨2, by omega, rfl⟩
          case measure => simp [intOf]
        · have hb2 := hb1.take (i + 2) (by omega)
          have e2 := Lib.hid (take_drop_same zs i 2)
          go_wp2_with fail
          refine (uint_fit _ _ _ _ _ _ _ wid1 hb1 (by omega) (by decide) (by omega) (by omega)).mono ?_
          rintro e _ ⟨rfl, rfl⟩
          rw [Int.toNat_natCast, show ((2 : Int)).toNat = 2 from rfl]
          go_wp2_with fail
          refine (uint_fit _ _ _ _ _ _ _ wid1 hb2 (by omega) (by decide) (by omega) (by omega)).mono ?_
          rintro e _ ⟨rfl, rfl⟩
          rw [Int.toNat_natCast, show ((2 : Int)).toNat = 2 from rfl, e2.out]
          go_wp2_with fail
          go_round
          case rel => exact ⟨2, by omega, rfl⟩
          case measure => simp [intOf]
      · by_cases ht : 300 < i + 4
        · go_wp2_with fail
          refine (uint_torn _ _ _ _ _ _ _ wid1 hb1 (by omega) (by decide) (by omega) (by omega)).mono ?_
          rintro e _ ⟨rfl, rfl⟩
          go_wp2_with fail
          go_round
          case rel => exact ⟨3, by omega, rfl⟩
          case measure => simp [intOf]
        · have hb2 := hb1.take (i + 4) (by omega)
          have e2 := Lib.hid (take_drop_same zs i 4)
          go_wp2_with fail
          refine (uint_fit _ _ _ _ _ _ _ wid1 hb1 (by omega) (by decide) (by omega) (by omega)).mono ?_
          rintro e _ ⟨rfl, rfl⟩
          rw [Int.toNat_natCast, show ((4 : Int)).toNat = 4 from rfl]
          go_wp2_with fail
          refine (uint_fit _ _ _ _ _ _ _ wid1 hb2 (by omega) (by decide) (by omega) (by omega)).mono ?_
          rintro e _ ⟨rfl, rfl⟩
          rw [Int.toNat_natCast, show ((4 : Int)).toNat = 4 from rfl, e2.out]
          go_wp2_with fail
          go_round
          case rel => exact ⟨3, by omega, rfl⟩
          case measure => simp [intOf]
      · by_cases ht : 300 < i + 8
        · go_wp2_with fail
          refine (uint_torn _ _ _ _ _ _ _ wid1 hb1 (by omega) (by decide) (by omega) (by omega)).mono ?_
          rintro e _ ⟨rfl, rfl⟩
          go_wp2_with fail
          go_round
          case rel => exact ⟨4, by omega, rfl⟩
          case measure => simp [intOf]
        · have hb2 := hb1.take (i + 8) (by omega)
          have e2 := Lib.hid (take_drop_same zs i 8)
          go_wp2_with fail
          refine (uint_fit _ _ _ _ _ _ _ wid1 hb1 (by omega) (by decide) (by omega) (by omega)).mono ?_
          rintro e _ ⟨rfl, rfl⟩
          rw [Int.toNat_natCast, show ((8 : Int)).toNat = 8 from rfl]
          go_wp2_with fail
          refine (uint_fit _ _ _ _ _ _ _ wid1 hb2 (by omega) (by decide) (by omega) (by omega)).mono ?_
          rintro e _ ⟨rfl, rfl⟩
          rw [Int.toNat_natCast, show ((8 : Int)).toNat = 8 from rfl, e2.out]
          go_wp2_with fail
          go_round
          case rel => exact ⟨4, by omega, rfl⟩
          case measure => simp [intOf]
      · go_wp2_with fail
        refine (works_any _ wid1).mono ?_
        rintro e wF ⟨rfl, hBF⟩
        go_wp2_with fail
        go_ret
        exact ⟨rfl, bchain hB1 hBF⟩

theorem codecTorn_walk (a0 : Option Addr) (len0 cap0 : Nat) (z0 : List Int) (a1 : Int) (w : World) (wid : Wid w) (w0 : IsRow .u8 w a0 len0 cap0 z0) (w1 : (Lit.int .u16 a1).wf = true) :
    Calls Tryd.prog 8 #[.slice a0 len0 cap0, .int .u16 a1] w fun e w' => e = .returned (.bool true) ∧ Below w.heap.size w w' := by
  have b1 := bounds_u16 w1
  have hl := w0.len
  by_cases h : len0 ≤ 300
  · exact torn_core a0 len0 cap0 _ a1 w wid w0.bi h b1.1 b1.2 len0 (Nat.le_refl _) hl.1 hl.2 (.inl ⟨h, rfl⟩)
  · exact torn_core a0 300 cap0 _ a1 w wid (w0.bi.take 300 (by omega)) (Nat.le_refl _) b1.1 b1.2 len0 (by omega) hl.1 hl.2 (.inr ⟨by omega, rfl⟩)
end Go.Proofs.YtheecmkkhdjhhaaDoor
