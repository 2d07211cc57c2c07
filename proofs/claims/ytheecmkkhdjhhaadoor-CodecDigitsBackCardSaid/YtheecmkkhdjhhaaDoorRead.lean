/- Contracts of the functions that read only: widths, Fits, Uint. Conditions: the table of widths lies as the program's text lays it. -/
import Derived.Test.YtheecmkkhdjhhaaDoorChecked
import Derived.Test.YtheecmkkhdjhhaaDoorMath
import Derived.WalkKit
import Derived.WalkSpells
import Derived.WalkLawsBesides
import Derived.Handy
import Derived.Lib.Hide
import Derived.Outline
import Derived.Laws.BytesArg
import Derived.Laws.CopyOwn
import Derived.Deep.Draws
namespace Go.Proofs.YtheecmkkhdjhhaaDoor
open Go.RowKit

/-- The table of widths, as its cells. -/
def Wid (w : World) : Prop := w.cell? ⟨0, 0, none⟩ = some (.int .i64 1) ∧ w.cell? ⟨0, 1, none⟩ = some (.int .i64 2) ∧ w.cell? ⟨0, 2, none⟩ = some (.int .i64 4) ∧ w.cell? ⟨0, 3, none⟩ = some (.int .i64 8)

theorem lt_of_cell {w : World} {b o : Nat} {v : Value} (h : w.cell? ⟨b, o, none⟩ = some v) : b < w.heap.size := by
  rcases Nat.lt_or_ge b w.heap.size with hlt | hge
  · exact hlt
  · simp [World.cell?, Array.getElem?_eq_none hge] at h

theorem Wid.below {w w' : World} (h : Wid w) (hb : Below w.heap.size w w') : Wid w' :=
  ⟨(hb.cell (lt_of_cell h.1)).trans h.1, (hb.cell (lt_of_cell h.2.1)).trans h.2.1, (hb.cell (lt_of_cell h.2.2.1)).trans h.2.2.1, (hb.cell (lt_of_cell h.2.2.2)).trans h.2.2.2⟩

/-- The bytes of a slice: its n numbers are zs. -/
def BI (w : World) (A : Option Addr) (n : Nat) (zs : List Int) : Prop :=
  zs.length = n ∧ (∀ z ∈ zs, 0 ≤ z ∧ z ≤ 255) ∧ (0 < n → ∃ b o, A = some ⟨b, o, none⟩ ∧ ∀ i, i < n → w.cell? ⟨b, o + i, none⟩ = some (.int .u8 (zs.getD i 0)))

theorem BI.below {w w' : World} {A : Option Addr} {n : Nat} {zs : List Int} (h : BI w A n zs) (hb : Below w.heap.size w w') : BI w' A n zs := by
  refine ⟨h.1, h.2.1, fun hn => ?_⟩
  obtain ⟨b, o, rfl, hc⟩ := h.2.2 hn
  exact ⟨b, o, rfl, fun i hi => (hb.cell (lt_of_cell (hc i hi))).trans (hc i hi)⟩
theorem BI.nil (w : World) (A : Option Addr) : BI w A 0 [] := ⟨rfl, (fun _ h => by cases h), fun h => absurd h (by omega)⟩

theorem ret_bool {a b : Bool} (h : a = b) : Ending.returned (.bool a) = .returned (.bool b) := by rw [h]

theorem idx4 : (∀ w : World, (Instr.index 56 (.agg #[.int .i64 1, .int .i64 2, .int .i64 4, .int .i64 8]) (.int .i64 0)).run Tryd.prog w = .ok (.int .i64 1) w) ∧ (∀ w : World, (Instr.index 56 (.agg #[.int .i64 1, .int .i64 2, .int .i64 4, .int .i64 8]) (.int .i64 1)).run Tryd.prog w = .ok (.int .i64 2) w) ∧ (∀ w : World, (Instr.index 56 (.agg #[.int .i64 1, .int .i64 2, .int .i64 4, .int .i64 8]) (.int .i64 2)).run Tryd.prog w = .ok (.int .i64 4) w) ∧ (∀ w : World, (Instr.index 56 (.agg #[.int .i64 1, .int .i64 2, .int .i64 4, .int .i64 8]) (.int .i64 3)).run Tryd.prog w = .ok (.int .i64 8) w) :=
  ⟨fun _ => by kernel_rfl, fun _ => by kernel_rfl, fun _ => by kernel_rfl, fun _ => by kernel_rfl⟩

set_option maxHeartbeats 400000 in
theorem isWidth_any (n : Int) (w : World) (h : Wid w) : Calls Tryd.prog 31 #[.int .i64 n] w fun e w' => e = .returned (.bool (isW n)) ∧ w = w' := by
  obtain ⟨h0, h1, h2, h3⟩ := h
  obtain ⟨i0, i1, i2, i3⟩ := idx4
  go_enter Tryd.func31, Tryd.ntmps31
  go_wp2
  go_rounds 5
  all_goals (go_ret; refine ⟨?_, rfl⟩)
  all_goals (congr 2; unfold isW; simp_all; try omega)

set_option maxHeartbeats 400000 in
theorem fits_any (n k : Int) (w : World) (h : Wid w) (h0 : 0 ≤ n) (h1 : n < 18446744073709551616) : Calls Tryd.prog 18 #[.int .u64 n, .int .i64 k] w fun e w' => e = .returned (.bool (fitsB n k)) ∧ w = w' := by
  cases hk : isW k with
  | false =>
    go_enter Tryd.func18, Tryd.ntmps18
    go_wp2_with (go_at_call 31; refine (isWidth_any _ _ h).mono ?_; rintro e w' ⟨rfl, rfl⟩)
    go_ret
    exact ⟨ret_bool (by simp [fitsB, hk]), rfl⟩
  | true =>
    have hk1 := hk
    rcases isW_cases hk1 with rfl | rfl | rfl | rfl
    all_goals clear hk1
    all_goals go_enter Tryd.func18, Tryd.ntmps18
    all_goals go_wp2_with (go_at_call 31; refine (isWidth_any _ _ h).mono ?_; rintro e w' ⟨rfl, rfl⟩)
    all_goals go_ret
    all_goals refine ⟨ret_bool ?_, rfl⟩
    all_goals simp only [fitsB, hk, Bool.true_and]
    all_goals rw [Bool.eq_iff_iff]
    all_goals simp
    all_goals omega

/-- What Uint returns: its error, its number. -/
def uintE (n : Nat) (i k : Int) : Int := if isW k then (if i < 0 then 3 else if (n : Int) - k < i then 14 else 0) else 2
def uintV (zs : List Int) (i k : Int) : Int := if uintE zs.length i k = 0 then dec ((zs.drop i.toNat).take k.toNat) else 0

theorem ret_two {v1 v2 u1 u2 : Int} {k l : IntKind} (h : v1 = u1) (g : v2 = u2) : Ending.returned (.tuple #[.int k v1, .int l v2]) = .returned (.tuple #[.int k u1, .int l u2]) := by rw [h, g]

set_option maxHeartbeats 400000 in
theorem uint_go (A : Option Addr) (n c : Nat) (zs : List Int) (at_ k : Nat) (w : World) (h : Wid w) (hb : BI w A n zs) (hn : n ≤ 9223372036854775807) (hk : isW k = true) (h1 : at_ + k ≤ n) :
   Calls Tryd.prog 15 #[.slice A n c, .int .i64 at_, .int .i64 k] w fun e w' => e = .returned (.tuple #[.int .u64 (dec ((zs.drop at_).take k)), .int .i64 0]) ∧ w = w' := by
  have hk1 : 1 ≤ k ∧ k ≤ 8 := by have := isW_bd hk; omega
  obtain ⟨b, o, rfl, hcell⟩ := hb.2.2 (by omega)
  have hzn := Lib.hid hb.1
  have hzb := Lib.hid hb.2.1
  clear hb
  go_enter Tryd.func15, Tryd.ntmps15
  go_wp2_with (go_at_call 31; refine (isWidth_any _ _ h).mono ?_; rintro e w' ⟨rfl, rfl⟩)
  go_loop [8, 22] (fun m i => ∃ j : Nat, j ≤ k ∧ i = .int .i64 j ∧ m = .int .u64 (dec ((zs.drop at_).take j))) (fun _ i => k - (intOf i).toNat)
  case atStart => exact ⟨0, Nat.zero_le _, rfl, rfl⟩
  case round =>
    obtain ⟨j, hj, rfl, rfl⟩ := hrel
    by_cases hlt : j < k
    · have hc := hcell (at_ + j) (by omega)
      go_wp2
      go_round
      case rel =>
        refine ⟨j + 1, by omega, by go_num, ?_⟩
        have hl : j < (zs.drop at_).length := by rw [List.length_drop, hzn.out]; omega
        have e : (zs.drop at_)[j]?.getD 0 = zs[at_ + j]?.getD 0 := by rw [List.getElem?_drop]
        have hz : ∀ z ∈ (zs.drop at_), 0 ≤ z ∧ z ≤ 255 := fun z hz => hzb.out z (List.mem_of_mem_drop hz)
        have hbd := dec_bd ((zs.drop at_).take j) fun z hz' => hz z (List.mem_of_mem_take hz')
        have hlj : ((zs.drop at_).take j).length = j := by rw [List.length_take]; omega
        rw [hlj] at hbd
        rw [take_succ_ints _ j hl, dec_snoc, hlj, e]
        rw [or_step _ _ j (by omega) hbd]
        rw [← e, List.getElem?_eq_getElem hl]
        exact hz _ (List.getElem_mem hl)
      case measure => simp [intOf]; omega
    · have hjk : j = k := by omega
      subst hjk
      go_wp2
      go_ret2
      exact ⟨rfl, rfl⟩

set_option maxHeartbeats 400000 in
theorem uint_any (A : Option Addr) (n c : Nat) (zs : List Int) (i k : Int) (w : World) (h : Wid w) (hb : BI w A n zs) (hn : n ≤ 9223372036854775807) (hk1 : -9223372036854775808 ≤ k) (hk2 : k ≤ 9223372036854775807) :
   Calls Tryd.prog 15 #[.slice A n c, .int .i64 i, .int .i64 k] w fun e w' => e = .returned (.tuple #[.int .u64 (uintV zs i k), .int .i64 (uintE n i k)]) ∧ w = w' := by
  have hzn : zs.length = n := hb.1
  cases hk : isW k with
  | false =>
    have e2 : uintE n i k = 2 := by simp [uintE, hk]
    have e1 : uintV zs i k = 0 := by rw [uintV, hzn, e2]; rfl
    rw [e1, e2]
    clear e1 e2 hzn hb
    go_enter Tryd.func15, Tryd.ntmps15
    go_wp2_with (go_at_call 31; refine (isWidth_any _ _ h).mono ?_; rintro e w' ⟨rfl, rfl⟩)
    go_ret2
    exact ⟨rfl, rfl⟩
  | true =>
    have hk3 := isW_bd hk
    by_cases hi : i < 0
    · have e2 : uintE n i k = 3 := by simp [uintE, hk, hi]
      have e1 : uintV zs i k = 0 := by rw [uintV, hzn, e2]; rfl
      rw [e1, e2]
      clear e1 e2 hzn hb
      go_enter Tryd.func15, Tryd.ntmps15
      go_wp2_with (go_at_call 31; refine (isWidth_any _ _ h).mono ?_; rintro e w' ⟨rfl, rfl⟩)
      go_ret2
      exact ⟨rfl, rfl⟩
    · by_cases hj : (n : Int) - k < i
      · have e2 : uintE n i k = 14 := by simp [uintE, hk, hi, hj]
        have e1 : uintV zs i k = 0 := by rw [uintV, hzn, e2]; rfl
        rw [e1, e2]
        clear e1 e2 hzn hb
        go_enter Tryd.func15, Tryd.ntmps15
        go_wp2_with (go_at_call 31; refine (isWidth_any _ _ h).mono ?_; rintro e w' ⟨rfl, rfl⟩)
        go_ret2
        exact ⟨rfl, rfl⟩
      · have e2 : uintE n i k = 0 := by simp [uintE, hk, hi, hj]
        have e1 : uintV zs i k = dec ((zs.drop i.toNat).take k.toNat) := by rw [uintV, hzn, e2]; rfl
        rw [e1, e2]
        obtain ⟨a, rfl⟩ := Int.eq_ofNat_of_zero_le (show 0 ≤ i by omega)
        obtain ⟨m, rfl⟩ := Int.eq_ofNat_of_zero_le (show 0 ≤ k by omega)
        exact uint_go A n c zs a m w h hb hn hk (by omega)
end Go.Proofs.YtheecmkkhdjhhaaDoor
