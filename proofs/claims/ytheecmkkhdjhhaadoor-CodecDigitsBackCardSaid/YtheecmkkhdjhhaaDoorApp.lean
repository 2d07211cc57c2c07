/- Contracts of Append: what it makes is new memory. Conditions: the table of widths lies as the program's text lays it. -/
import Derived.Test.YtheecmkkhdjhhaaDoorRead
import Derived.WalkKit
import Derived.WalkSpells
import Derived.WalkLawsBesides
import Derived.Handy
import Derived.Lib.Hide
import Derived.Outline
import Derived.Laws.BytesArg
import Derived.Laws.CopyOwn
import Derived.Deep.Draws
namespace Go.Proofs.YtheecmkkhdjhhaaDoor
open Go.RowKit

/-- Block g is a row of bytes, zs. -/
def Row (w : World) (g : Nat) (zs : List Int) : Prop := w.heap[g]? = some (.cells (zs.map (Value.int .u8)).toArray 5 (0, 0))
theorem Row.heap {w : World} {g : Nat} {zs : List Int} (h : Row w g zs) : w.heap[g]? = some (.cells (zs.map (Value.int .u8)).toArray 5 (0, 0)) := h
theorem Row.lt {w : World} {g : Nat} {zs : List Int} (h : Row w g zs) : g < w.heap.size := by
  rcases Nat.lt_or_ge g w.heap.size with hlt | hge
  · exact hlt
  · unfold Row at h; rw [Array.getElem?_eq_none hge] at h; cases h
theorem Row.cell {w : World} {g : Nat} {zs : List Int} (h : Row w g zs) {i : Nat} (hi : i < zs.length) : w.cell? ⟨g, i, none⟩ = some (.int .u8 (zs.getD i 0)) := by
  rw [cell_of_row w g i _ 5 (0, 0) h]
  simp [List.getElem?_eq_getElem hi]
theorem Row.frozen {w : World} {g : Nat} {zs : List Int} (h : Row w g zs) (i : Nat) : w.frozen? ⟨g, i, none⟩ = false := frozen_of_row w g i _ 5 h
theorem Row.store {w : World} {g : Nat} {zs : List Int} (h : Row w g zs) (i : Nat) (z : Int) : Row (w.setCell ⟨g, i, none⟩ (.int .u8 z)) g (zs.set i z) := by
  have := heap_setCell_same w g i _ 5 (.int .u8 z) h
  unfold Row
  rw [this]
  simp [List.map_set]
theorem Row.bi {w : World} {g n : Nat} {zs : List Int} (h : Row w g zs) (hn : zs.length = n) (hb : ∀ z ∈ zs, 0 ≤ z ∧ z ≤ 255) : BI w (some ⟨g, 0, none⟩) n zs :=
  ⟨hn, hb, fun _ => ⟨g, 0, rfl, fun i hi => by rw [Nat.zero_add]; exact h.cell (by omega)⟩⟩
theorem Row.below {w w' : World} {g : Nat} {zs : List Int} (h : Row w g zs) (hb : Below w.heap.size w w') : Row w' g zs := (hb.block g h.lt).trans h

theorem info5 : (Tryd.prog.info? 5).map (fun i => (i.zero, i.size, i.bytes)) = some (some (.int .u8 0), 1, 1) := by kernel_rfl
theorem size5 : (Tryd.prog.info? 5).map (·.size) = some 1 := by kernel_rfl
def byteZeros (m : Nat) : Array Value := madeCells #[.int .u8 0] m
theorem row_zeros (w : World) (m : Nat) : Row (w.alloc (.cells (byteZeros m) 5)) w.heap.size (List.replicate m 0) := by
  unfold Row byteZeros
  rw [heap_alloc_new]
  congr 2
  apply Array.toList_inj.1
  rw [toList_madeCells_one]; simp
theorem make_bytes (m c : Nat) (hm : m ≤ c) (h : c ≤ 281474976710656) (w : World) : (Instr.makeSlice 22 (.int .i64 (m : Int)) (.int .i64 (c : Int))).run Tryd.prog w = .ok (.slice (some ⟨w.heap.size, 0, none⟩) m c) (w.alloc (.cells (byteZeros c) 5)) := by
  obtain ⟨i, hi, h1, h2, h3⟩ := info_parts info5
  have := run_make (P := Tryd.prog) w 22 5 i _ Tryd.underlying22 hi h1 .i64 .i64 m c (by omega) (by omega) (by rw [h3]; omega) (by omega)
  rw [this, h2]
  simp [byteZeros]
  rfl

/-- What Append returns. -/
def appE (n k : Int) : Int := if isW k then (if n < 256 ^ k.toNat then 0 else 16) else 2
def appL (zs : List Int) (n k : Int) : List Int := if appE n k = 0 then zs ++ enc n k.toNat else []
def Appended (zs : List Int) (x k : Int) (w : World) (e : Ending) (w' : World) : Prop :=
  ∃ (A : Option Addr) (m : Nat), e = .returned (.tuple #[.slice A m m, .int .i64 (appE x k)]) ∧ BI w' A m (appL zs x k) ∧ Below w.heap.size w w'

theorem set_mid (a : List Int) (n x : Int) (j k : Nat) (h : j < k) : (a ++ (enc x j ++ List.replicate (k - j) n)).set (a.length + j) (x / 256 ^ j % 256) = a ++ (enc x (j + 1) ++ List.replicate (k - (j + 1)) n) := by
  rw [List.set_append_right _ _ (by omega), Nat.add_sub_cancel_left]
  rw [List.set_append_right _ _ (by rw [length_enc]; omega), length_enc, Nat.sub_self]
  obtain ⟨m, rfl⟩ : ∃ m, k = j + 1 + m := ⟨k - (j + 1), by omega⟩
  rw [show j + 1 + m - j = m + 1 from by omega, show j + 1 + m - (j + 1) = m from by omega, List.replicate_succ, List.set_cons_zero, enc_succ, List.append_assoc]
  rfl

theorem BI.news {w : World} {A : Option Addr} {n : Nat} {zs : List Int} (h : BI w A n zs) (hn : 0 < n) : ∃ ad, A = some ad ∧ ∀ (j : Nat) v, (zs.map (Value.int .u8))[j]? = some v → w.cell? (ad.add j) = some v := by
  obtain ⟨b, o, rfl, hc⟩ := h.2.2 hn
  refine ⟨_, rfl, fun j v hj => ?_⟩
  have hjl : j < zs.length := by
    rcases Nat.lt_or_ge j zs.length with h | h
    · exact h
    · simp [List.getElem?_eq_none h] at hj
  have e : (⟨b, o, none⟩ : Addr).add j = ⟨b, o + j, none⟩ := by unfold Addr.add; split <;> simp_all
  rw [e, hc j (by have := h.1; omega)]
  simp [List.getElem?_eq_getElem hjl] at hj ⊢
  exact hj
theorem bytes_one (zs : List Int) : ∀ v ∈ zs.map (Value.int .u8), v.oneCell' = true := ints_oneCell .u8 zs

theorem splice_zeros (zs : List Int) (n k : Nat) (h : zs.length = n) : splice ((List.replicate (n + k) (0 : Int)).map (Value.int .u8)) 0 (zs.map (Value.int .u8)) = (zs ++ (enc 0 0 ++ List.replicate k 0)).map (Value.int .u8) := by
  subst h
  simp [splice, enc_zero]

set_option maxHeartbeats 1000000 in
theorem append_go (A : Option Addr) (n c : Nat) (zs : List Int) (x : Int) (k : Nat) (w : World) (h : Wid w) (hb : BI w A n zs) (hn : n ≤ 281474976710000) (hk : isW k = true) (hx0 : 0 ≤ x) (hx1 : x < 18446744073709551616) (hf : fitsB x k = true) :
   Calls Tryd.prog 13 #[.slice A n c, .int .u64 x, .int .i64 k] w fun e w' => ∃ g, e = .returned (.tuple #[.slice (some ⟨g, 0, none⟩) (n + k) (n + k), .int .i64 0]) ∧ Row w' g (zs ++ enc x k) ∧ Below w.heap.size w w' := by
  have hk1 : 1 ≤ k ∧ k ≤ 8 := by have := isW_bd hk; omega
  have hzn := Lib.hid hb.1
  have hmk := make_bytes (n + k) (n + k) (Nat.le_refl _) (by omega)
  have er : ((n + k : Nat) : Int) = (n : Int) + k := by omega
  rw [er] at hmk
  clear er
  have hbw : Below w.heap.size w (w.alloc (.cells (byteZeros (n + k)) 5)) := (Below.refl _ _).alloc (Nat.le_refl _) _
  have hrow := row_zeros w (n + k)
  have hb1 := hb.below hbw
  have HR := Lib.hid hrow
  clear hrow hb
  go_enter Tryd.func13, Tryd.ntmps13
  go_wp2_with (first
    | (go_at_call 31; refine (isWidth_any _ _ h).mono ?_; rintro e w' ⟨rfl, rfl⟩)
    | (go_at_call 18; refine (fits_any _ _ _ h hx0 hx1).mono ?_; rintro e w' ⟨rfl, rfl⟩)
    | (with_reducible refine wpList_copy_splice rfl (.tmp 22) (.tmp 23) 22 22 rfl 5 Tryd.underlying22 size5 (some ⟨w.heap.size, 0, none⟩) A (n + k) (n + k) n c rfl rfl w.heap.size 0 ((List.replicate (n + k) (0 : Int)).map (Value.int .u8)) 5 HR.out.heap (zs.map (Value.int .u8)) (by rw [List.length_map, hzn.out]; exact (Nat.min_eq_left (by omega)).symm) (fun hp => ⟨rfl, hb1.news (by rw [List.length_map, hzn.out] at hp; exact hp)⟩) (by simp [hzn.out]) (bytes_one zs) w.heap.size w hbw (Nat.le_refl _) ?_
       intro w2 hr2 hb2))
  have HL := Lib.hid (show Row w2 w.heap.size (zs ++ (enc x 0 ++ List.replicate (k - 0) 0)) from by
    have h2 := hr2.out
    rw [splice_zeros zs n k hzn.out] at h2
    exact h2)
  clear hr2 hbw hb1 HR hmk
  go_loopw [26] (fun i wr => ∃ j : Nat, j ≤ k ∧ i = .int .i64 j ∧ Row wr w.heap.size (zs ++ (enc x j ++ List.replicate (k - j) 0)) ∧ Below w.heap.size w wr) (fun i _ => k - (intOf i).toNat)
  case atStart => exact ⟨0, Nat.zero_le _, rfl, HL.out, hb2⟩
  case round =>
    obtain ⟨j, hj, rfl, hrow, hbl⟩ := hrel
    by_cases hlt : j < k
    · have hlen : n + j < (zs ++ (enc x j ++ List.replicate (k - j) 0)).length := by simp [hzn.out, length_enc]; omega
      obtain ⟨v0, hc0⟩ : ∃ v0, wr.cell? ⟨w.heap.size, n + j, none⟩ = some v0 := ⟨_, hrow.cell hlen⟩
      have hfz := hrow.frozen (n + j)
      clear hlen
      have hrow' := hrow.store (n + j) (x / 256 ^ j % 256)
      go_wp2
      go_roundw
      case rel => exact ⟨j + 1, by omega, by go_num, by rw [pow_two_eight]; have e := set_mid zs 0 x j k hlt; rw [hzn.out] at e; rw [← e]; exact hrow', hbl.setCell (Nat.le_refl _) _⟩
      case measure => simp [intOf]; omega
    · obtain rfl : j = k := by omega
      have hrow2 : Row wr w.heap.size (zs ++ enc x j) := by simpa using hrow
      clear hrow
      go_wp2
      go_ret2
      exact ⟨_, rfl, hrow2, hbl⟩

set_option maxHeartbeats 400000 in
theorem append_any (A : Option Addr) (n c : Nat) (zs : List Int) (x k : Int) (w : World) (h : Wid w) (hb : BI w A n zs) (hn : n ≤ 281474976710000) (hx0 : 0 ≤ x) (hx1 : x < 18446744073709551616) :
   Calls Tryd.prog 13 #[.slice A n c, .int .u64 x, .int .i64 k] w (Appended zs x k w) := by
  cases hk : isW k with
  | false =>
    have e2 : appE x k = 2 := by simp [appE, hk]
    have e1 : appL zs x k = [] := by rw [appL, e2]; rfl
    have fin : ∀ (e : Ending) (w' : World), (e = .returned (.tuple #[.slice none 0 0, .int .i64 2]) ∧ w = w') → Appended zs x k w e w' := by
      rintro e w' ⟨rfl, rfl⟩
      exact ⟨none, 0, by rw [e2], by rw [e1]; exact BI.nil _ _, Below.refl _ _⟩
    refine Calls.mono ?_ fin
    clear e1 e2 fin
    go_enter Tryd.func13, Tryd.ntmps13
    go_wp2_with (go_at_call 31; refine (isWidth_any _ _ h).mono ?_; rintro e w' ⟨rfl, rfl⟩)
    go_ret2
    exact ⟨rfl, rfl⟩
  | true =>
    cases hf : fitsB x k with
    | false =>
      have e2 : appE x k = 16 := by simp [fitsB, hk] at hf; simp [appE, hk]; omega
      have e1 : appL zs x k = [] := by rw [appL, e2]; rfl
      have fin : ∀ (e : Ending) (w' : World), (e = .returned (.tuple #[.slice none 0 0, .int .i64 16]) ∧ w = w') → Appended zs x k w e w' := by
        rintro e w' ⟨rfl, rfl⟩
        exact ⟨none, 0, by rw [e2], by rw [e1]; exact BI.nil _ _, Below.refl _ _⟩
      refine Calls.mono ?_ fin
      clear e1 e2 fin
      go_enter Tryd.func13, Tryd.ntmps13
      go_wp2_with (first | (go_at_call 31; refine (isWidth_any _ _ h).mono ?_; rintro e w' ⟨rfl, rfl⟩) | (go_at_call 18; refine (fits_any _ _ _ h hx0 hx1).mono ?_; rintro e w' ⟨rfl, rfl⟩))
      go_ret2
      exact ⟨rfl, rfl⟩
    | true =>
      have hk1 := isW_bd hk
      obtain ⟨m, rfl⟩ := Int.eq_ofNat_of_zero_le (show 0 ≤ k by omega)
      have e2 : appE x m = 0 := by simp [fitsB, hk] at hf; simp [appE, hk]; omega
      have e1 : appL zs x m = zs ++ enc x m := by rw [appL, e2]; rfl
      refine (append_go A n c zs x m w h hb hn hk hx0 hx1 hf).mono ?_
      rintro e w' ⟨g, rfl, hr, hbl⟩
      exact ⟨some ⟨g, 0, none⟩, n + m, by rw [e2], by rw [e1]; exact hr.bi (by rw [List.length_append, length_enc, hb.1]) (by
        intro z hz
        rcases List.mem_append.1 hz with h | h
        · exact hb.2.1 z h
        · exact enc_bd _ _ z h), hbl⟩
end Go.Proofs.YtheecmkkhdjhhaaDoor
