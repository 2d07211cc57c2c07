/- Combine; the reference's apply, Shift and Combine. -/
import Derived.Test.YtcaodblmdaifjaaMat
import Derived.Test.YtcaodblmdaifjaaUpd
namespace Go.Proofs.Ytcaodblmdaifjaa
open Go.RowKit

/-- What Combine returns. -/
def combE (n : Int) : Int := if n < 0 then 2 else 0
def combV (a b : Nat) (n : Int) : Nat := if n < 0 then 0 else cshift n.toNat a ^^^ b
theorem combV_lt {a b : Nat} (n : Int) (ha : a < 4294967296) (hb : b < 4294967296) : combV a b n < 4294967296 := by
  unfold combV
  split
  · decide
  · exact Nat.xor_lt_two_pow (n := 32) (cshift_lt _ ha) hb

set_option maxHeartbeats 400000 in
theorem combine_any (a b : Nat) (n : Int) (ha : a < 4294967296) (hb : b < 4294967296) (hn : -9223372036854775808 ≤ n ∧ n ≤ 9223372036854775807) (w : World) :
    Calls Try.prog 19 #[.int .u32 a, .int .u32 b, .int .i64 n] w fun e w' => e = .returned (.tuple #[.int .u32 (combV a b n : Nat), .int .i64 (combE n)]) ∧ Below w.heap.size w w' := by
  by_cases h : n < 0
  · rw [show combV a b n = 0 from if_pos h, show combE n = 2 from if_pos h]
    go_enter Try.func19, Try.ntmps19
    go_wp2
    go_ret2
    exact ⟨rfl, Below.refl _ _⟩
  · rw [show combV a b n = _ from if_neg h, show combE n = 0 from if_neg h]
    obtain ⟨k, rfl⟩ := Int.eq_ofNat_of_zero_le (show 0 ≤ n by omega)
    rw [show ((k : Int)).toNat = k from by simp]
    have hxx := u32_xor_nat (cshift k a) b (cshift_lt k ha) hb
    go_enter Try.func19, Try.ntmps19
    go_wp2_with (go_at_call 23; refine (shift_any a k ha (by omega) _).mono ?_; rintro e wo ⟨rfl, hBo⟩)
    go_ret2
    exact ⟨rfl, hBo⟩

set_option maxRecDepth 100000 in
set_option maxHeartbeats 400000 in
theorem apply_any (m : Nat → Nat) (hm : ∀ i, i < 32 → m i < 4294967296) (g : Nat) (x : Nat) (hx : x < 4294967296) (w : World) (hr : Row32 w g 23 m 32) :
    Calls Try.prog 30 #[.slice (some ⟨g, 0, none⟩) 32 32, .int .u32 x] w fun e w' => e = .returned (.int .u32 (capp m x 32 : Nat)) ∧ w = w' := by
  have gm := Lib.hid hm
  have gr := Lib.hid hr
  clear hm hr
  go_enter Try.func30, Try.ntmps30
  go_wp2_with fail
  go_loop [5, 6] (fun a i => ∃ j : Nat, j ≤ 32 ∧ i = .int .i64 j ∧ a = .int .u32 (capp m x j : Nat)) (fun _ i => 32 - (intOf i).toNat)
  case atStart => exact ⟨0, by omega, rfl, rfl⟩
  case round =>
    obtain ⟨j, hj, rfl, rfl⟩ := hrel
    by_cases hlt : j < 32
    · have hcl := gr.out.cell hlt
      by_cases hb : x / 2 ^ j % 2 = 1
      · have ht := bit_true hx hb
        have hxx := u32_xor_nat (capp m x j) (m j) (capp_lt gm.out x j hj) (gm.out j hlt)
        have gb := Lib.hid hb
        clear hb
        go_wp2_with fail
        exact ⟨⟨j + 1, by omega, rfl, by rw [capp_one gb.out]⟩, by simp [intOf]; omega⟩
      · have ht := bit_false hx hb
        have gb := Lib.hid hb
        clear hb
        go_wp2_with fail
        exact ⟨⟨j + 1, by omega, rfl, by rw [capp_none gb.out]⟩, by simp [intOf]; omega⟩
    · obtain rfl : j = 32 := by omega
      go_wp2_with fail
      go_ret
      exact ⟨rfl, rfl⟩

theorem shm_apply (s : Nat) (g : Nat) (x : Nat) (hx : x < 4294967296) (w : World) (hr : Row32 w g 23 (shm s) 32) :
    Calls Try.prog 30 #[.slice (some ⟨g, 0, none⟩) 32 32, .int .u32 x] w fun e w' => e = .returned (.int .u32 (cshift s x : Nat)) ∧ w = w' := by
  have := apply_any (shm s) (shm_lt s) g x hx w hr
  rw [shm_app s hx] at this
  exact this

theorem info23 : (Try.prog.info? 23).map (fun i => (i.zero, i.size, i.bytes)) = some (some (.int .u32 0), 1, 4) := by kernel_rfl
theorem made32 : madeCells (Value.int .u32 0).cells 32 = arr32 (fun _ => 0) 32 := by kernel_rfl
theorem make_u32s (w : World) : (Instr.makeSlice 50 (.int .i64 32) (.int .i64 32)).run Try.prog w = .ok (.slice (some ⟨w.heap.size, 0, none⟩) 32 32) (w.alloc (.cells (arr32 (fun _ => 0) 32) 23)) := by
  obtain ⟨i, hi, h1, h2, h3⟩ := info_parts info23
  have := run_make (P := Try.prog) w 50 23 i _ Try.underlying50 hi h1 .i64 .i64 32 32 (by omega) (by omega) (by rw [h3]; omega) (by omega)
  rw [h2] at this
  simp at this
  rw [made32] at this
  exact this

/-- Shifting so far: what is left to shift, and the matrix, a slice. -/
def RshRel (w : World) (n x : Nat) (a b m : Value) (wr : World) : Prop :=
  ∃ s y k g : Nat, a = .int .u32 y ∧ b = .int .i64 k ∧ m = .slice (some ⟨g, 0, none⟩) 32 32 ∧ k < 9223372036854775808 ∧ y < 4294967296 ∧ cshift (s * k) y = cshift n x ∧ w.heap.size ≤ g ∧ Row32 wr g 23 (shm s) 32 ∧ Below w.heap.size w wr

set_option maxRecDepth 100000 in
set_option maxHeartbeats 400000 in
theorem rshift_any (x n : Nat) (hx : x < 4294967296) (hn : n < 9223372036854775808) (w : World) : Calls Try.prog 24 #[.int .u32 x, .int .i64 n] w fun e w' => e = .returned (.int .u32 (cshift n x : Nat)) ∧ Below w.heap.size w w' := by
  have hmk := make_u32s
  go_enter Try.func24, Try.ntmps24
  go_wp2_with fail
  go_loopw [6] (fun i wr => ∃ j : Nat, j ≤ 32 ∧ i = .int .i64 j ∧ (∃ f : Nat → Nat, Row32 wr w.heap.size 23 f 32 ∧ ∀ q, q < j → f q = cshift 1 (2 ^ q)) ∧ Below w.heap.size w wr) (fun i _ => 32 - (intOf i).toNat)
  case atStart =>
    exact ⟨0, by omega, rfl, ⟨fun _ => 0, Row32.new _ _ _ _, fun q hq => by omega⟩, (Below.refl _ _).alloc (Nat.le_refl _) _⟩
  case round =>
    obtain ⟨j, hj, rfl, ⟨f, hf, hv⟩, hbl⟩ := hrel
    by_cases hlt : j < 32
    · have hpl := pow_lt32 hlt
      obtain ⟨p, hp⟩ : ∃ p, p = 2 ^ j := ⟨_, rfl⟩
      have hsh : (2 : Int) ^ j % 4294967296 = (p : Int) := by
        have e : (2 : Int) ^ j = ((2 ^ j : Nat) : Int) := by simp
        rw [e, hp]; omega
      rw [← hp] at hpl
      have gp := Lib.hid hp
      have gv := Lib.hid hv
      clear hv hp
      have hc2 := hf.cell hlt
      have hfz := hf.frozen j
      have gf := Lib.hid hf
      clear hf
      go_wp2_with (go_at_call 22; refine (feed_any p 0 hpl (by decide) _).mono ?_; rintro e w' ⟨rfl, rfl⟩)
      refine ⟨⟨j + 1, by omega, rfl, ⟨_, gf.out.store _ _, fun q hq => ?_⟩, hbl.setCell (by simp) _⟩, by simp [intOf]; omega⟩
      show (if q = j then cfeed p 0 else f q) = cshift 1 (2 ^ q)
      by_cases hqj : q = j
      · rw [if_pos hqj, hqj, gp.out, cshift_one]
      · rw [if_neg hqj, gv.out q (by omega)]
    · obtain rfl : j = 32 := by omega
      have ef : arr32 f 32 = arr32 (shm 1) 32 := arr32_congr fun j hj => hv j hj
      have hR : Row32 wr w.heap.size 23 (shm 1) 32 := by
        have := hf.heap; rw [ef] at this; exact this
      have gR := Lib.hid hR
      clear hf hv ef hR
      go_wp2_with fail
      rw [show ((32 : Nat) : Int) = 32 from rfl]
      go_loopw [0, 1, 5] (fun a b m wr => RshRel w n x a b m wr) (fun _ b _ _ => (intOf b).toNat)
      case atStart => exact ⟨1, x, n, w.heap.size, rfl, rfl, rfl, hn, hx, by rw [Nat.one_mul], Nat.le_refl _, gR.out, hbl⟩
      case round =>
        clear gR hbl
        obtain ⟨s, y, k, g, rfl, rfl, rfl, hk, hy, he, hg, hR, hbl⟩ := hrel
        have ge := Lib.hid he
        have gR := Lib.hid hR
        clear he hR
        obtain ⟨wR, hwR⟩ : ∃ W : World, W = wr := ⟨_, rfl⟩
        subst hwR
        by_cases hk0 : 0 < k
        · by_cases ho : k % 2 = 1
          · have ht : ((k : Int) % 2 == 1) = true := by rw [show (k : Int) % 2 = 1 from by omega]; rfl
            have gO := Lib.hid ho
            clear ho
            go_wp2_with (go_at_call 30; refine (shm_apply s g y hy _ gR.out).mono ?_; rintro e w' ⟨rfl, rfl⟩)
            go_loopw [8] (fun i wr => ∃ j : Nat, j ≤ 32 ∧ i = .int .i64 j ∧ (∃ f : Nat → Nat, Row32 wr wR.heap.size 23 f 32 ∧ ∀ q, q < j → f q = cshift s (shm s q)) ∧ Below wR.heap.size wR wr) (fun i _ => 32 - (intOf i).toNat)
            case atStart => exact ⟨0, by omega, rfl, ⟨fun _ => 0, Row32.new _ _ _ _, fun q hq => by omega⟩, (Below.refl _ _).alloc (Nat.le_refl _) _⟩
            case round =>
              obtain ⟨j, hj, rfl, ⟨f, hf, hv⟩, hbq⟩ := hrel
              by_cases hlt : j < 32
              · have hml := shm_lt s j hlt
                have gRq := Lib.hid (gR.out.below hbq gR.out.lt)
                have hc1 := gRq.out.cell hlt
                obtain ⟨p, hp⟩ : ∃ p, p = shm s j := ⟨_, rfl⟩
                rw [← hp] at hml hc1
                have gp := Lib.hid hp
                have gv := Lib.hid hv
                clear hv hp
                have hc2 := hf.cell hlt
                have hfz := hf.frozen j
                have gf := Lib.hid hf
                clear hf
                go_wp2_with (go_at_call 30; refine (shm_apply s g p hml _ gRq.out).mono ?_; rintro e w' ⟨rfl, rfl⟩)
                refine ⟨⟨j + 1, by omega, rfl, ⟨_, gf.out.store _ _, fun q hq => ?_⟩, hbq.setCell (by simp) _⟩, by simp [intOf]; omega⟩
                show (if q = j then cshift s p else f q) = cshift s (shm s q)
                by_cases hqj : q = j
                · rw [if_pos hqj, hqj, gp.out]
                · rw [if_neg hqj, gv.out q (by omega)]
              · obtain rfl : j = 32 := by omega
                have ef : arr32 f 32 = arr32 (shm (2 * s)) 32 := arr32_congr fun j hj => by
                  rw [hv j hj, show 2 * s = s + s from by omega]
                  exact (cshift_add s s (2 ^ j)).symm
                have hR2 : Row32 wr wR.heap.size 23 (shm (2 * s)) 32 := by
                  have := hf.heap; rw [ef] at this; exact this
                have gR2 := Lib.hid hR2
                clear hf hv ef hR2
                go_wp2_with fail
                go_roundw
                case rel =>
                  refine ⟨2 * s, cshift s y, k / 2, wR.heap.size, rfl, by simp, rfl, by omega, cshift_lt s hy, ?_, hbl.size, gR2.out, bchain hbl hbq⟩
                  rw [← ge.out]; exact shift_odd s k y gO.out
                case measure => simp [intOf]; omega
          · have ht : ((k : Int) % 2 == 1) = false := by rw [show (k : Int) % 2 = 0 from by omega]; rfl
            have gO := Lib.hid ho
            clear ho
            go_wp2_with fail
            go_loopw [8] (fun i wr => ∃ j : Nat, j ≤ 32 ∧ i = .int .i64 j ∧ (∃ f : Nat → Nat, Row32 wr wR.heap.size 23 f 32 ∧ ∀ q, q < j → f q = cshift s (shm s q)) ∧ Below wR.heap.size wR wr) (fun i _ => 32 - (intOf i).toNat)
            case atStart => exact ⟨0, by omega, rfl, ⟨fun _ => 0, Row32.new _ _ _ _, fun q hq => by omega⟩, (Below.refl _ _).alloc (Nat.le_refl _) _⟩
            case round =>
              obtain ⟨j, hj, rfl, ⟨f, hf, hv⟩, hbq⟩ := hrel
              by_cases hlt : j < 32
              · have hml := shm_lt s j hlt
                have gRq := Lib.hid (gR.out.below hbq gR.out.lt)
                have hc1 := gRq.out.cell hlt
                obtain ⟨p, hp⟩ : ∃ p, p = shm s j := ⟨_, rfl⟩
                rw [← hp] at hml hc1
                have gp := Lib.hid hp
                have gv := Lib.hid hv
                clear hv hp
                have hc2 := hf.cell hlt
                have hfz := hf.frozen j
                have gf := Lib.hid hf
                clear hf
                go_wp2_with (go_at_call 30; refine (shm_apply s g p hml _ gRq.out).mono ?_; rintro e w' ⟨rfl, rfl⟩)
                refine ⟨⟨j + 1, by omega, rfl, ⟨_, gf.out.store _ _, fun q hq => ?_⟩, hbq.setCell (by simp) _⟩, by simp [intOf]; omega⟩
                show (if q = j then cshift s p else f q) = cshift s (shm s q)
                by_cases hqj : q = j
                · rw [if_pos hqj, hqj, gp.out]
                · rw [if_neg hqj, gv.out q (by omega)]
              · obtain rfl : j = 32 := by omega
                have ef : arr32 f 32 = arr32 (shm (2 * s)) 32 := arr32_congr fun j hj => by
                  rw [hv j hj, show 2 * s = s + s from by omega]
                  exact (cshift_add s s (2 ^ j)).symm
                have hR2 : Row32 wr wR.heap.size 23 (shm (2 * s)) 32 := by
                  have := hf.heap; rw [ef] at this; exact this
                have gR2 := Lib.hid hR2
                clear hf hv ef hR2
                go_wp2_with fail
                go_roundw
                case rel =>
                  refine ⟨2 * s, y, k / 2, wR.heap.size, rfl, by simp, rfl, by omega, hy, ?_, hbl.size, gR2.out, bchain hbl hbq⟩
                  rw [← ge.out]; exact shift_even s k y gO.out
                case measure => simp [intOf]; omega
        · obtain rfl : k = 0 := by omega
          have e : cshift n x = y := by rw [← ge.out, Nat.mul_zero]; rfl
          have gE := Lib.hid e
          clear e
          go_wp2_with fail
          go_ret
          exact ⟨by rw [gE.out]; rfl, hbl⟩

set_option maxHeartbeats 400000 in
theorem rcombine_any (a b : Nat) (n : Int) (ha : a < 4294967296) (hb : b < 4294967296) (hn : -9223372036854775808 ≤ n ∧ n ≤ 9223372036854775807) (w : World) :
    Calls Try.prog 20 #[.int .u32 a, .int .u32 b, .int .i64 n] w fun e w' => e = .returned (.tuple #[.int .u32 (combV a b n : Nat), .int .i64 (combE n)]) ∧ Below w.heap.size w w' := by
  by_cases h : n < 0
  · rw [show combV a b n = 0 from if_pos h, show combE n = 2 from if_pos h]
    go_enter Try.func20, Try.ntmps20
    go_wp2
    go_ret2
    exact ⟨rfl, Below.refl _ _⟩
  · rw [show combV a b n = _ from if_neg h, show combE n = 0 from if_neg h]
    obtain ⟨k, rfl⟩ := Int.eq_ofNat_of_zero_le (show 0 ≤ n by omega)
    rw [show ((k : Int)).toNat = k from by simp]
    have hxx := u32_xor_nat (cshift k a) b (cshift_lt k ha) hb
    go_enter Try.func20, Try.ntmps20
    go_wp2_with (go_at_call 24; refine (rshift_any a k ha (by omega) _).mono ?_; rintro e wo ⟨rfl, hBo⟩)
    go_ret2
    exact ⟨rfl, hBo⟩
end Go.Proofs.Ytcaodblmdaifjaa
