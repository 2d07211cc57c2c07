/- Contracts of the two functions of one step, and of feeding a byte. -/
import Derived.Test.YtcaodblmdaifjaaChecked
import Derived.Test.YtcaodblmdaifjaaMath
import Derived.WalkKit
import Derived.WalkSpells
import Derived.WalkLawsBesides
import Derived.Handy
import Derived.Lib.Hide
import Derived.Outline
import Derived.Laws.BytesArg
import Derived.Laws.CopyOwn
import Derived.Laws.BitsAllLaws
import Derived.Deep.Draws
import Derived.Deep.WholeRow
namespace Go.Proofs.Ytcaodblmdaifjaa
open Go.RowKit

theorem cstep_odd {x : Nat} (h : x % 2 = 1) : cstep x = x / 2 ^^^ 3988292384 := by unfold cstep; rw [if_pos h]
theorem cstep_even {x : Nat} (h : ¬ x % 2 = 1) : cstep x = x / 2 := by unfold cstep; rw [if_neg h]

theorem and1_u32 {x : Nat} (hx : x < 4294967296) : bits .and .u32 (x : Int) 1 = ((x % 2 : Nat) : Int) := by
  have := u32_and_nat x 1 hx (by decide)
  rw [← nat_mask1 x]; exact this
theorem low_true {x : Nat} (hx : x < 4294967296) (h : x % 2 = 1) : (bits .and .u32 (x : Int) 1 == 1) = true := by rw [and1_u32 hx, h]; rfl
theorem low_false {x : Nat} (hx : x < 4294967296) (h : ¬ x % 2 = 1) : (bits .and .u32 (x : Int) 1 == 1) = false := by
  rw [and1_u32 hx, show x % 2 = 0 from by omega]; rfl
theorem half_xor {x : Nat} (hx : x < 4294967296) : bits .xor .u32 ((x : Int) / 2) 3988292384 = ((x / 2 ^^^ 3988292384 : Nat) : Int) := by
  have := u32_xor_nat (x / 2) 3988292384 (by omega) (by decide)
  exact this

set_option maxHeartbeats 400000 in
theorem step_any (x : Nat) (hx : x < 4294967296) (w : World) : Calls Try.prog 25 #[.int .u32 x] w fun e w' => e = .returned (.int .u32 (cstep x : Nat)) ∧ w = w' := by
  by_cases h : x % 2 = 1
  · rw [cstep_odd h]
    have ht := low_true hx h
    have hxx := half_xor hx
    go_enter Try.func25, Try.ntmps25
    go_wp2
    go_ret
    exact ⟨rfl, rfl⟩
  · rw [cstep_even h]
    have ht := low_false hx h
    go_enter Try.func25, Try.ntmps25
    go_wp2
    go_ret
    exact ⟨rfl, rfl⟩

set_option maxHeartbeats 400000 in
theorem rstep_any (x : Nat) (hx : x < 4294967296) (w : World) : Calls Try.prog 26 #[.int .u32 x] w fun e w' => e = .returned (.int .u32 (cstep x : Nat)) ∧ w = w' := by
  by_cases h : x % 2 = 1
  · rw [cstep_odd h]
    have ht := low_true hx h
    have hxx := half_xor hx
    go_enter Try.func26, Try.ntmps26
    go_wp2
    go_ret
    exact ⟨rfl, rfl⟩
  · rw [cstep_even h]
    have ht := low_false hx h
    go_enter Try.func26, Try.ntmps26
    go_wp2
    go_ret
    exact ⟨rfl, rfl⟩

theorem csteps_snoc (n x : Nat) : csteps (n + 1) x = cstep (csteps n x) := by rw [csteps_add n 1]; rfl

theorem feed_start {x b : Nat} (hx : x < 4294967296) (hb : b < 256) : bits .xor .u32 (x : Int) (b : Int) = ((x ^^^ b : Nat) : Int) := u32_xor_nat x b hx (by omega)

set_option maxHeartbeats 400000 in
theorem feed_any (x b : Nat) (hx : x < 4294967296) (hb : b < 256) (w : World) : Calls Try.prog 22 #[.int .u32 x, .int .u8 b] w fun e w' => e = .returned (.int .u32 (cfeed x b : Nat)) ∧ w = w' := by
  have hy : x ^^^ b < 4294967296 := Nat.xor_lt_two_pow (n := 32) hx (by omega)
  have hxx := feed_start hx hb
  go_enter Try.func22, Try.ntmps22
  go_wp2_with fail
  go_loop [0, 5] (fun m i => ∃ j : Nat, j ≤ 8 ∧ i = .int .i64 j ∧ m = .int .u32 (csteps j (x ^^^ b) : Nat)) (fun _ i => 8 - (intOf i).toNat)
  case atStart => exact ⟨0, by omega, rfl, rfl⟩
  case round =>
    obtain ⟨j, hj, rfl, rfl⟩ := hrel
    have hl := csteps_lt j hy
    by_cases hlt : j < 8
    · go_wp2_with (go_at_call 26; refine (rstep_any _ hl _).mono ?_; rintro e w' ⟨rfl, rfl⟩)
      go_round
      case rel => exact ⟨j + 1, by omega, by go_num, by rw [csteps_snoc]⟩
      case measure => simp [intOf]; omega
    · obtain rfl : j = 8 := by omega
      go_wp2
      go_ret
      exact ⟨rfl, rfl⟩
end Go.Proofs.Ytcaodblmdaifjaa
