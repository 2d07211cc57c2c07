/- The walk of CrcShifts: shifts add up, and are injective. -/
import Derived.Test.YtcaodblmdaifjaaFrame
import Derived.Test.YtcaodblmdaifjaaWorks
import Derived.Deep.RegionWith
namespace Go.Proofs.Ytcaodblmdaifjaa
open Go.RowKit

theorem combine_neg (a b : Nat) (n : Int) (ha : a < 4294967296) (hb : b < 4294967296) (hn : -9223372036854775808 ≤ n ∧ n < 0) (w : World) :
    Calls Try.prog 19 #[.int .u32 a, .int .u32 b, .int .i64 n] w fun e w' => e = .returned (.tuple #[.int .u32 0, .int .i64 2]) ∧ Below w.heap.size w w' := by
  have := combine_any a b n ha hb ⟨hn.1, by omega⟩ w
  rw [show combE n = 2 from if_pos hn.2, show combV a b n = 0 from if_pos hn.2] at this
  exact this
theorem combine_pos (a b : Nat) (n : Int) (ha : a < 4294967296) (hb : b < 4294967296) (hn : 0 ≤ n ∧ n ≤ 9223372036854775807) (w : World) :
    Calls Try.prog 19 #[.int .u32 a, .int .u32 b, .int .i64 n] w fun e w' => e = .returned (.tuple #[.int .u32 (cshift n.toNat a ^^^ b : Nat), .int .i64 0]) ∧ Below w.heap.size w w' := by
  have := combine_any a b n ha hb ⟨by omega, hn.2⟩ w
  rw [show combE n = 0 from if_neg (by omega), show combV a b n = _ from if_neg (by omega)] at this
  exact this
theorem combine_zero (a : Nat) (n : Nat) (ha : a < 4294967296) (hn : n < 9223372036854775808) (w : World) :
    Calls Try.prog 19 #[.int .u32 a, .int .u32 0, .int .i64 n] w fun e w' => e = .returned (.tuple #[.int .u32 (cshift n a : Nat), .int .i64 0]) ∧ Below w.heap.size w w' := by
  have := combine_pos a 0 n ha (by decide) ⟨by omega, by omega⟩ w
  rw [Nat.xor_zero] at this
  exact this

set_option maxRecDepth 100000 in
set_option maxHeartbeats 2000000 in
theorem crcShifts_walk (a0 a1 a2 a3 : Int) (w : World) (w0 : (Lit.int .u32 a0).wf = true) (w1 : (Lit.int .u32 a1).wf = true) (w2 : (Lit.int .i64 a2).wf = true) (w3 : (Lit.int .i64 a3).wf = true) :
    Calls Try.prog 10 #[.int .u32 a0, .int .u32 a1, .int .i64 a2, .int .i64 a3] w fun e w' => e = .returned (.bool true) ∧ Below w.heap.size w w' := by
  obtain ⟨x, rfl, hx⟩ := nat_of_u32 w0
  obtain ⟨y, rfl, hy⟩ := nat_of_u32 w1
  have hm := bounds_i64 w2
  have hn := bounds_i64 w3
  clear w0 w1 w2 w3
  by_cases hbad : a2 < 0 ∨ a3 < 0 ∨ 4611686018427387903 < a2 ∨ 4611686018427387903 < a3
  · rcases (show (a2 < 0 ∧ a3 < 0) ∨ (a2 < 0 ∧ 0 ≤ a3) ∨ (0 ≤ a2 ∧ a3 < 0) ∨ (0 ≤ a2 ∧ 0 ≤ a3 ∧ 4611686018427387903 < a2) ∨ (0 ≤ a2 ∧ 0 ≤ a3 ∧ a2 ≤ 4611686018427387903 ∧ 4611686018427387903 < a3) from by omega) with ⟨p, q⟩ | ⟨p, q⟩ | ⟨p, q⟩ | ⟨p, q, r⟩ | ⟨p, q, r, t⟩
    all_goals clear hbad
    all_goals go_enter Try.func10, Try.ntmps10
    all_goals go_wp2_with (first | (go_at_call 19; refine (combine_neg _ _ _ hx hy (by omega) _).mono ?_; rintro e wA ⟨rfl, hA⟩) | (go_at_call 19; refine (combine_pos _ _ _ hx hy (by omega) _).mono ?_; rintro e wA ⟨rfl, hA⟩) | (go_at_call 13; refine (works_any _).mono ?_; rintro e wD ⟨rfl, hD⟩))
    all_goals go_ret
    all_goals refine ⟨?_, bchain hA hD⟩
    all_goals first | rfl | (show Ending.returned (.bool (!decide (a3 < 0))) = _; rw [decide_eq_false (by omega)]; rfl) | (show Ending.returned (.bool (!decide (a2 < 0))) = _; rw [decide_eq_false (by omega)]; rfl) | (show Ending.returned (.bool (decide (a3 < 0))) = _; rw [decide_eq_true (by omega)]) | (show Ending.returned (.bool (decide (a2 < 0))) = _; rw [decide_eq_true (by omega)])
  · obtain ⟨m, rfl⟩ := Int.eq_ofNat_of_zero_le (show 0 ≤ a2 by omega)
    obtain ⟨n, rfl⟩ := Int.eq_ofNat_of_zero_le (show 0 ≤ a3 by omega)
    have hm' : m ≤ 4611686018427387903 := by omega
    have hn' : n ≤ 4611686018427387903 := by omega
    clear hbad hm hn
    have hs := cshift_lt m hx
    have e1 := Lib.hid (cshift_add m n x)
    by_cases hq : x = y
    · have h1 : ((cshift (m + n) y : Int) == (cshift (m + n) x : Int)) = true := by rw [beq_nat]; simp [hq]
      have h2 : ((x : Int) == (y : Int)) = true := by rw [beq_nat]; simpa using hq
      clear hq
      go_enter Try.func10, Try.ntmps10
      go_wp2_with fail
      refine (combine_zero x m hx (by omega) _).mono ?_
      rintro e wA ⟨rfl, hA⟩
      go_wp2_with fail
      refine (combine_zero _ n hs (by omega) _).mono ?_
      rintro e wB ⟨rfl, hB⟩
      rw [← e1.out]
      go_wp2_with fail
      refine (combine_zero x (m + n) hx (by omega) _).mono ?_
      rintro e wC ⟨rfl, hC⟩
      go_wp2_with fail
      refine (combine_zero y (m + n) hy (by omega) _).mono ?_
      rintro e wD ⟨rfl, hD⟩
      go_wp2_with fail
      refine (works_any _).mono ?_
      rintro e wE ⟨rfl, hE⟩
      go_wp2_with fail
      go_ret
      exact ⟨rfl, bchain (bchain (bchain (bchain hA hB) hC) hD) hE⟩
    · have h1 : ((cshift (m + n) y : Int) == (cshift (m + n) x : Int)) = false := by rw [beq_nat]; simpa using fun h => hq ((cshift_inj _ hy hx).1 h).symm
      have h2 : ((x : Int) == (y : Int)) = false := by rw [beq_nat]; simpa using hq
      clear hq
      go_enter Try.func10, Try.ntmps10
      go_wp2_with fail
      refine (combine_zero x m hx (by omega) _).mono ?_
      rintro e wA ⟨rfl, hA⟩
      go_wp2_with fail
      refine (combine_zero _ n hs (by omega) _).mono ?_
      rintro e wB ⟨rfl, hB⟩
      rw [← e1.out]
      go_wp2_with fail
      refine (combine_zero x (m + n) hx (by omega) _).mono ?_
      rintro e wC ⟨rfl, hC⟩
      go_wp2_with fail
      refine (combine_zero y (m + n) hy (by omega) _).mono ?_
      rintro e wD ⟨rfl, hD⟩
      go_wp2_with fail
      refine (works_any _).mono ?_
      rintro e wE ⟨rfl, hE⟩
      go_wp2_with fail
      go_ret
      exact ⟨rfl, bchain (bchain (bchain (bchain hA hB) hC) hD) hE⟩
end Go.Proofs.Ytcaodblmdaifjaa
