/- bits.OnesCount64 of a set's number; Len. -/
import Derived.Test.YtpdipcgchhibeaaOps
import Derived.IntWalk
namespace Go.Proofs.Ytpdipcgchhibeaa
open Go.RowKit
set_option maxHeartbeats 1000000 in
theorem ones_any (m : Nat) (w : World) (hm : m < 17179869184) : Calls Try.prog 47 #[.int .u64 (m : Nat)] w fun e w' => e = .returned (.int .i64 ((sl m).length : Nat)) ∧ w = w' := by
  obtain ⟨x, hx, h1, h2, h3, hl⟩ := ones_is hm
  have hp : m / 2 &&& 6148914691236517205 ≤ m / 2 := Nat.and_le_left
  have hq : m &&& 6148914691236517205 ≤ m := Nat.and_le_left
  have s1 : bits .and .u64 ((m : Int) / 2) 6148914691236517205 = ((m / 2 &&& 6148914691236517205 : Nat) : Int) := u64_and_nat (m / 2) 6148914691236517205 (by omega) (by decide)
  have s2 : bits .and .u64 (m : Int) 6148914691236517205 = ((m &&& 6148914691236517205 : Nat) : Int) := u64_and_nat m 6148914691236517205 (by omega) (by decide)
  have e1 : o1 m = (m / 2 &&& 6148914691236517205) + (m &&& 6148914691236517205) := rfl
  obtain ⟨p, hp'⟩ : ∃ p, p = m / 2 &&& 6148914691236517205 := ⟨_, rfl⟩
  obtain ⟨q, hq'⟩ : ∃ q, q = m &&& 6148914691236517205 := ⟨_, rfl⟩
  obtain ⟨y1, hy1⟩ : ∃ y, y = o1 m := ⟨_, rfl⟩
  rw [← hp'] at s1 e1
  rw [← hq'] at s2 e1
  rw [← hy1] at hx h1 h2 e1
  have r1 : IntKind.u64.wrap ((p : Int) + (q : Int)) = (y1 : Nat) := by rw [IntKind.wrap_u64]; omega
  clear hp' hq' hp hq e1 hy1
  have s3 : bits .and .u64 ((y1 : Int) / 4) 3689348814741910323 = ((y1 / 4 &&& 3689348814741910323 : Nat) : Int) := u64_and_nat (y1 / 4) 3689348814741910323 (by omega) (by decide)
  have s4 : bits .and .u64 (y1 : Int) 3689348814741910323 = ((y1 &&& 3689348814741910323 : Nat) : Int) := u64_and_nat y1 3689348814741910323 (by omega) (by decide)
  have e2 : o2 y1 = (y1 / 4 &&& 3689348814741910323) + (y1 &&& 3689348814741910323) := rfl
  obtain ⟨p2, hp2⟩ : ∃ p, p = y1 / 4 &&& 3689348814741910323 := ⟨_, rfl⟩
  obtain ⟨q2, hq2⟩ : ∃ q, q = y1 &&& 3689348814741910323 := ⟨_, rfl⟩
  obtain ⟨y2, hy2⟩ : ∃ y, y = o2 y1 := ⟨_, rfl⟩
  rw [← hp2] at s3 e2
  rw [← hq2] at s4 e2
  rw [← hy2] at hx h2 e2
  have r2 : IntKind.u64.wrap ((p2 : Int) + (q2 : Int)) = (y2 : Nat) := by rw [IntKind.wrap_u64]; omega
  clear hp2 hq2 hy2 e2
  obtain ⟨z3, hz3⟩ : ∃ z, z = y2 / 16 + y2 := ⟨_, rfl⟩
  have r3 : IntKind.u64.wrap ((y2 : Int) / 16 + (y2 : Int)) = (z3 : Nat) := by rw [IntKind.wrap_u64]; omega
  have s5 : bits .and .u64 (z3 : Int) 1085102592571150095 = ((x : Nat) : Int) := by
    have h := u64_and_nat z3 1085102592571150095 (by omega) (by decide)
    have e : z3 &&& 1085102592571150095 = x := by rw [hz3]; exact hx
    rw [e] at h
    exact h
  obtain ⟨a, ha⟩ : ∃ a, a = x + x / 256 := ⟨_, rfl⟩
  obtain ⟨b, hb⟩ : ∃ b, b = a + a / 65536 := ⟨_, rfl⟩
  obtain ⟨c, hc⟩ : ∃ c, c = b + b / 4294967296 := ⟨_, rfl⟩
  have r4 : IntKind.u64.wrap ((x : Int) + (x : Int) / 256) = (a : Nat) := by rw [IntKind.wrap_u64]; omega
  have r5 : IntKind.u64.wrap ((a : Int) + (a : Int) / 65536) = (b : Nat) := by rw [IntKind.wrap_u64]; omega
  have r6 : IntKind.u64.wrap ((b : Int) + (b : Int) / 4294967296) = (c : Nat) := by rw [IntKind.wrap_u64]; omega
  have hl2 := hl a b c ha hb hc
  have hcl : c < 9223372036854775808 := by omega
  obtain ⟨n, hn⟩ : ∃ n, n = (sl m).length := ⟨_, rfl⟩
  rw [← hn] at hl2 ⊢
  have s6 : bits .and .i64 (c : Int) 127 = ((n : Nat) : Int) := by
    have hx : c &&& 127 = n := by rw [show (127 : Nat) = 2 ^ 7 - 1 from rfl, Nat.and_two_pow_sub_one_eq_mod]; exact hl2
    show IntKind.i64.wrap ((BitVec.ofInt 64 (c : Int) &&& BitVec.ofInt 64 ((127 : Nat) : Int)).toNat : Int) = _
    rw [BitVec.toNat_and, ofInt_u64 c (by omega), ofInt_u64 127 (by decide), hx]
    exact IntWalk.i64_in _ (by omega)
  have r7 : IntKind.i64.wrap (c : Int) = (c : Nat) := IntWalk.i64_in _ (by omega)
  have r8 : wrap64 (c : Int) = (c : Nat) := by unfold wrap64; omega
  clear hl hl2 hn hcl hc hb ha hz3 hx h1 h2 h3 hm
  go_enter Try.func47, Try.ntmps47
  go_wp2_with fail
  go_ret
  exact ⟨rfl, rfl⟩
section
variable {w : World} {P n m : Nat}
theorem len_any (h : SOwn w P n m) : Calls Try.prog 36 #[.pointer (some ⟨P, 0, none⟩)] w fun e w' => e = .returned (.int .i64 ((sl m).length : Nat)) ∧ w = w' := by
  have g := Lib.hid h
  clear h
  go_enter Try.func36, Try.ntmps36
  go_wp2_with fail
  refine (held_any g.out).mono ?_
  rintro e _ ⟨rfl, rfl⟩
  go_wp2_with fail
  refine (ones_any _ _ g.out.m34).mono ?_
  rintro e _ ⟨rfl, rfl⟩
  go_wp2_with fail
  go_ret
  exact ⟨rfl, rfl⟩
theorem len_bad (p : Option Addr) (w : World) (h : Bad w p) : Calls Try.prog 36 #[.pointer p] w fun e w' => e = .returned (.int .i64 0) ∧ w = w' := by
  have g := Lib.hid h
  clear h
  go_enter Try.func36, Try.ntmps36
  go_wp2_with fail
  refine (held_bad _ _ g.out).mono ?_
  rintro e _ ⟨rfl, rfl⟩
  go_wp2_with fail
  refine (ones_any 0 _ (by decide)).mono ?_
  rintro e _ ⟨rfl, rfl⟩
  go_wp2_with fail
  go_ret
  exact ⟨rfl, rfl⟩
end
end Go.Proofs.Ytpdipcgchhibeaa
