/- Contracts of the specification's own functions on values: Check, Text, digit, Parse, Repeat. -/
import Derived.Test.YtfkkpgklciehoaaDoorRHex
namespace Go.Proofs.YtfkkpgklciehoaaDoor
open Go.RowKit Go.PlainAid

set_option maxHeartbeats 1000000 in
theorem rcheck_val (s : ByteArray) (m : Int) (w : World) : Calls Tryd.prog 15 #[.string s, .int .i64 m] w fun e w' => e = .returned (.int .i64 (chkE s m)) ∧ w = w' := by
  obtain ⟨v, hv⟩ : ∃ v, v = chkE s m := ⟨_, rfl⟩
  rw [← hv]
  unfold chkE at hv
  have gv := Lib.hid hv
  clear hv
  by_cases h1 : m < 0
  · go_enter Tryd.func15, Tryd.ntmps15
    go_wp2
    go_ret
    exact ⟨ret_int (by rw [gv.out, if_pos (.inl h1)]), rfl⟩
  · by_cases h2 : 512 < m
    · go_enter Tryd.func15, Tryd.ntmps15
      go_wp2
      go_ret
      exact ⟨ret_int (by rw [gv.out, if_pos (.inr h2)]), rfl⟩
    · by_cases h3 : m < s.size
      · go_enter Tryd.func15, Tryd.ntmps15
        go_wp2
        go_ret
        exact ⟨ret_int (by rw [gv.out, if_neg (by omega), if_pos h3]), rfl⟩
      · go_enter Tryd.func15, Tryd.ntmps15
        go_wp2
        go_ret
        exact ⟨ret_int (by rw [gv.out, if_neg (by omega), if_neg (by omega)]), rfl⟩

set_option maxHeartbeats 1000000 in
theorem rtext_any (s : ByteArray) (w : World) (hs : s.size ≤ 1000000) : Calls Tryd.prog 17 #[.string s] w fun e w' => e = .returned (.tuple #[.string (txtS s), .int .i64 (txtE s)]) ∧ Below w.heap.size w w' := by
  by_cases h : 512 < s.size
  · have e1 : txtS s = ⟨#[]⟩ := if_pos h
    have e2 : txtE s = 12 := if_pos h
    rw [e1, e2]
    clear e1 e2
    go_enter Tryd.func17, Tryd.ntmps17
    go_wp2_with fail
    go_ret2
    exact ⟨rfl, Below.refl _ _⟩
  · have e1 : txtS s = form s := if_neg h
    have e2 : txtE s = 0 := if_neg h
    rw [e1, e2]
    clear e1 e2
    by_cases h0 : s.size = 0
    · have e1 : form s = ⟨#[45]⟩ := if_pos h0
      rw [e1]
      have he := empty_of h0
      clear e1
      go_enter Tryd.func17, Tryd.ntmps17
      go_wp2_with fail
      go_ret2
      exact ⟨rfl, Below.refl _ _⟩
    · have e1 : form s = strOfNums (hexL (bts s)) := if_neg h0
      rw [e1]
      have he := not_empty_of (show 0 < s.size by omega)
      clear e1
      go_enter Tryd.func17, Tryd.ntmps17
      go_wp2_with fail
      refine (rhex_any s _ hs).mono ?_
      rintro e w1 ⟨rfl, b1⟩
      have g1 := Lib.hid b1
      clear b1
      go_wp2_with fail
      go_ret2
      exact ⟨rfl, g1.out⟩

/-- The number of a digit; -1 if it is none. -/
def dgt (c : Int) : Int := if hok c then hv c else -1
set_option maxHeartbeats 1000000 in
theorem rdigit_any (c : Int) (w : World) (h0 : 0 ≤ c) (h1 : c ≤ 255) : Calls Tryd.prog 30 #[.int .u8 c] w fun e w' => e = .returned (.int .i64 (dgt c)) ∧ w = w' := by
  obtain ⟨v, hv⟩ : ∃ v, v = dgt c := ⟨_, rfl⟩
  rw [← hv]
  have gv := Lib.hid hv
  clear hv
  by_cases a1 : 48 ≤ c
  all_goals by_cases a2 : c ≤ 57
  all_goals by_cases a3 : 97 ≤ c
  all_goals by_cases a4 : c ≤ 102
  all_goals try omega
  all_goals (
    have q1 : IntKind.i64.wrap c = c := IntWalk.i64_in _ ⟨by omega, by omega⟩
    have q2 : 48 ≤ c → IntKind.u8.wrap (c - 48) = c - 48 := fun h => by rw [IntKind.wrap_u8]; omega
    have q3 : 97 ≤ c → IntKind.u8.wrap (c - 97) = c - 97 := fun h => by rw [IntKind.wrap_u8]; omega
    go_enter Tryd.func30, Tryd.ntmps30
    go_wp2
    go_ret
    refine ⟨ret_int ?_, rfl⟩
    rw [gv.out]
    simp [dgt, hok, hv, *])
  all_goals omega
end Go.Proofs.YtfkkpgklciehoaaDoor
