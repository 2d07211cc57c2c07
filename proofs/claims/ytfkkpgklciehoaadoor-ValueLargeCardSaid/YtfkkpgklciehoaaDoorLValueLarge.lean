/- The walk of ValueLarge. -/
import Derived.Test.YtfkkpgklciehoaaDoorWorks
import Derived.Test.YtfkkpgklciehoaaDoorBack
namespace Go.Proofs.YtfkkpgklciehoaaDoor
open Go.RowKit Go.PlainAid
set_option maxRecDepth 100000 in
set_option maxHeartbeats 4000000 in
theorem valueLarge_walk (a0 : ByteArray) (a1 : Int) (a2 : Int) (w : World) (htab : Pow w) (w0 : a0.size ≤ maxLen) (w1 : (Lit.int .u16 a1).wf = true) (w2 : (Lit.int .u16 a2).wf = true) :
    Calls Tryd.prog 11 #[.string a0, .int .u16 a1, .int .u16 a2] w fun e w' => e = .returned (.bool true) ∧ Below w.heap.size w w' := by
  unfold maxLen at w0
  have v1 := bounds_u16 w1
  have v2 := bounds_u16 w2
  clear w1 w2
  by_cases h : 1000 < a0.size
  · go_enter Tryd.func11, Tryd.ntmps11
    go_wp2_with fail
    refine (works_any _ htab).mono ?_
    rintro e W ⟨rfl, hB⟩
    go_wp2_with fail
    go_ret
    exact ⟨rfl, hB⟩
  obtain ⟨k, hk⟩ : ∃ k, k = a1 % 600 := ⟨_, rfl⟩
  have q1 : a1.tmod 600 = k := by rw [Int.tmod_eq_emod_of_nonneg v1.1, hk]
  have q2 : a1 % 600 = k := hk.symm
  have k0 : 0 ≤ k := by omega
  have k1 : k < 600 := by omega
  have q3 : IntKind.i64.wrap a1 = a1 := IntWalk.i64_in _ ⟨by omega, by omega⟩
  have q4 : IntKind.i64.wrap a2 = a2 := IntWalk.i64_in _ ⟨by omega, by omega⟩
  have q5 : IntKind.i64.wrap (-1 - a2) = -1 - a2 := IntWalk.i64_in _ ⟨by omega, by omega⟩
  have q6 : IntKind.i64.wrap (513 + a2) = 513 + a2 := IntWalk.i64_in _ ⟨by omega, by omega⟩
  have q7 : IntKind.i64.wrap k = k := IntWalk.i64_in _ ⟨by omega, by omega⟩
  have c1 : chkE a0 (-1 - a2) = 2 := if_pos (.inl (by omega))
  have c2 : chkE a0 (513 + a2) = 2 := if_pos (.inr (by omega))
  clear hk
  by_cases h5 : 512 < k
  · have c3 : chkE a0 k = 2 := if_pos (.inr h5)
    go_enter Tryd.func11, Tryd.ntmps11
    go_wp2_with fail
    refine (check_is _ k 2 c3 _).mono ?_
    rintro e _ ⟨rfl, rfl⟩
    go_wp2_with fail
    refine (works_any _ htab).mono ?_
    rintro e W9 ⟨rfl, hB⟩
    go_wp2_with fail
    go_ret
    exact ⟨rfl, hB⟩
  · by_cases h6 : (a0.size : Int) ≤ k
    · have c3 : chkE a0 k = 0 := by unfold chkE; rw [if_neg (by omega), if_neg (by omega)]
      go_enter Tryd.func11, Tryd.ntmps11
      go_wp2_with fail
      refine (check_is _ k 0 c3 _).mono ?_
      rintro e _ ⟨rfl, rfl⟩
      go_wp2_with fail
      refine (check_is _ _ 2 c1 _).mono ?_
      rintro e _ ⟨rfl, rfl⟩
      go_wp2_with fail
      refine (check_is _ _ 2 c2 _).mono ?_
      rintro e _ ⟨rfl, rfl⟩
      go_wp2_with fail
      refine (works_any _ htab).mono ?_
      rintro e W9 ⟨rfl, hB⟩
      go_wp2_with fail
      go_ret
      exact ⟨rfl, hB⟩
    · have c3 : chkE a0 k = 12 := by unfold chkE; rw [if_neg (by omega), if_pos (by omega)]
      go_enter Tryd.func11, Tryd.ntmps11
      go_wp2_with fail
      refine (check_is _ k 12 c3 _).mono ?_
      rintro e _ ⟨rfl, rfl⟩
      go_wp2_with fail
      refine (check_is _ _ 2 c1 _).mono ?_
      rintro e _ ⟨rfl, rfl⟩
      go_wp2_with fail
      refine (check_is _ _ 2 c2 _).mono ?_
      rintro e _ ⟨rfl, rfl⟩
      go_wp2_with fail
      refine (works_any _ htab).mono ?_
      rintro e W9 ⟨rfl, hB⟩
      go_wp2_with fail
      go_ret
      exact ⟨ret_bool (by rw [decide_eq_false (by omega)]; rfl), hB⟩
end Go.Proofs.YtfkkpgklciehoaaDoor
