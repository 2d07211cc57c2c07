/- Contracts of the specification's own functions on decimal strings. -/
import Derived.Test.YtipammomoeklnaaDoorDig
import Derived.Deep.QuietTactic
import Derived.BigQuiet
namespace Go.Proofs.YtipammomoeklnaaDoor
open Go.RowKit Go.PlainAid

theorem rdigit_any (d : Int) (h0 : 0 ≤ d) (h1 : d < 10) (w : World) : Calls Tryd.prog 46 #[.int .i64 d] w fun e w' => e = .returned (.string (strOfNums [48 + d])) ∧ w' = w := by
  obtain ⟨n, rfl⟩ := Int.eq_ofNat_of_zero_le h0
  have h16 : n = 0 ∨ n = 1 ∨ n = 2 ∨ n = 3 ∨ n = 4 ∨ n = 5 ∨ n = 6 ∨ n = 7 ∨ n = 8 ∨ n = 9 := by omega
  clear h0 h1
  rcases h16 with rfl | rfl | rfl | rfl | rfl | rfl | rfl | rfl | rfl | rfl
  all_goals go_enter Tryd.func46, Tryd.ntmps46
  all_goals go_wp2
  all_goals go_ret
  all_goals exact ⟨rfl, rfl⟩

theorem rdigits_any (u : Nat) (hu : u < 18446744073709551616) (w : World) :
    Calls Tryd.prog 34 #[.int .u64 u] w fun e w' => e = .returned (.string (decS u)) ∧ w' = w := by
  induction u using Nat.strongRecOn generalizing w with
  | _ u ih =>
    by_cases h : u < 10
    · have e : decS u = strOfNums [48 + (u : Int)] := by rw [decS_eq, decN_small h]
      rw [e]
      have q : IntKind.i64.wrap (u : Int) = u := IntWalk.i64_in _ ⟨by omega, by omega⟩
      clear e ih
      go_enter Tryd.func34, Tryd.ntmps34
      go_wp2_with (go_at_call 46; refine (rdigit_any _ (by omega) (by omega) _).mono ?_; rintro e w' ⟨rfl, rfl⟩)
      go_ret
      exact ⟨rfl, rfl⟩
    · have e : decS u = decS (u / 10) ++ strOfNums [48 + ((u : Int) % 10)] := by
        rw [decS_eq, decS_eq, decN_big h, str_app, show ((u % 10 : Nat) : Int) = (u : Int) % 10 from by omega]
      rw [e]
      have i1 : ∀ w, Calls Tryd.prog 34 #[.int .u64 ((u : Int) / 10)] w fun e w' => e = .returned (.string (decS (u / 10))) ∧ w' = w := ih (u / 10) (by omega) (by omega)
      have s1 := decS_le (u / 10) (by omega)
      have s2 : (strOfNums [48 + ((u : Int) % 10)]).size = 1 := strOfNums_size _
      have q1 : (u : Int).tdiv 10 = (u : Int) / 10 := Int.tdiv_eq_ediv_of_nonneg (by omega)
      have q2 : (u : Int).tmod 10 = (u : Int) % 10 := Int.tmod_eq_emod_of_nonneg (by omega)
      have q3 : IntKind.u64.wrap ((u : Int) / 10) = (u : Int) / 10 := by rw [IntKind.wrap_u64]; omega
      have q4 : IntKind.u64.wrap ((u : Int) % 10) = (u : Int) % 10 := by rw [IntKind.wrap_u64]; omega
      have q5 : IntKind.i64.wrap ((u : Int) % 10) = (u : Int) % 10 := IntWalk.i64_in _ ⟨by omega, by omega⟩
      have q6 : (0 : Int) ≤ (u : Int) % 10 := by omega
      have q7 : (u : Int) % 10 < 10 := by omega
      have I1 := Lib.hid i1
      clear e ih i1
      go_enter Tryd.func34, Tryd.ntmps34
      go_wp2_with (first
        | (go_at_call 34; refine (I1.out _).mono ?_; rintro e w' ⟨rfl, rfl⟩)
        | (go_at_call 46; refine (rdigit_any _ (by assumption) (by assumption) _).mono ?_; rintro e w' ⟨rfl, rfl⟩))
      go_ret
      exact ⟨rfl, rfl⟩
end Go.Proofs.YtipammomoeklnaaDoor
