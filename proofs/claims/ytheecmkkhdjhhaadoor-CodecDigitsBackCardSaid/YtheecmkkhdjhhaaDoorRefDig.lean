/- Contracts of the specification's own functions on decimal strings. -/
import Derived.Test.YtheecmkkhdjhhaaDoorDig
import Derived.Deep.QuietTactic
import Derived.BigQuiet
namespace Go.Proofs.YtheecmkkhdjhhaaDoor
open Go.RowKit Go.PlainAid

theorem rdigits_any (u : Nat) (hu : u < 18446744073709551616) (w : World) :
    Calls Tryd.prog 27 #[.int .u64 u] w fun e w' => e = .returned (.string (decS u)) ∧ w' = w := by
  induction u using Nat.strongRecOn generalizing w with
  | _ u ih =>
    by_cases h : u < 10
    · have e : decS u = strOfNums [hexd (u : Int)] := by
        rw [decS_eq, decN_small h]; unfold hexd; rw [if_pos (by omega)]
      rw [e]
      have q : IntKind.i64.wrap (u : Int) = u := IntWalk.i64_in _ ⟨by omega, by omega⟩
      clear e ih
      go_enter Tryd.func27, Tryd.ntmps27
      go_wp2_with (go_at_call 34; refine (rdigit_any _ (by omega) (by omega) _).mono ?_; rintro e w' ⟨rfl, rfl⟩)
      go_ret
      exact ⟨rfl, rfl⟩
    · have e : decS u = decS (u / 10) ++ strOfNums [hexd ((u : Int) % 10)] := by
        rw [decS_eq, decS_eq, decN_big h, str_app]; unfold hexd; rw [if_pos (by omega), show ((u % 10 : Nat) : Int) = (u : Int) % 10 from by omega]
      rw [e]
      have i1 : ∀ w, Calls Tryd.prog 27 #[.int .u64 ((u : Int) / 10)] w fun e w' => e = .returned (.string (decS (u / 10))) ∧ w' = w := ih (u / 10) (by omega) (by omega)
      have s1 := decS_le (u / 10) (by omega)
      have s2 : (strOfNums [hexd ((u : Int) % 10)]).size = 1 := strOfNums_size _
      have q1 : (u : Int).tdiv 10 = (u : Int) / 10 := Int.tdiv_eq_ediv_of_nonneg (by omega)
      have q2 : (u : Int).tmod 10 = (u : Int) % 10 := Int.tmod_eq_emod_of_nonneg (by omega)
      have q3 : IntKind.u64.wrap ((u : Int) / 10) = (u : Int) / 10 := by rw [IntKind.wrap_u64]; omega
      have q4 : IntKind.u64.wrap ((u : Int) % 10) = (u : Int) % 10 := by rw [IntKind.wrap_u64]; omega
      have q5 : IntKind.i64.wrap ((u : Int) % 10) = (u : Int) % 10 := IntWalk.i64_in _ ⟨by omega, by omega⟩
      have q6 : (0 : Int) ≤ (u : Int) % 10 := by omega
      have q7 : (u : Int) % 10 < 16 := by omega
      have I1 := Lib.hid i1
      clear e ih i1
      go_enter Tryd.func27, Tryd.ntmps27
      go_wp2_with (first
        | (go_at_call 27; refine (I1.out _).mono ?_; rintro e w' ⟨rfl, rfl⟩)
        | (go_at_call 34; refine (rdigit_any _ (by assumption) (by assumption) _).mono ?_; rintro e w' ⟨rfl, rfl⟩))
      go_ret
      exact ⟨rfl, rfl⟩
end Go.Proofs.YtheecmkkhdjhhaaDoor
