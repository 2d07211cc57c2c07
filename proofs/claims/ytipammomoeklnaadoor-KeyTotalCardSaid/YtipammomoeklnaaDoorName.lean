/- Contracts of Name, the program's and the specification's; of strconv.Itoa. -/
import Derived.Test.YtipammomoeklnaaDoorRefDig
namespace Go.Proofs.YtipammomoeklnaaDoor
open Go.RowKit Go.PlainAid

/-- What Name returns. -/
def inR (n : Int) : Bool := decide (0 ≤ n ∧ n ≤ 999999)
def namS (n : Int) : ByteArray := if inR n then ⟨#[107]⟩ ++ decS n.toNat else ⟨#[]⟩
def namE (n : Int) : Int := if inR n then 0 else 3
theorem nam_in {n : Int} (h0 : 0 ≤ n) (h1 : n ≤ 999999) : namS n = ⟨#[107]⟩ ++ decS n.toNat ∧ namE n = 0 := by
  have : inR n = true := decide_eq_true ⟨h0, h1⟩
  unfold namS namE; rw [this]; exact ⟨rfl, rfl⟩
theorem nam_out {n : Int} (h : n < 0 ∨ 999999 < n) : namS n = ⟨#[]⟩ ∧ namE n = 3 := by
  have : inR n = false := decide_eq_false (by omega)
  unfold namS namE; rw [this]; exact ⟨rfl, rfl⟩
theorem ret_se {a b : ByteArray} {p q : Int} (h : a = b) (k : p = q) : Ending.returned (.tuple #[.string a, .int .i64 p]) = .returned (.tuple #[.string b, .int .i64 q]) := by rw [h, k]

theorem name_any (n : Int) (w : World) (htab : Pow w) : Calls Tryd.prog 22 #[.int .i64 n] w fun e w' => e = .returned (.tuple #[.string (namS n), .int .i64 (namE n)]) ∧ Below w.heap.size w w' := by
  by_cases h : n < 0 ∨ 999999 < n
  · rw [(nam_out h).1, (nam_out h).2]
    rcases h with h | h
    · go_enter Tryd.func22, Tryd.ntmps22
      go_wp2
      go_ret2
      exact ⟨rfl, Below.refl _ _⟩
    · have h' : ¬ n < 0 := by omega
      go_enter Tryd.func22, Tryd.ntmps22
      go_wp2
      go_ret2
      exact ⟨rfl, Below.refl _ _⟩
  · rw [(nam_in (n := n) (by omega) (by omega)).1, (nam_in (n := n) (by omega) (by omega)).2]
    obtain ⟨u, rfl⟩ := Int.eq_ofNat_of_zero_le (show 0 ≤ n by omega)
    have h1 : ¬ (999999 : Int) < (u : Int) := by omega
    have h2 := decS_le u (by omega)
    have q : IntKind.u64.wrap (u : Int) = u := IntWalk.u64_in _ ⟨by omega, by omega⟩
    clear h
    go_enter Tryd.func22, Tryd.ntmps22
    go_wp2_with (go_at_call 33; refine (digits_any u (by omega) _ htab).mono ?_; rintro e w' ⟨rfl, hB⟩)
    go_ret2
    exact ⟨rfl, hB⟩
theorem rname_any (n : Int) (w : World) : Calls Tryd.prog 23 #[.int .i64 n] w fun e w' => e = .returned (.tuple #[.string (namS n), .int .i64 (namE n)]) ∧ w = w' := by
  by_cases h : n < 0 ∨ 999999 < n
  · rw [(nam_out h).1, (nam_out h).2]
    rcases h with h | h
    · go_enter Tryd.func23, Tryd.ntmps23
      go_wp2
      go_ret2
      exact ⟨rfl, rfl⟩
    · have h' : ¬ n < 0 := by omega
      go_enter Tryd.func23, Tryd.ntmps23
      go_wp2
      go_ret2
      exact ⟨rfl, rfl⟩
  · rw [(nam_in (n := n) (by omega) (by omega)).1, (nam_in (n := n) (by omega) (by omega)).2]
    obtain ⟨u, rfl⟩ := Int.eq_ofNat_of_zero_le (show 0 ≤ n by omega)
    have h1 : ¬ (999999 : Int) < (u : Int) := by omega
    have h2 := decS_le u (by omega)
    have q : IntKind.u64.wrap (u : Int) = u := IntWalk.u64_in _ ⟨by omega, by omega⟩
    clear h
    go_enter Tryd.func23, Tryd.ntmps23
    go_wp2_with (go_at_call 34; refine (rdigits_any u (by omega) _).mono ?_; rintro e w' ⟨rfl, rfl⟩)
    go_ret2
    exact ⟨rfl, rfl⟩
theorem itoa_any (u : Nat) (hu : u < 9223372036854775808) (w : World) (htab : Pow w) : Calls Tryd.prog 27 #[.int .i64 (u : Int)] w fun e w' => e = .returned (.string (decS u)) ∧ Below w.heap.size w w' := by
  refine (Tryd.strconv_Itoa (u : Int) (by omega) (by omega) w htab).mono ?_
  rintro e w' ⟨rfl, k, os, rfl⟩
  refine ⟨?_, Lib.below_grow _ w (Nat.le_refl _) _ _⟩
  unfold Lib.itoa decS
  rw [if_neg (by omega)]
  rfl
end Go.Proofs.YtipammomoeklnaaDoor
