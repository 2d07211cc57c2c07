/- Remove, Pop. -/
import Derived.Test.YtepgdeokjgjapaaQFTake
namespace Go.Proofs.Ytepgdeokjgjapaa.QF
open Go.RowKit
attribute [local go_sem] run_store_float

/-- What Remove leaves. -/
def RemOf (w : World) (B P n : Nat) (v : Value) (l : List It) (x : It) (e : Ending) (w' : World) : Prop :=
  e = .returned (.tuple #[.float .f64 (fv x.2), .bool true]) ∧ Hid (∃ v' G pl', QOwn w' B P n v' G pl' ∧ l.Perm (x :: G) ∧ Chg w w' P v v')
def PopOf (w : World) (B P n : Nat) (v : Value) (l : List It) (x : It) (e : Ending) (w' : World) : Prop :=
  e = .returned (.tuple #[.int .i64 (x.1 : Nat), .float .f64 (fv x.2), .bool true]) ∧ Hid (∃ v' G pl', QOwn w' B P n v' G pl' ∧ l.Perm (x :: G) ∧ Chg w w' P v v')
section
variable {w : World} {B P n : Nat} {v : Value} {l : List It} {pl : List Nat}
theorem pop_bad (p : Option Addr) (h : Bad w p) : Calls Try.prog 50 #[.pointer p] w fun e w' => e = .returned (.tuple #[.int .i64 0, .float .f64 0, .bool false]) ∧ w = w' := by
  have g := Lib.hid h
  clear h
  go_enter Try.func50, Try.ntmps50
  go_wp2_with (go_at_call 85; refine (peek_bad _ _ g.out).mono ?_; rintro e w' ⟨rfl, rfl⟩)
  go_ret3
  exact ⟨rfl, rfl⟩
theorem pop_none (h : QS w B P n v [] pl) : Calls Try.prog 50 #[.pointer (some ⟨P, 0, none⟩)] w fun e w' => e = .returned (.tuple #[.int .i64 0, .float .f64 0, .bool false]) ∧ w = w' := by
  have g := Lib.hid h
  clear h
  go_enter Try.func50, Try.ntmps50
  go_wp2_with (go_at_call 85; refine (peek_none g.out).mono ?_; rintro e w' ⟨rfl, rfl⟩)
  go_ret3
  exact ⟨rfl, rfl⟩
theorem pop_any (h : QOwn w B P n v l pl) (x : It) (hx : l[0]? = some x) : Calls Try.prog 50 #[.pointer (some ⟨P, 0, none⟩)] w (PopOf w B P n v l x) := by
  have g := Lib.hid h
  have gx := Lib.hid hx
  clear h hx
  go_enter Try.func50, Try.ntmps50
  go_wp2_with (first
    | (go_at_call 85; refine (peek_any g.out.qs x gx.out).mono ?_; rintro e w1 ⟨rfl, hb⟩; have gb := Lib.hid hb; clear hb)
    | (go_at_call 86; refine (take_any w1 B P n 0 v l pl x (g.out.below gb.out) gx.out).mono ?_; rintro e w2 ⟨rfl, gF⟩))
  go_ret3
  obtain ⟨v', G, pl', h1, h2, h3⟩ := gF.out
  exact ⟨rfl, v', G, pl', h1, h2, (But.of_below gb.out).trans h3.but, fun a ha => (h3.row a ha).imp_right (Nat.le_trans gb.out.size)⟩
end
end Go.Proofs.Ytepgdeokjgjapaa.QF
