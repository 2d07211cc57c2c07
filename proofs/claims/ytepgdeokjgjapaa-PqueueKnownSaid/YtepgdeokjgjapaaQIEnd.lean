/- Remove, Pop. -/
import Derived.Test.YtepgdeokjgjapaaQITake
namespace Go.Proofs.Ytepgdeokjgjapaa.QI
open Go.RowKit

/-- What Remove leaves. -/
def RemOf (w : World) (B P n : Nat) (v : Value) (l : List It) (x : It) (e : Ending) (w' : World) : Prop :=
  e = .returned (.tuple #[.int .i64 x.2, .bool true]) ∧ Hid (∃ v' G pl', QOwn w' B P n v' G pl' ∧ l.Perm (x :: G) ∧ Chg w w' P v v')
def PopOf (w : World) (B P n : Nat) (v : Value) (l : List It) (x : It) (e : Ending) (w' : World) : Prop :=
  e = .returned (.tuple #[.int .i64 (x.1 : Nat), .int .i64 x.2, .bool true]) ∧ Hid (∃ v' G pl', QOwn w' B P n v' G pl' ∧ l.Perm (x :: G) ∧ Chg w w' P v v')
section
variable {w : World} {B P n : Nat} {v : Value} {l : List It} {pl : List Nat}
theorem remove_bad (p : Option Addr) (id : Int) (h : Bad w p) : Calls Try.prog 54 #[.pointer p, .int .i64 id] w fun e w' => e = .returned (.tuple #[.int .i64 0, .bool false]) ∧ w = w' := by
  have g := Lib.hid h
  clear h
  go_enter Try.func54, Try.ntmps54
  go_wp2_with (go_at_call 88; refine (find_bad _ _ _ g.out).mono ?_; rintro e w' ⟨rfl, rfl⟩)
  go_ret2
  exact ⟨rfl, rfl⟩
theorem remove_out (h : QS w B P n v l pl) (id : Int) (hi : id < 0 ∨ (n : Int) ≤ id) : Calls Try.prog 54 #[.pointer (some ⟨P, 0, none⟩), .int .i64 id] w fun e w' => e = .returned (.tuple #[.int .i64 0, .bool false]) ∧ w = w' := by
  have g := Lib.hid h
  have gi := Lib.hid hi
  clear h hi
  go_enter Try.func54, Try.ntmps54
  go_wp2_with (go_at_call 88; refine (find_out g.out id gi.out).mono ?_; rintro e w' ⟨rfl, rfl⟩)
  go_ret2
  exact ⟨rfl, rfl⟩
theorem remove_none (h : QOwn w B P n v l pl) (i : Nat) (hi : i < n) (hno : ∀ y ∈ l, y.1 ≠ i) : Calls Try.prog 54 #[.pointer (some ⟨P, 0, none⟩), .int .i64 (i : Nat)] w fun e w' => e = .returned (.tuple #[.int .i64 0, .bool false]) ∧ w = w' := by
  have hp0 : pl[i]? = some 0 := by
    rcases h.place hi with ⟨k, x, hx, e, _⟩ | ⟨_, h0⟩
    · exact absurd e (hno x (List.mem_of_getElem? hx))
    · exact h0
  have g := Lib.hid h
  have gp := Lib.hid hp0
  clear h hno hp0
  go_enter Try.func54, Try.ntmps54
  go_wp2_with (go_at_call 88; refine (find_none g.out.qs i hi g.out.hn gp.out).mono ?_; rintro e w' ⟨rfl, rfl⟩)
  go_ret2
  exact ⟨rfl, rfl⟩
set_option maxRecDepth 100000 in
theorem remove_any (h : QOwn w B P n v l pl) (k : Nat) (y : It) (hy : l[k]? = some y) : Calls Try.prog 54 #[.pointer (some ⟨P, 0, none⟩), .int .i64 (y.1 : Nat)] w (RemOf w B P n v l y) := by
  have hyn := h.ids y (List.mem_of_getElem? hy)
  have hk : k < 1024 := by have := lt_of_some hy; have := h.len; have := h.hn; omega
  have g := Lib.hid h
  have gp := Lib.hid ((h.plc y.1 (by rw [h.qs.len]; have := h.hn; omega) (by simp)).1 k y hy rfl)
  have gy := Lib.hid hy
  have hfd : ∀ w : World, (Instr.field 138 (.agg #[.int .i64 (y.1 : Nat), .int .i64 y.2]) 1).run Try.prog w = .ok (.int .i64 y.2) w := fun _ => by kernel_rfl
  clear h hy
  go_enter Try.func54, Try.ntmps54
  go_wp2_with (first
    | (go_at_call 88; refine (find_at g.out.qs y.1 k hyn g.out.hn hk gp.out).mono ?_; rintro e w' ⟨rfl, rfl⟩)
    | (go_at_call 90; refine (take_any w B P n k v l pl y g.out gy.out).mono ?_; rintro e w2 ⟨rfl, gF⟩))
  go_ret2
  exact ⟨rfl, gF.out⟩
theorem pop_bad (p : Option Addr) (h : Bad w p) : Calls Try.prog 55 #[.pointer p] w fun e w' => e = .returned (.tuple #[.int .i64 0, .int .i64 0, .bool false]) ∧ w = w' := by
  have g := Lib.hid h
  clear h
  go_enter Try.func55, Try.ntmps55
  go_wp2_with (go_at_call 52; refine (peek_bad _ _ g.out).mono ?_; rintro e w' ⟨rfl, rfl⟩)
  go_ret3
  exact ⟨rfl, rfl⟩
theorem pop_none (h : QS w B P n v [] pl) : Calls Try.prog 55 #[.pointer (some ⟨P, 0, none⟩)] w fun e w' => e = .returned (.tuple #[.int .i64 0, .int .i64 0, .bool false]) ∧ w = w' := by
  have g := Lib.hid h
  clear h
  go_enter Try.func55, Try.ntmps55
  go_wp2_with (go_at_call 52; refine (peek_none g.out).mono ?_; rintro e w' ⟨rfl, rfl⟩)
  go_ret3
  exact ⟨rfl, rfl⟩
theorem pop_any (h : QOwn w B P n v l pl) (x : It) (hx : l[0]? = some x) : Calls Try.prog 55 #[.pointer (some ⟨P, 0, none⟩)] w (PopOf w B P n v l x) := by
  have g := Lib.hid h
  have gx := Lib.hid hx
  clear h hx
  go_enter Try.func55, Try.ntmps55
  go_wp2_with (first
    | (go_at_call 52; refine (peek_any g.out.qs x gx.out).mono ?_; rintro e w1 ⟨rfl, hb⟩; have gb := Lib.hid hb; clear hb)
    | (go_at_call 90; refine (take_any w1 B P n 0 v l pl x (g.out.below gb.out) gx.out).mono ?_; rintro e w2 ⟨rfl, gF⟩))
  go_ret3
  obtain ⟨v', G, pl', h1, h2, h3⟩ := gF.out
  exact ⟨rfl, v', G, pl', h1, h2, (But.of_below gb.out).trans h3.but, fun a ha => (h3.row a ha).imp_right (Nat.le_trans gb.out.size)⟩
end
end Go.Proofs.Ytepgdeokjgjapaa.QI
