/- valid, check, find, Len, Peek. -/
import Derived.Test.YtepgdeokjgjapaaQFSettle
namespace Go.Proofs.Ytepgdeokjgjapaa.QF
open Go.RowKit
attribute [local go_sem] run_store_float

/-- A pointer to a queue that is not valid. -/
def Bad (w : World) (p : Option Addr) : Prop := p = none ∨ ∃ P, p = some ⟨P, 0, none⟩ ∧ w.cell? ⟨P, 0, none⟩ = some (.pointer none)
theorem Bad.below {w w' : World} {p : Option Addr} (h : Bad w p) (hb : Below w.heap.size w w') : Bad w' p := by
  rcases h with h | ⟨P, rfl, h⟩
  · exact Or.inl h
  · exact Or.inr ⟨P, rfl, (hb.cell (lt_of_cell h)).trans h⟩
theorem infoQ : ∃ i0, Try.prog.info? 128 = some i0 := Option.isSome_iff_exists.1 (by kernel_rfl)
theorem eql_self (a : Addr) (w : World) : (binOp .eql 84 (.pointer (some a)) (.pointer (some a))).run Try.prog w = .ok (.bool true) w := by
  obtain ⟨i0, hi⟩ := infoQ
  exact run_eql_ptr_same w a Try.underlying84 hi
theorem eql_none (a : Addr) (w : World) : (binOp .eql 84 (.pointer none) (.pointer (some a))).run Try.prog w = .ok (.bool false) w := by
  have h : ∀ d : Nat, (Op.equalIn (d + 1) 84 (.pointer none) (.pointer (some a))).run Try.prog w = .ok false w := fun d => by
    simp [Op.equalIn, run_underlying Try.underlying84]
  simp only [binOp]
  simp [Op.equal, Op.maxDepth, h 9999]
set_option maxHeartbeats 400000 in
theorem valid_bad (p : Option Addr) (w : World) (h : Bad w p) : Calls Try.prog 103 #[.pointer p] w fun e w' => e = .returned (.bool false) ∧ w = w' := by
  rcases h with rfl | ⟨P, rfl, hc⟩
  · go_enter Try.func103, Try.ntmps103
    go_wp2
    go_ret
    exact ⟨rfl, rfl⟩
  · have hq := eql_none ⟨P, 0, none⟩
    go_enter Try.func103, Try.ntmps103
    go_wp2
    go_ret
    exact ⟨rfl, rfl⟩
set_option maxHeartbeats 400000 in
theorem valid_any (P : Nat) (w : World) (h : w.cell? ⟨P, 0, none⟩ = some (.pointer (some ⟨P, 0, none⟩))) : Calls Try.prog 103 #[.pointer (some ⟨P, 0, none⟩)] w fun e w' => e = .returned (.bool true) ∧ w = w' := by
  have hq := eql_self ⟨P, 0, none⟩
  go_enter Try.func103, Try.ntmps103
  go_wp2
  go_ret
  exact ⟨rfl, rfl⟩
theorem check_bad (p : Option Addr) (id : Int) (w : World) (h : Bad w p) : Calls Try.prog 80 #[.pointer p, .int .i64 id] w fun e w' => e = .returned (.int .i64 1) ∧ w = w' := by
  have g := Lib.hid h
  clear h
  go_enter Try.func80, Try.ntmps80
  go_wp2_with (go_at_call 103; refine (valid_bad _ _ g.out).mono ?_; rintro e w' ⟨rfl, rfl⟩)
  go_ret
  exact ⟨rfl, rfl⟩
section
variable {w : World} {B P n : Nat} {v : Value} {l : List It} {pl : List Nat}
theorem check_out (h : QS w B P n v l pl) (id : Int) (hi : id < 0 ∨ (n : Int) ≤ id) : Calls Try.prog 80 #[.pointer (some ⟨P, 0, none⟩), .int .i64 id] w fun e w' => e = .returned (.int .i64 3) ∧ w = w' := by
  have c0 := h.c0
  have c1 := h.c1
  clear h
  rcases Int.lt_or_le id 0 with h0 | h0
  · go_enter Try.func80, Try.ntmps80
    go_wp2_with (go_at_call 103; refine (valid_any _ _ c0).mono ?_; rintro e w' ⟨rfl, rfl⟩)
    go_ret
    exact ⟨rfl, rfl⟩
  · have h1 : (n : Int) ≤ id := by omega
    go_enter Try.func80, Try.ntmps80
    go_wp2_with (go_at_call 103; refine (valid_any _ _ c0).mono ?_; rintro e w' ⟨rfl, rfl⟩)
    go_ret
    exact ⟨rfl, rfl⟩
theorem check_in (h : QS w B P n v l pl) (i : Nat) (hi : i < n) : Calls Try.prog 80 #[.pointer (some ⟨P, 0, none⟩), .int .i64 (i : Nat)] w fun e w' => e = .returned (.int .i64 0) ∧ w = w' := by
  have c0 := h.c0
  have c1 := h.c1
  have h0 : (0 : Int) ≤ (i : Int) := by omega
  have h1 : (i : Int) < (n : Int) := by omega
  clear h
  go_enter Try.func80, Try.ntmps80
  go_wp2_with (go_at_call 103; refine (valid_any _ _ c0).mono ?_; rintro e w' ⟨rfl, rfl⟩)
  go_ret
  exact ⟨rfl, rfl⟩
theorem find_bad (p : Option Addr) (id : Int) (w : World) (h : Bad w p) : Calls Try.prog 81 #[.pointer p, .int .i64 id] w fun e w' => e = .returned (.tuple #[.int .i64 0, .bool false]) ∧ w = w' := by
  have g := Lib.hid h
  clear h
  go_enter Try.func81, Try.ntmps81
  go_wp2_with (go_at_call 80; refine (check_bad _ _ _ g.out).mono ?_; rintro e w' ⟨rfl, rfl⟩)
  go_ret2
  exact ⟨rfl, rfl⟩
theorem find_out (h : QS w B P n v l pl) (id : Int) (hi : id < 0 ∨ (n : Int) ≤ id) : Calls Try.prog 81 #[.pointer (some ⟨P, 0, none⟩), .int .i64 id] w fun e w' => e = .returned (.tuple #[.int .i64 0, .bool false]) ∧ w = w' := by
  have g := Lib.hid h
  have gi := Lib.hid hi
  clear h hi
  go_enter Try.func81, Try.ntmps81
  go_wp2_with (go_at_call 80; refine (check_out g.out id gi.out).mono ?_; rintro e w' ⟨rfl, rfl⟩)
  go_ret2
  exact ⟨rfl, rfl⟩
theorem find_none (h : QS w B P n v l pl) (i : Nat) (hi : i < n) (hn : n ≤ 1024) (hp : pl[i]? = some 0) : Calls Try.prog 81 #[.pointer (some ⟨P, 0, none⟩), .int .i64 (i : Nat)] w fun e w' => e = .returned (.tuple #[.int .i64 0, .bool false]) ∧ w = w' := by
  have g := Lib.hid h
  have q := h.cp hp
  have h0 : (0 : Int) ≤ (i : Int) := by omega
  have h1 : (i : Int) < 1024 := by omega
  clear h hp
  go_enter Try.func81, Try.ntmps81
  go_wp2_with (go_at_call 80; refine (check_in g.out i hi).mono ?_; rintro e w' ⟨rfl, rfl⟩)
  go_ret2
  exact ⟨rfl, rfl⟩
set_option maxRecDepth 100000 in
theorem find_at (h : QS w B P n v l pl) (i k : Nat) (hi : i < n) (hn : n ≤ 1024) (hk : k < 1024) (hp : pl[i]? = some (k + 1)) : Calls Try.prog 81 #[.pointer (some ⟨P, 0, none⟩), .int .i64 (i : Nat)] w fun e w' => e = .returned (.tuple #[.int .i64 (k : Nat), .bool true]) ∧ w = w' := by
  have g := Lib.hid h
  have q := h.cp hp
  have h0 : (0 : Int) ≤ (i : Int) := by omega
  have h1 : (i : Int) < 1024 := by omega
  have h2 : ¬ ((k : Int) + 1 = 0) := by omega
  clear h hp
  go_enter Try.func81, Try.ntmps81
  go_wp2_with (go_at_call 80; refine (check_in g.out i hi).mono ?_; rintro e w' ⟨rfl, rfl⟩)
  go_ret2
  exact ⟨by simp, rfl⟩
theorem len_bad (p : Option Addr) (w : World) (h : Bad w p) : Calls Try.prog 108 #[.pointer p] w fun e w' => e = .returned (.int .i64 0) ∧ w = w' := by
  have g := Lib.hid h
  clear h
  go_enter Try.func108, Try.ntmps108
  go_wp2_with (go_at_call 103; refine (valid_bad _ _ g.out).mono ?_; rintro e w' ⟨rfl, rfl⟩)
  go_ret
  exact ⟨rfl, rfl⟩
theorem QS.slice (h : QS w B P n v l pl) : ∃ A c, v = .slice A l.length c ∧ (A = none → l.length = 0) ∧ l.length ≤ c ∧ c ≤ 9223372036854775807 := by
  rcases h.row.2 with ⟨h0, h1⟩ | ⟨g, cap, cur, hv, _, _, hc, hm, _⟩
  · exact ⟨none, 0, by rw [h0, h1], fun _ => h1, by omega, by decide⟩
  · exact ⟨_, cap, hv, fun e => by simp at e, hc, by unfold maxLen at hm; omega⟩
theorem len_any (h : QS w B P n v l pl) : Calls Try.prog 108 #[.pointer (some ⟨P, 0, none⟩)] w fun e w' => e = .returned (.int .i64 (l.length : Nat)) ∧ w = w' := by
  obtain ⟨A, c, rfl, _⟩ := h.slice
  have c0 := h.c0
  have c2 := h.c2
  clear h
  go_enter Try.func108, Try.ntmps108
  go_wp2_with (go_at_call 103; refine (valid_any _ _ c0).mono ?_; rintro e w' ⟨rfl, rfl⟩)
  go_ret
  exact ⟨rfl, rfl⟩
theorem peek_bad (p : Option Addr) (w : World) (h : Bad w p) : Calls Try.prog 85 #[.pointer p] w fun e w' => e = .returned (.tuple #[.int .i64 0, .float .f64 0, .bool false]) ∧ w = w' := by
  have g := Lib.hid h
  clear h
  go_enter Try.func85, Try.ntmps85
  go_wp2_with (go_at_call 108; refine (len_bad _ _ g.out).mono ?_; rintro e w' ⟨rfl, rfl⟩)
  go_ret3
  exact ⟨rfl, rfl⟩
theorem peek_none (h : QS w B P n v [] pl) : Calls Try.prog 85 #[.pointer (some ⟨P, 0, none⟩)] w fun e w' => e = .returned (.tuple #[.int .i64 0, .float .f64 0, .bool false]) ∧ w = w' := by
  have g := Lib.hid h
  clear h
  go_enter Try.func85, Try.ntmps85
  go_wp2_with (go_at_call 108; refine (len_any g.out).mono ?_; rintro e w' ⟨rfl, rfl⟩)
  go_ret3
  exact ⟨rfl, rfl⟩
theorem peek_any (h : QS w B P n v l pl) (x : It) (hx : l[0]? = some x) : Calls Try.prog 85 #[.pointer (some ⟨P, 0, none⟩)] w fun e w' => e = .returned (.tuple #[.int .i64 (x.1 : Nat), .float .f64 (fv x.2), .bool true]) ∧ Below w.heap.size w w' := by
  obtain ⟨g, c, rfl, hc, _⟩ := h.shape (lt_of_some hx)
  obtain ⟨u0, u1⟩ := h.item hx
  rw [Nat.zero_mul] at u0 u1
  rw [Nat.zero_add] at u1
  have hl := lt_of_some hx
  obtain ⟨m, hm⟩ : ∃ m, m + 1 = l.length := ⟨l.length - 1, by omega⟩
  have c2 := h.c2
  have gS := Lib.hid h
  have gm := Lib.hid hm
  rw [← hm] at c2 hc
  clear h hx hl hm
  go_enter Try.func85, Try.ntmps85
  go_wp2_with (go_at_call 108; refine (len_any gS.out).mono ?_; rintro e w' ⟨rfl, rfl⟩; rw [← gm.out])
  go_region
  go_wp2_with fail
  go_ret3
  exact ⟨rfl, ((Below.refl _ _).drew)⟩
end
end Go.Proofs.Ytepgdeokjgjapaa.QF
