/- Min, Ceil; yieldsTwo. -/
import Derived.Test.YtmjdkmdpegcalaaISFirst
namespace Go.Proofs.Ytmjdkmdpegcalaa.IS
open Go.RowKit Go.Shelf Go.Sort Go.Lib

theorem Own.has_under {w : World} {B P : Nat} {v : Value} {l : List (K × V)} (h : Own w B P v l) : ∃ A c, v = .slice A l.length c ∧ Has w (some ⟨P, 0, none⟩) A c l ∧ Under w.heap.size A := by
  obtain ⟨A, c, e, hn, h1, h2, h3, h4⟩ := owns_it rfl h.own
  obtain ⟨A', c', e', hh⟩ := h.has
  rw [e] at e'
  injection e' with e1 _ e3
  subst e1 e3
  exact ⟨A, c, e, hh, fun a ha => (h4 a ha).2⟩
theorem Under.mono {n m : Nat} {A : Option Addr} (h : Under n A) (hn : n ≤ m) : Under m A := fun a ha => Nat.lt_of_lt_of_le (h a ha) hn
theorem under_none (n : Nat) : Under n none := fun a h => by cases h

set_option maxRecDepth 100000 in
set_option maxHeartbeats 2000000 in
theorem ceil_any (p : Option Addr) (A : Option Addr) (c : Nat) (l : List (K × V)) (k : K) (w : World) (h : Has w p A c l) (hA : Under w.heap.size A) :
    Calls Try.prog 54 #[.pointer p, (.int .i64 (k))] w (AnsOf w (l.drop (rkB lt (keysOf l) k)).head?) := by
  have b2 := below2 w (.cells #[.pointer p] 103) (.cells #[(.int .i64 (k))] 3)
  have c0 : ((w.alloc (.cells #[.pointer p] 103)).alloc (.cells #[(.int .i64 (k))] 3)).cell? ⟨w.heap.size, 0, none⟩ = some (.pointer p) := cell_alloc_sl _ (cell_new_sl w _ _)
  have c1 : ((w.alloc (.cells #[.pointer p] 103)).alloc (.cells #[(.int .i64 (k))] 3)).cell? ⟨w.heap.size + 1, 0, none⟩ = some (.int .i64 (k)) := by
    have := cell_new_sl (w.alloc (.cells #[.pointer p] 103)) (.int .i64 (k)) 3; rwa [World.size_alloc] at this
  have hf := first_any 128 #[.pointer (some ⟨w.heap.size, 0, none⟩), .pointer (some ⟨w.heap.size + 1, 0, none⟩)] (l.drop (rkB lt (keysOf l) k)) w.heap.size _ ((w.alloc (.cells #[.pointer p] 103)).alloc (.cells #[(.int .i64 (k))] 3)) b2.size (Below.refl _ _) (enters_of Try.func128 (by kernel_rfl) rfl)
    (fun n => from_stops n w.heap.size w.heap.size (w.heap.size + 1) p A c l k _ c0 c1 (h.below b2) hA b2.size)
  obtain ⟨x, hx⟩ : ∃ x, x = (l.drop (rkB lt (keysOf l) k)).head? := ⟨_, rfl⟩
  rw [← hx] at hf ⊢
  obtain ⟨xa, xb, xd, hans⟩ := ans_form x
  unfold AnsOf at hf ⊢
  rw [hans] at hf ⊢
  have gf := Lib.hid hf
  have gb := Lib.hid b2
  clear hf hx hans c0 c1 b2 h
  go_enter Try.func54, Try.ntmps54
  go_wp2_with (first
    | (go_at_call 57; refine (from_any _ _ _).mono ?_; rintro e w' ⟨rfl, rfl⟩)
    | (go_at_call 126; refine gf.out.mono ?_; rintro e w' ⟨rfl, hB⟩))
  go_ret3
  exact ⟨rfl, gb.out.trans (hB.mono gb.out.size)⟩
set_option maxRecDepth 100000 in
set_option maxHeartbeats 2000000 in
theorem min_any (p : Option Addr) (A : Option Addr) (c : Nat) (l : List (K × V)) (w : World) (h : Has w p A c l) (hA : Under w.heap.size A) :
    Calls Try.prog 59 #[.pointer p] w (AnsOf w l.head?) := by
  have b2 : Below w.heap.size w (w.alloc (.cells #[.pointer p] 103)) := (Below.refl _ w).alloc (Nat.le_refl _) _
  have c0 := cell_new_sl w (.pointer p) 103
  have hf := first_any 159 #[.pointer (some ⟨w.heap.size, 0, none⟩)] l w.heap.size _ (w.alloc (.cells #[.pointer p] 103)) b2.size (Below.refl _ _) (enters_of Try.func159 (by kernel_rfl) rfl)
    (fun n => all_stops n w.heap.size w.heap.size p A c l _ c0 (h.below b2) hA b2.size)
  obtain ⟨x, hx⟩ : ∃ x, x = l.head? := ⟨_, rfl⟩
  rw [← hx] at hf ⊢
  obtain ⟨xa, xb, xd, hans⟩ := ans_form x
  unfold AnsOf at hf ⊢
  rw [hans] at hf ⊢
  have gf := Lib.hid hf
  have gb := Lib.hid b2
  clear hf hx hans c0 b2 h
  go_enter Try.func59, Try.ntmps59
  go_wp2_with (first
    | (go_at_call 131; refine (all_any _ _).mono ?_; rintro e w' ⟨rfl, rfl⟩)
    | (go_at_call 126; refine gf.out.mono ?_; rintro e w' ⟨rfl, hB⟩))
  go_ret3
  exact ⟨rfl, gb.out.trans (hB.mono gb.out.size)⟩
theorem eql_func (g : Nat) (lb : Array Value) (w : World) : (binOp .eql 112 (.func (.func g) #[] lb) .nilFunc).run Try.prog w = .ok (.bool false) w := by
  have h : ∀ d : Nat, (Op.equalIn (d + 1) 112 (.func (.func g) #[] lb) .nilFunc).run Try.prog w = .ok false w := fun d => by
    simp [Op.equalIn, run_underlying Try.underlying112]
  simp only [binOp]
  simp [Op.equal, Op.maxDepth, h 9999]
set_option maxHeartbeats 1000000 in
theorem two_any (g : Nat) (lb : Array Value) (w : World) : Calls Try.prog 56 #[.func (.func g) #[] lb] w fun e w' => e = .returned (.func (.func g) #[] lb) ∧ w = w' := by
  have hq := eql_func g lb
  go_enter Try.func56, Try.ntmps56
  go_wp2
  go_ret
  exact ⟨rfl, rfl⟩
end Go.Proofs.Ytmjdkmdpegcalaa.IS
