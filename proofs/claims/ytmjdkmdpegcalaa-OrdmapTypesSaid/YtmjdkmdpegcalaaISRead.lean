/- Get, At, last, Floor, Max. -/
import Derived.Test.YtmjdkmdpegcalaaISRank
namespace Go.Proofs.Ytmjdkmdpegcalaa.IS
open Go.RowKit Go.Shelf Go.Sort Go.Lib

/-- A value and whether there is one. -/
def GetOf (w : World) (l : List (K × V)) (k : K) (e : Ending) (w' : World) : Prop := e = .returned (.tuple #[(.string (getL lt l k z0)), .bool (hasB lt (keysOf l) k)]) ∧ Below w.heap.size w w'
theorem Has.lives {w : World} {p A : Option Addr} {c : Nat} {l : List (K × V)} (h : Has w p A c l) (hl : 0 < l.length) : ∃ P, p = some ⟨P, 0, none⟩ ∧ w.cell? ⟨P, 0, none⟩ = some (.pointer (some ⟨P, 0, none⟩)) ∧ w.cell? ⟨P, 1, none⟩ = some (.slice A l.length c) := by
  rcases h.way with ⟨_, _, _, rfl⟩ | h
  · simp at hl
  · exact h
theorem has_lt {l : List (K × V)} {k : K} (h : hasB lt (keysOf l) k = true) : rkB lt (keysOf l) k < l.length := by have := hasB_lt h; simpa using this

/-- An item and whether there is one. -/
def ans : Option (K × V) → Value
  | some x => .tuple #[(.int .i64 (x.1)), (.string (x.2)), .bool true]
  | none => .tuple #[(.int .i64 (0)), (.string (⟨#[]⟩)), .bool false]
def AnsOf (w : World) (x : Option (K × V)) (e : Ending) (w' : World) : Prop := e = .returned (ans x) ∧ Below w.heap.size w w'
theorem ans_form (x : Option (K × V)) : ∃ (a : K) (b : V) (d : Bool), ans x = .tuple #[(.int .i64 (a)), (.string (b)), .bool d] := by
  cases x with
  | none => exact ⟨z0.1, z0.2, false, rfl⟩
  | some y => exact ⟨y.1, y.2, true, rfl⟩
theorem below_drewN {B : Nat} {a w : World} (h : Below B a w) (n : Nat) : Below B a (w.drewN n) := h.trans ⟨rfl, rfl, rfl, Nat.le_refl _, fun _ _ => rfl⟩
theorem last_take {l : List (K × V)} {n : Nat} (hn : n ≤ l.length) (h0 : 0 < n) : (l.take n).getLast? = some (l.getD (n - 1) z0) := by
  rw [List.getLast?_eq_getElem?, List.length_take, Nat.min_eq_left hn, List.getElem?_take, if_pos (by omega), List.getElem?_eq_getElem (by omega)]
  simp [show n - 1 < l.length by omega]
set_option maxHeartbeats 2000000 in
/-- The last of the first n items of a slice. -/
theorem last_any (A : Option Addr) (c n : Nat) (l : List (K × V)) (w : World) (h : IT w A l.length l) (hn : n ≤ l.length) (hlen : l.length ≤ 1000000) :
    Calls Try.prog 125 #[.slice A n c] w (AnsOf w (l.take n).getLast?) := by
  unfold AnsOf
  by_cases h0 : n = 0
  · subst h0
    simp only [List.take_zero, List.getLast?_nil]
    clear h hn
    go_enter Try.func125, Try.ntmps125
    go_wp2
    go_quiet (fail)
    all_goals go_wp2_with fail
    all_goals go_ret3
    all_goals exact ⟨rfl, below_drewN ((Below.refl _ w).alloc (Nat.le_refl _) _) _⟩
  · rw [last_take hn (by omega)]
    obtain ⟨b, o, rfl, hbw, h1, h2⟩ := h.at (i := n - 1) (by omega)
    obtain ⟨x, y, hxy⟩ : ∃ x y, l.getD (n - 1) z0 = (x, y) := ⟨_, _, rfl⟩
    rw [hxy] at h1 h2 ⊢
    obtain ⟨m, rfl⟩ : ∃ m, n = m + 1 := ⟨n - 1, by omega⟩
    rw [Nat.add_sub_cancel] at h1 h2
    clear hxy h
    have i0 : ¬ ((m + 1 : Nat) : Int) = 0 := by omega
    go_enter Try.func125, Try.ntmps125
    go_wp2
    go_region
    all_goals go_wp2
    all_goals go_ret3
    all_goals exact ⟨rfl, below_drewN ((Below.refl _ w).alloc (Nat.le_refl _) _) 1⟩
theorem last_all {l : List (K × V)} : (l.take l.length).getLast? = l.getLast? := by rw [List.take_length]
set_option maxHeartbeats 2000000 in
/-- The greatest key that is not greater. -/
theorem floor_any (p : Option Addr) (A : Option Addr) (c : Nat) (l : List (K × V)) (k : K) (w : World) (h : Has w p A c l) :
    Calls Try.prog 53 #[.pointer p, (.int .i64 (k))] w (AnsOf w (l.take (rkL lt (keysOf l) k)).getLast?) := by
  have g := Lib.hid h
  have hc := h.cap
  have hle := rkL_le (lt := lt) (keysOf l) k
  rw [show (keysOf l).length = l.length by simp] at hle
  clear h
  obtain ⟨x, hx⟩ : ∃ x, x = (l.take (rkL lt (keysOf l) k)).getLast? := ⟨_, rfl⟩
  rw [← hx]
  obtain ⟨r, hr⟩ : ∃ r, r = rkL lt (keysOf l) k := ⟨_, rfl⟩
  rw [← hr] at hle hx
  have gr := Lib.hid hr
  have gx := Lib.hid hx
  obtain ⟨xa, xb, xd, hans⟩ := ans_form x
  unfold AnsOf
  rw [hans]
  have ga := Lib.hid hans
  clear hr hx hans
  obtain ⟨n, hn⟩ : ∃ n, n = l.length := ⟨_, rfl⟩
  rw [← hn] at hle hc
  have gn := Lib.hid hn
  clear hn
  have i0 : (r : Int) ≤ (n : Int) := by omega
  have i1 : (r : Int) ≤ (c : Int) := by omega
  have i2 : (0 : Int) ≤ (r : Int) := by omega
  have s1 := Lib.hid (g.out.below (((Below.refl _ w).alloc (Nat.le_refl _) (.cells #[(.int .i64 (k))] 3))))
  have b2 := Lib.hid (below2 w (.cells #[(.int .i64 (k))] 3) (.cells #[.slice A l.length c] 173))
  have cx := Lib.hid (cell_alloc_sl (.cells #[.slice A l.length c] 173) (cell_new_sl w (.int .i64 (k)) 3))
  have ca := Lib.hid (by have := cell_new_sl (w.alloc (.cells #[(.int .i64 (k))] 3)) (.slice A l.length c) 173; rwa [World.size_alloc] at this : ((w.alloc (.cells #[(.int .i64 (k))] 3)).alloc (.cells #[.slice A l.length c] 173)).cell? ⟨w.heap.size + 1, 0, none⟩ = some (.slice A l.length c))
  go_enter Try.func53, Try.ntmps53
  go_wp2_with (first
    | (go_at_call 123; refine (sorted_any _ A c l _ s1.out).mono ?_; rintro e w' ⟨rfl, rfl⟩; rw [← gn.out])
    | (go_at_call 98; rw [gn.out]; refine (search_floor _ _ A c l k _ g.out.asc g.out.len ca.out cx.out (g.out.it.below b2.out)).mono ?_; rintro e w' ⟨rfl, hB⟩; rw [← gr.out]; have ca2 := (hB.cell (p := ⟨w.heap.size + 1, 0, none⟩) (lt_of_cell ca.out)).trans ca.out; rw [← gn.out] at ca2; have gB := Lib.hid (b2.out.trans (hB.mono b2.out.size)))
    | (go_at_call 125; refine (last_any A _ _ l _ (g.out.it.below gB.out) (by rw [← gn.out]; exact hle) g.out.len).mono ?_; rintro e w' ⟨rfl, hB3⟩; rw [← gx.out, ga.out]))
  all_goals go_ret3
  all_goals exact ⟨rfl, gB.out.trans (hB3.mono gB.out.size)⟩
/-- What At says. -/
def atV (l : List (K × V)) (i : Int) : Value := if 0 ≤ i ∧ i < l.length then .tuple #[(.int .i64 ((l.getD i.toNat z0).1)), (.string ((l.getD i.toNat z0).2)), .int .i64 0] else .tuple #[(.int .i64 (0)), (.string (⟨#[]⟩)), .int .i64 3]
def AtOf (w : World) (l : List (K × V)) (i : Int) (e : Ending) (w' : World) : Prop := e = .returned (atV l i) ∧ Below w.heap.size w w'
set_option maxHeartbeats 2000000 in
theorem at_bad (p : Option Addr) (i : Int) (w : World) (h : Bad w p) : Calls Try.prog 55 #[.pointer p, .int .i64 i] w fun e w' => e = .returned (.tuple #[(.int .i64 (0)), (.string (⟨#[]⟩)), .int .i64 1]) ∧ Below w.heap.size w w' := by
  have h2 := Lib.hid (h.below (((Below.refl _ w).alloc (Nat.le_refl _) (.cells #[(.int .i64 (0)), (.string (⟨#[]⟩))] 177))))
  clear h
  go_enter Try.func55, Try.ntmps55
  go_wp2_with (go_at_call 120; refine (valid_bad _ _ h2.out).mono ?_; rintro e w' ⟨rfl, rfl⟩)
  go_region
  all_goals go_wp2_with fail
  all_goals go_ret3
  all_goals exact ⟨rfl, below_drewN ((Below.refl _ w).alloc (Nat.le_refl _) _) 1⟩
set_option maxHeartbeats 4000000 in
theorem at_any (P : Nat) (A : Option Addr) (c : Nat) (l : List (K × V)) (i : Int) (w : World) (h : Has w (some ⟨P, 0, none⟩) A c l) (h0 : w.cell? ⟨P, 0, none⟩ = some (.pointer (some ⟨P, 0, none⟩))) (hP : w.cell? ⟨P, 1, none⟩ = some (.slice A l.length c)) :
    Calls Try.prog 55 #[.pointer (some ⟨P, 0, none⟩), .int .i64 i] w (AtOf w l i) := by
  unfold AtOf atV
  have hc := h.cap
  by_cases hin : 0 ≤ i ∧ i < l.length
  · rw [if_pos hin]
    obtain ⟨j, rfl⟩ := Int.eq_ofNat_of_zero_le hin.1
    rw [show ((j : Int)).toNat = j from rfl]
    have hj : j < l.length := by omega
    obtain ⟨b, o, rfl, hbw, h1, h2⟩ := h.it.at hj
    generalize (l.getD j z0).1 = x at h1 ⊢
    generalize (l.getD j z0).2 = y at h2 ⊢
    clear h
    obtain ⟨n, hn⟩ : ∃ n, n = l.length := ⟨_, rfl⟩
    rw [← hn] at hj hc hP
    clear hn hin
    have i0 : (0 : Int) ≤ (j : Int) := by omega
    have i1 : (j : Int) < (n : Int) := by omega
    have b1 : Below w.heap.size w (w.alloc (.cells #[(.int .i64 (0)), (.string (⟨#[]⟩))] 177)) := (Below.refl _ w).alloc (Nat.le_refl _) _
    have h0' := (b1.cell (lt_of_cell h0)).trans h0
    have hP' := (b1.cell (lt_of_cell hP)).trans hP
    have h1' := (b1.cell hbw).trans h1
    have h2' := (b1.cell hbw).trans h2
    clear b1
    go_enter Try.func55, Try.ntmps55
    go_wp2_with (go_at_call 120; refine (valid_any P _ h0').mono ?_; rintro e w' ⟨rfl, rfl⟩)
    go_quiet (fail)
    all_goals go_wp2_with fail
    all_goals go_ret3
    all_goals exact ⟨rfl, below_drewN ((Below.refl _ w).alloc (Nat.le_refl _) _) _⟩
  · rw [if_neg hin]
    clear h
    obtain ⟨n, hn⟩ : ∃ n, n = l.length := ⟨_, rfl⟩
    rw [← hn] at hin hc hP
    clear hn
    have b1 : Below w.heap.size w (w.alloc (.cells #[(.int .i64 (0)), (.string (⟨#[]⟩))] 177)) := (Below.refl _ w).alloc (Nat.le_refl _) _
    have h0' := (b1.cell (lt_of_cell h0)).trans h0
    have hP' := (b1.cell (lt_of_cell hP)).trans hP
    clear b1
    by_cases hneg : i < 0
    · have i0 : decide (i < 0) = true := by simpa using hneg
      go_enter Try.func55, Try.ntmps55
      go_wp2_with (go_at_call 120; refine (valid_any P _ h0').mono ?_; rintro e w' ⟨rfl, rfl⟩)
      go_quiet (fail)
      all_goals go_wp2_with fail
      all_goals go_ret3
      all_goals exact ⟨rfl, below_drewN ((Below.refl _ w).alloc (Nat.le_refl _) _) _⟩
    · have i0 : decide (i < 0) = false := by simpa using hneg
      have i1 : (n : Int) ≤ i := by omega
      go_enter Try.func55, Try.ntmps55
      go_wp2_with (go_at_call 120; refine (valid_any P _ h0').mono ?_; rintro e w' ⟨rfl, rfl⟩)
      go_quiet (fail)
      all_goals go_wp2_with fail
      all_goals go_ret3
      all_goals exact ⟨rfl, below_drewN ((Below.refl _ w).alloc (Nat.le_refl _) _) _⟩
end Go.Proofs.Ytmjdkmdpegcalaa.IS
