/- A set that was made since a world w0. -/
import Derived.Test.YtpdipcgchhibeaaSlots
namespace Go.Proofs.Ytpdipcgchhibeaa
open Go.RowKit
structure Hold (w0 : World) (P n m : Nat) (w : World) : Prop where
  set : SOwn w P n m
  hP : w0.heap.size ≤ P
  low : Below w0.heap.size w0 w
section
variable {w0 w : World} {P Q n n2 m t : Nat}
theorem Hold.lt (h : Hold w0 P n m w) : P < w.heap.size := h.set.blt
theorem Hold.below {w' : World} (h : Hold w0 P n m w) (hb : Below w.heap.size w w') : Hold w0 P n m w' := ⟨h.set.below hb, h.hP, h.low.trans (hb.mono h.low.size)⟩
theorem Hold.shows (h : Hold w0 P n m w) : Shows w (some ⟨P, 0, none⟩) m := shows_own h.set
theorem Hold.left {k : Nat} {w' : World} (h : Hold w0 P n m w) (hL : Left w P n k w') : Hold w0 P n k w' := ⟨hL.1, h.hP, h.low.trans (hL.2.below h.low.size fun b hb => by rw [show b = P from hb]; exact h.hP)⟩
theorem Hold.beside {k : Nat} {w' : World} (h : Hold w0 Q n2 t w) (hL : Left w P n k w') (hP : w0.heap.size ≤ P) (hne : Q ≠ P) : Hold w0 Q n2 t w' :=
  ⟨h.set.but hL.2 hne, h.hP, h.low.trans (hL.2.below h.low.size fun b hb => by rw [show b = P from hb]; exact hP)⟩
theorem h_new (n : Nat) (h1 : 1 ≤ n) (h34 : n ≤ 34) (hl : Below w0.heap.size w0 w) : Calls Try.prog 13 #[.int .i64 (n : Nat)] w fun e w' => e = .returned (.tuple #[.pointer (some ⟨w.heap.size, 0, none⟩), .int .i64 0]) ∧ Hold w0 w.heap.size n 0 w' ∧ Below w.heap.size w w' := by
  refine (new_any n w h1 h34).mono ?_
  rintro e w' ⟨rfl, h⟩
  exact ⟨rfl, ⟨h.out.1, hl.size, hl.trans (h.out.2.mono hl.size)⟩, h.out.2⟩
theorem h_set (n : Nat) (h1 : 1 ≤ n) (h34 : n ≤ 34) (hl : Below w0.heap.size w0 w) (A : Option Addr) (c : Nat) (l : List Nat) (hA : SL w A l) (hlt : ∀ i ∈ l, i < n) (hlen : l.length ≤ 100) :
    Calls Try.prog 35 #[.int .i64 (n : Nat), .slice A l.length c] w fun e w' => e = .returned (.pointer (some ⟨w.heap.size, 0, none⟩)) ∧ Hold w0 w.heap.size n (addAll 0 l) w' ∧ Below w.heap.size w w' := by
  refine (set_any n w h1 h34 A c l hA hlt hlen).mono ?_
  rintro e w' ⟨rfl, h⟩
  exact ⟨rfl, ⟨h.out.1, hl.size, hl.trans (h.out.2.mono hl.size)⟩, h.out.2⟩
theorem h_add (h : Hold w0 P n m w) (i : Nat) (hi : i < n) : Calls Try.prog 15 #[.pointer (some ⟨P, 0, none⟩), .int .i64 (i : Nat)] w fun e w' => e = .returned (.int .i64 0) ∧ Hold w0 P n (m ||| 2 ^ i) w' ∧ Left w P n (m ||| 2 ^ i) w' := by
  refine (add_in h.set i hi).mono ?_
  rintro e w' ⟨rfl, hL⟩
  exact ⟨rfl, h.left hL, hL⟩
theorem h_remove (h : Hold w0 P n m w) (i : Nat) (hi : i < n) : Calls Try.prog 17 #[.pointer (some ⟨P, 0, none⟩), .int .i64 (i : Nat)] w fun e w' => e = .returned (.int .i64 0) ∧ Hold w0 P n (minus m (2 ^ i)) w' ∧ Left w P n (minus m (2 ^ i)) w' := by
  refine (remove_in h.set i hi).mono ?_
  rintro e w' ⟨rfl, hL⟩
  exact ⟨rfl, h.left hL, hL⟩
theorem h_union (h : Hold w0 P n m w) (k : SOwn w Q n t) : Calls Try.prog 19 #[.pointer (some ⟨P, 0, none⟩), .pointer (some ⟨Q, 0, none⟩)] w fun e w' => e = .returned (.int .i64 0) ∧ Hold w0 P n (m ||| t) w' ∧ Left w P n (m ||| t) w' := by
  refine (union_any h.set k).mono ?_
  rintro e w' ⟨rfl, hL⟩
  exact ⟨rfl, h.left hL, hL⟩
theorem h_minus (h : Hold w0 P n m w) (k : SOwn w Q n t) : Calls Try.prog 21 #[.pointer (some ⟨P, 0, none⟩), .pointer (some ⟨Q, 0, none⟩)] w fun e w' => e = .returned (.int .i64 0) ∧ Hold w0 P n (minus m t) w' ∧ Left w P n (minus m t) w' := by
  refine (minus_any h.set k).mono ?_
  rintro e w' ⟨rfl, hL⟩
  exact ⟨rfl, h.left hL, hL⟩
theorem h_union_ne (h : Hold w0 P n m w) (k : SOwn w Q n2 t) (hne : n ≠ n2) : Calls Try.prog 19 #[.pointer (some ⟨P, 0, none⟩), .pointer (some ⟨Q, 0, none⟩)] w fun e w' => e = .returned (.int .i64 2) ∧ Below w.heap.size w w' := by
  refine (union_ne h.set k hne).mono ?_
  rintro e w' ⟨rfl, q, rfl⟩
  exact ⟨rfl, bel_drewN (Below.refl _ _) q⟩
theorem h_minus_ne (h : Hold w0 P n m w) (k : SOwn w Q n2 t) (hne : n ≠ n2) : Calls Try.prog 21 #[.pointer (some ⟨P, 0, none⟩), .pointer (some ⟨Q, 0, none⟩)] w fun e w' => e = .returned (.int .i64 2) ∧ Below w.heap.size w w' := by
  refine (minus_ne h.set k hne).mono ?_
  rintro e w' ⟨rfl, q, rfl⟩
  exact ⟨rfl, bel_drewN (Below.refl _ _) q⟩
theorem h_copy (h : Hold w0 P n m w) : Calls Try.prog 23 #[.pointer (some ⟨P, 0, none⟩)] w fun e w' => e = .returned (.pointer (some ⟨w.heap.size, 0, none⟩)) ∧ Hold w0 w.heap.size n m w' ∧ Below w.heap.size w w' := by
  refine (copy_any h.set).mono ?_
  rintro e w' ⟨rfl, h2⟩
  exact ⟨rfl, ⟨h2.out.1, h.low.size, h.low.trans (h2.out.2.mono h.low.size)⟩, h2.out.2⟩
theorem h_next (h : Hold w0 P n m w) (f : Int) : Calls Try.prog 25 #[.pointer (some ⟨P, 0, none⟩), .int .i64 f] w fun e w' => e = .returned (.tuple #[.int .i64 (nxt m f : Nat), .bool (nok m f)]) ∧ Below w.heap.size w w' := next_any h.shows.gives h.shows.lt f
theorem h_lowest (h : Hold w0 P n m w) : Calls Try.prog 27 #[.pointer (some ⟨P, 0, none⟩)] w fun e w' => e = .returned (.tuple #[.int .i64 (nxt m 0 : Nat), .bool (nok m 0)]) ∧ Below w.heap.size w w' := lowest_any h.shows.gives h.shows.lt
theorem h_size (h : Hold w0 P n m w) : Calls Try.prog 31 #[.pointer (some ⟨P, 0, none⟩)] w fun e w' => e = .returned (.int .i64 (n : Nat)) ∧ w = w' := size_any h.set
theorem h_len (h : Hold w0 P n m w) : Calls Try.prog 36 #[.pointer (some ⟨P, 0, none⟩)] w fun e w' => e = .returned (.int .i64 ((sl m).length : Nat)) ∧ w = w' := len_any h.set
end
theorem sl_lits (W : World) (l : List Nat) : SL (W.alloc (.cells (vs l).toArray 3)) (some ⟨W.heap.size, 0, none⟩) l := fun _ => ⟨W.heap.size, rfl, fun i x hx => by
  refine (cell_of_row _ W.heap.size i _ _ (0, 0) (World.alloc_heap_new W _)).trans ?_
  rw [List.getElem?_toArray]
  exact vs_some hx⟩
theorem alloc_below (W : World) (o : Obj) : Below W.heap.size W (W.alloc o) := (Below.refl _ W).alloc (Nat.le_refl _) _
/-- same at a literal of one or two slots. -/
theorem same_one {w : World} {P n m a : Nat} (h : SOwn w P n m) (e : sl m = [a]) : Calls Try.prog 33 #[.pointer (some ⟨P, 0, none⟩), .slice (some ⟨w.heap.size, 0, none⟩) 1 1] (w.alloc (.cells #[.int .i64 (a : Nat)] 3)) fun e w' => e = .returned (.bool true) ∧ Below w.heap.size w w' := by
  refine (same_any (l := [a]) (c := 1) ((shows_own h).below (alloc_below w _)) (sl_lits w [a]) e.symm).mono ?_
  rintro e w' ⟨rfl, hb⟩
  exact ⟨rfl, (alloc_below w _).trans (hb.mono (alloc_below w _).size)⟩
theorem same_two {w : World} {P n m a b : Nat} (h : SOwn w P n m) (e : sl m = [a, b]) : Calls Try.prog 33 #[.pointer (some ⟨P, 0, none⟩), .slice (some ⟨w.heap.size, 0, none⟩) 2 2] (w.alloc (.cells #[.int .i64 (a : Nat), .int .i64 (b : Nat)] 3)) fun e w' => e = .returned (.bool true) ∧ Below w.heap.size w w' := by
  refine (same_any (l := [a, b]) (c := 2) ((shows_own h).below (alloc_below w _)) (sl_lits w [a, b]) e.symm).mono ?_
  rintro e w' ⟨rfl, hb⟩
  exact ⟨rfl, (alloc_below w _).trans (hb.mono (alloc_below w _).size)⟩
theorem set_two (n a b : Nat) (w : World) (h1 : 1 ≤ n) (h34 : n ≤ 34) (ha : a < n) (hb : b < n) : Calls Try.prog 35 #[.int .i64 (n : Nat), .slice (some ⟨w.heap.size, 0, none⟩) 2 2] (w.alloc (.cells #[.int .i64 (a : Nat), .int .i64 (b : Nat)] 3)) fun e w' => ∃ Q, e = .returned (.pointer (some ⟨Q, 0, none⟩)) ∧ w.heap.size ≤ Q ∧ SOwn w' Q n (2 ^ a ||| 2 ^ b) ∧ Below w.heap.size w w' := by
  refine (set_any n _ h1 h34 _ 2 [a, b] (sl_lits w [a, b]) (by intro i hi; simp at hi; omega) (by simp)).mono ?_
  rintro e w' ⟨rfl, h⟩
  have h2 := (alloc_below w (.cells (vs [a, b]).toArray 3)).size
  have e : addAll 0 [a, b] = 2 ^ a ||| 2 ^ b := by simp [addAll]
  exact ⟨_, rfl, h2, e ▸ h.out.1, (alloc_below w _).trans (h.out.2.mono h2)⟩
theorem set_none (n c : Nat) (w : World) (h1 : 1 ≤ n) (h34 : n ≤ 34) : Calls Try.prog 35 #[.int .i64 (n : Nat), .slice none 0 c] w fun e w' => e = .returned (.pointer (some ⟨w.heap.size, 0, none⟩)) ∧ Hid (SOwn w' w.heap.size n 0 ∧ Below w.heap.size w w') :=
  set_any n w h1 h34 none c [] (SL.nil _ _) (by intro i hi; cases hi) (by decide)
end Go.Proofs.Ytpdipcgchhibeaa
