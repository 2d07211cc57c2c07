/- The map of chapter 3 in memory; valid, sorted, New, Len. -/
import Derived.Test.YtmjdkmdpegcalaaShelf
import Derived.Test.YtmjdkmdpegcalaaOrd
import Derived.WalkKit
import Derived.WalkSpells
import Derived.WalkLawsBesides
import Derived.Handy
import Derived.Lib.Hide
import Derived.Outline
import Derived.Deep.Draws
import Derived.BigQuiet
import Derived.RegionTactic
import Derived.Maps.AppendAt
import Derived.Laws.AppendOwn
import Derived.Laws.OwnMore
import Derived.LaidEqlPtr
namespace Go.Proofs.Ytmjdkmdpegcalaa.BP
open Go.RowKit

abbrev K : Type := Int
abbrev V : Type := (Int × ByteArray)
def z0 : K × V := (0, ((0, ⟨#[]⟩) : Int × ByteArray))
def flat (l : List (K × V)) : List Value := l.flatMap fun x => (.int .u8 (x.1)) :: [.int .i64 (x.2).1, .string (x.2).2]
def lt : K → K → Bool := fun a b => decide (a < b)
theorem kord : KOrd lt := kord_int

theorem add_plain (b o j : Nat) : (⟨b, o, none⟩ : Addr).add j = ⟨b, o + j, none⟩ := by unfold Addr.add; split <;> simp_all
theorem lt_of_cell {w : World} {b o : Nat} {v : Value} (h : w.cell? ⟨b, o, none⟩ = some v) : b < w.heap.size := by
  rcases Nat.lt_or_ge b w.heap.size with hlt | hge
  · exact hlt
  · simp [World.cell?, Array.getElem?_eq_none hge] at h
theorem lt_of_heap {w : World} {b : Nat} {o : Obj} (h : w.heap[b]? = some o) : b < w.heap.size := by
  rcases Nat.lt_or_ge b w.heap.size with hlt | hge
  · exact hlt
  · rw [Array.getElem?_eq_none hge] at h; cases h

/-- The items of a slice. -/
def IT (w : World) (A : Option Addr) (n : Nat) (l : List (K × V)) : Prop :=
  l.length = n ∧ (0 < n → ∃ b o, A = some ⟨b, o, none⟩ ∧ b < w.heap.size ∧ ∀ j v, (flat l)[j]? = some v → w.cell? ⟨b, o + j, none⟩ = some v)
/-- A map that is valid, at block P, its items from block B on. -/
structure Own (w : World) (B P : Nat) (v : Value) (l : List (K × V)) : Prop where
  hP : B ≤ P
  blk : w.heap[P]? = some (.cells #[.pointer (some ⟨P, 0, none⟩), v] 158 (0, 0))
  own : w.ownsRow B 164 3 v l.length (flat l)
  asc : Asc lt (keysOf l)
  len : l.length ≤ 1000000
/-- A pointer to a map that is not valid. -/
def Bad (w : World) (p : Option Addr) : Prop := p = none ∨ ∃ P, p = some ⟨P, 0, none⟩ ∧ w.cell? ⟨P, 0, none⟩ = some (.pointer none)
/-- What a map has, valid or not: its slice, its items. -/
structure Has (w : World) (p : Option Addr) (A : Option Addr) (c : Nat) (l : List (K × V)) : Prop where
  way : (Bad w p ∧ A = none ∧ c = 0 ∧ l = []) ∨ ∃ P, p = some ⟨P, 0, none⟩ ∧ w.cell? ⟨P, 0, none⟩ = some (.pointer (some ⟨P, 0, none⟩)) ∧ w.cell? ⟨P, 1, none⟩ = some (.slice A l.length c)
  it : IT w A l.length l
  nil : A = none → l.length = 0 ∧ c = 0
  cap : l.length ≤ c ∧ c ≤ 9223372036854775807
  asc : Asc lt (keysOf l)
  len : l.length ≤ 1000000

theorem length_flat (l : List (K × V)) : (flat l).length = l.length * 3 := by
  induction l with
  | nil => rfl
  | cons x l ih => simp only [flat, List.flatMap_cons, List.length_append, List.length_cons, List.length_nil] at *; omega
theorem flat_append (a b : List (K × V)) : flat (a ++ b) = flat a ++ flat b := by simp [flat]
theorem flat_one (l : List (K × V)) : ∀ v ∈ flat l, v.oneCell' = true := by
  intro v h
  obtain ⟨x, _, hv⟩ := List.mem_flatMap.1 h
  simp at hv
  rcases hv with rfl | rfl | rfl <;> rfl
theorem flat_get : ∀ (l : List (K × V)) (i : Nat), i < l.length → (flat l)[i * 3]? = some (.int .u8 ((l.getD i z0).1)) ∧ (flat l)[i * 3 + 1]? = [.int .i64 ((l.getD i z0).2).1, .string ((l.getD i z0).2).2][0]?
    ∧ (flat l)[i * 3 + 1 + 1]? = [.int .i64 ((l.getD i z0).2).1, .string ((l.getD i z0).2).2][1]?
  | [], i, h => by simp at h
  | x :: l, 0, _ => by simp [flat]
  | x :: l, i + 1, h => by
    have ih := flat_get l i (by simpa using h)
    have e : flat (x :: l) = ((.int .u8 (x.1)) :: [.int .i64 (x.2).1, .string (x.2).2]) ++ flat l := by simp [flat]
    have e1 : (i + 1) * 3 = 3 + i * 3 := by omega
    have e2 : (i + 1) * 3 + 1 = 3 + (i * 3 + 1) := by omega
    rw [e, e1]
    rw [List.getElem?_append_right (by simp), List.getElem?_append_right (by simp; omega)]
    have s : ((.int .u8 (x.1)) :: [.int .i64 (x.2).1, .string (x.2).2] : List Value).length = 3 := rfl
    rw [s, show 3 + i * 3 - 3 = i * 3 by omega, show 3 + i * 3 + 1 - 3 = i * 3 + 1 by omega]
    rw [List.getElem?_append_right (by simp; omega), s, show 3 + i * 3 + 1 + 1 - 3 = i * 3 + 1 + 1 by omega]
    simpa using ih
/-- The cells of an item. -/
theorem IT.at {w : World} {A : Option Addr} {n : Nat} {l : List (K × V)} (h : IT w A n l) {i : Nat} (hi : i < n) : ∃ b o, A = some ⟨b, o, none⟩ ∧ b < w.heap.size ∧ w.cell? ⟨b, o + i * 3, none⟩ = some (.int .u8 ((l.getD i z0).1)) ∧
    w.cell? ⟨b, o + i * 3 + 1, none⟩ = some (.int .i64 (l.getD i z0).2.1) ∧ w.cell? ⟨b, o + i * 3 + 1 + 1, none⟩ = some (.string (l.getD i z0).2.2) := by
  obtain ⟨b, o, rfl, hb, hc⟩ := h.2 (by omega)
  have hg := flat_get l i (by rw [h.1]; exact hi)
  refine ⟨b, o, rfl, hb, hc _ _ hg.1, ?_⟩
  exact ⟨hc _ _ hg.2.1, hc _ _ hg.2.2⟩
theorem IT.below {w w' : World} {A : Option Addr} {n : Nat} {l : List (K × V)} (h : IT w A n l) (hb : Below w.heap.size w w') : IT w' A n l := by
  refine ⟨h.1, fun hn => ?_⟩
  obtain ⟨b, o, rfl, hlt, hc⟩ := h.2 hn
  exact ⟨b, o, rfl, Nat.lt_of_lt_of_le hlt hb.size, fun j v hj => (hb.cell (p := ⟨b, o + j, none⟩) hlt).trans (hc j v hj)⟩
theorem Bad.below {w w' : World} {p : Option Addr} (h : Bad w p) (hb : Below w.heap.size w w') : Bad w' p := by
  rcases h with h | ⟨P, rfl, h⟩
  · exact Or.inl h
  · exact Or.inr ⟨P, rfl, (hb.cell (lt_of_cell h)).trans h⟩
theorem Has.below {w w' : World} {p : Option Addr} {A : Option Addr} {c : Nat} {l : List (K × V)} (h : Has w p A c l) (hb : Below w.heap.size w w') : Has w' p A c l := by
  refine ⟨?_, h.it.below hb, h.nil, h.cap, h.asc, h.len⟩
  rcases h.way with ⟨h1, h2⟩ | ⟨P, rfl, h1, h2⟩
  · exact Or.inl ⟨h1.below hb, h2⟩
  · exact Or.inr ⟨P, rfl, (hb.cell (lt_of_cell h1)).trans h1, (hb.cell (lt_of_cell h2)).trans h2⟩
theorem Has.bad {w : World} {p : Option Addr} (h : Bad w p) : Has w p none 0 [] :=
  ⟨Or.inl ⟨h, rfl, rfl, rfl⟩, ⟨rfl, fun h => absurd h (by decide)⟩, fun _ => ⟨rfl, rfl⟩, ⟨Nat.le_refl _, by decide⟩, List.Pairwise.nil, by decide⟩
/-- What a value that owns items looks like. -/
theorem owns_it {w : World} {B : Nat} {v : Value} {l : List (K × V)} {n : Nat} (hl : l.length = n) (h : w.ownsRow B 164 3 v n (flat l)) : ∃ A c, v = .slice A n c ∧ (A = none → n = 0 ∧ c = 0) ∧ n ≤ c ∧ c ≤ 9223372036854775807 ∧ IT w A n l ∧ (∀ a, A = some a → B ≤ a.block ∧ a.block < w.heap.size) := by
  rcases h.2 with ⟨rfl, rfl⟩ | ⟨g, cap, cur, rfl, hB, hh, hc, hm, _⟩
  · exact ⟨none, 0, rfl, fun _ => ⟨rfl, rfl⟩, Nat.le_refl _, by decide, ⟨hl, fun h => absurd h (by omega)⟩, fun a h => by cases h⟩
  · refine ⟨some ⟨g, 0, none⟩, cap, rfl, (fun h => by cases h), hc, by unfold maxLen at hm; omega, ⟨hl, fun hp => ⟨g, 0, rfl, lt_of_heap hh, fun j v hj => ?_⟩⟩, fun a h => by cases h; exact ⟨hB, lt_of_heap hh⟩⟩
    have hc := h.cells (g := g) rfl j v hj
    rw [add_plain] at hc
    exact hc
theorem Own.has {w : World} {B P : Nat} {v : Value} {l : List (K × V)} (h : Own w B P v l) : ∃ A c, v = .slice A l.length c ∧ Has w (some ⟨P, 0, none⟩) A c l := by
  obtain ⟨A, c, rfl, hn, h1, h2, h3, _⟩ := owns_it rfl h.own
  have hc : ∀ i, w.cell? ⟨P, i, none⟩ = (#[.pointer (some ⟨P, 0, none⟩), .slice A l.length c] : Array Value)[i]? := fun i => cell_of_row w P i _ _ (0, 0) h.blk
  exact ⟨A, c, rfl, ⟨Or.inr ⟨P, rfl, (hc 0).trans rfl, (hc 1).trans rfl⟩, h3, hn, ⟨h1, h2⟩, h.asc, h.len⟩⟩
theorem owns_below {w w' : World} {B e sz n : Nat} {v : Value} {xs : List Value} (h : w.ownsRow B e sz v n xs) (hb : Below w.heap.size w w') : w'.ownsRow B e sz v n xs := by
  refine ⟨h.1, ?_⟩
  rcases h.2 with h0 | ⟨g, cap, cur, hv, hg, hh, r⟩
  · exact Or.inl h0
  · exact Or.inr ⟨g, cap, cur, hv, hg, (hb.block g (lt_of_heap hh)).trans hh, r⟩
theorem Own.below {w w' : World} {B P : Nat} {v : Value} {l : List (K × V)} (h : Own w B P v l) (hb : Below w.heap.size w w') : Own w' B P v l :=
  ⟨h.hP, (hb.block P (lt_of_heap h.blk)).trans h.blk, owns_below h.own hb, h.asc, h.len⟩

theorem infoM : (Try.prog.info? 158).map (fun i => (i.zero, i.size, i.bytes)) = some (some (.agg #[.pointer none, .slice none 0 0]), 2, 32) := by kernel_rfl
theorem eql_self (a : Addr) (w : World) : (binOp .eql 84 (.pointer (some a)) (.pointer (some a))).run Try.prog w = .ok (.bool true) w := by
  obtain ⟨i0, hi, _⟩ := info_parts infoM
  exact run_eql_ptr_same w a Try.underlying84 hi
theorem eql_none (a : Addr) (w : World) : (binOp .eql 84 (.pointer none) (.pointer (some a))).run Try.prog w = .ok (.bool false) w := by
  have h : ∀ d : Nat, (Op.equalIn (d + 1) 84 (.pointer none) (.pointer (some a))).run Try.prog w = .ok false w := fun d => by
    simp [Op.equalIn, run_underlying Try.underlying84]
  simp only [binOp]
  simp [Op.equal, Op.maxDepth, h 9999]
set_option maxHeartbeats 400000 in
theorem valid_bad (p : Option Addr) (w : World) (h : Bad w p) : Calls Try.prog 109 #[.pointer p] w fun e w' => e = .returned (.bool false) ∧ w = w' := by
  rcases h with rfl | ⟨P, rfl, hc⟩
  · go_enter Try.func109, Try.ntmps109
    go_wp2
    go_ret
    exact ⟨rfl, rfl⟩
  · have hq := eql_none ⟨P, 0, none⟩
    go_enter Try.func109, Try.ntmps109
    go_wp2
    go_ret
    exact ⟨rfl, rfl⟩
set_option maxHeartbeats 400000 in
theorem valid_any (P : Nat) (w : World) (h : w.cell? ⟨P, 0, none⟩ = some (.pointer (some ⟨P, 0, none⟩))) : Calls Try.prog 109 #[.pointer (some ⟨P, 0, none⟩)] w fun e w' => e = .returned (.bool true) ∧ w = w' := by
  have hq := eql_self ⟨P, 0, none⟩
  go_enter Try.func109, Try.ntmps109
  go_wp2
  go_ret
  exact ⟨rfl, rfl⟩
set_option maxHeartbeats 400000 in
theorem sorted_any (p : Option Addr) (A : Option Addr) (c : Nat) (l : List (K × V)) (w : World) (h : Has w p A c l) : Calls Try.prog 118 #[.pointer p] w fun e w' => e = .returned (.slice A l.length c) ∧ w = w' := by
  rcases h.way with ⟨hb, rfl, rfl, rfl⟩ | ⟨P, rfl, h1, h2⟩
  · go_enter Try.func118, Try.ntmps118
    go_wp2_with (go_at_call 109; refine (valid_bad _ _ hb).mono ?_; rintro e w' ⟨rfl, rfl⟩)
    go_ret
    exact ⟨rfl, rfl⟩
  · go_enter Try.func118, Try.ntmps118
    go_wp2_with (go_at_call 109; refine (valid_any _ _ h1).mono ?_; rintro e w' ⟨rfl, rfl⟩)
    go_ret
    exact ⟨rfl, rfl⟩
set_option maxHeartbeats 400000 in
theorem len_any (p : Option Addr) (A : Option Addr) (c : Nat) (l : List (K × V)) (w : World) (h : Has w p A c l) : Calls Try.prog 49 #[.pointer p] w fun e w' => e = .returned (.int .i64 (l.length : Nat)) ∧ w = w' := by
  have g := Lib.hid h
  clear h
  go_enter Try.func49, Try.ntmps49
  go_wp2_with (go_at_call 118; refine (sorted_any _ A c l _ g.out).mono ?_; rintro e w' ⟨rfl, rfl⟩)
  go_ret
  exact ⟨rfl, rfl⟩
/-- A new map. -/
def NewOf (w : World) (e : Ending) (w' : World) : Prop := e = .returned (.pointer (some ⟨w.heap.size, 0, none⟩)) ∧ Own w' w.heap.size w.heap.size (.slice none 0 0) [] ∧ Below w.heap.size w w'
set_option maxHeartbeats 400000 in
theorem new_any (w : World) : Calls Try.prog 42 #[] w (NewOf w) := by
  go_enter Try.func42, Try.ntmps42
  go_wp2
  go_ret
  refine ⟨rfl, ⟨Nat.le_refl _, ?_, World.ownsRow_nil _ _ _ _, List.Pairwise.nil, by decide⟩, (Below.refl _ w).alloc (Nat.le_refl _) _⟩
  exact heap_alloc_new w _
end Go.Proofs.Ytmjdkmdpegcalaa.BP
