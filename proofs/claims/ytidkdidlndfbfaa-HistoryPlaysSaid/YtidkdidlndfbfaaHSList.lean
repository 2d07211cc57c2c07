/- A list in memory; its operations without an iterator. -/
import Derived.Test.YtidkdidlndfbfaaBase
import Derived.Lib.SliceRun
import Derived.RangeFuncBox
namespace Go.Proofs.Ytidkdidlndfbfaa.HS
open Go.RowKit

abbrev E : Type := ByteArray
def ev (x : E) : Value := (.string (x))
def z0 : E := ⟨#[]⟩
def vs (l : List E) : List Value := l.map ev
theorem length_vs (l : List E) : (vs l).length = l.length := List.length_map ..
theorem vs_append (a b : List E) : vs (a ++ b) = vs a ++ vs b := List.map_append
theorem vs_one (l : List E) : ∀ v ∈ vs l, v.oneCell' = true := fun v h => by
  obtain ⟨z, _, rfl⟩ := List.mem_map.1 h
  rfl
theorem vs_some {l : List E} {i : Nat} {x : E} (h : l[i]? = some x) : (vs l)[i]? = some (ev x) := by
  unfold vs
  rw [List.getElem?_map, h]
  rfl
theorem infoE : (Try.prog.info? 9).map (fun i => (i.zero, i.size, i.bytes)) = some (some (.string (⟨#[]⟩)), 1, 16) := by kernel_rfl
theorem infoL : ∃ i0, Try.prog.info? 41 = some i0 := Option.isSome_iff_exists.1 (by kernel_rfl)
/-- A slice of elements that reads as a list. -/
def SL (w : World) (A : Option Addr) (n : Nat) (l : List E) : Prop := l.length = n ∧ (0 < n → ∃ b, A = some ⟨b, 0, none⟩ ∧ ∀ i x, l[i]? = some x → w.cell? ⟨b, i, none⟩ = some (ev x))
theorem SL.nil (w : World) (A : Option Addr) : SL w A 0 [] := ⟨rfl, fun h => absurd h (by omega)⟩
theorem SL.at {w : World} {A : Option Addr} {n : Nat} {l : List E} (h : SL w A n l) {i : Nat} (hi : i < n) : ∃ b x, A = some ⟨b, 0, none⟩ ∧ l[i]? = some x ∧ w.cell? ⟨b, i, none⟩ = some (ev x) := by
  obtain ⟨b, hA, hc⟩ := h.2 (by omega)
  have hl : i < l.length := by rw [h.1]; exact hi
  have hx : l[i]? = some l[i] := List.getElem?_eq_getElem hl
  exact ⟨b, _, hA, hx, hc i _ hx⟩
theorem SL.take {w : World} {A : Option Addr} {n : Nat} {l : List E} (h : SL w A n l) {r : Nat} (hr : r ≤ n) : SL w A r (l.take r) := by
  refine ⟨by rw [List.length_take, h.1]; omega, fun hp => ?_⟩
  obtain ⟨b, hA, hc⟩ := h.2 (by omega)
  refine ⟨b, hA, fun i x hx => hc i x ?_⟩
  rw [List.getElem?_take] at hx
  split at hx
  · exact hx
  · cases hx
theorem SL.below {w w' : World} {A : Option Addr} {n : Nat} {l : List E} (h : SL w A n l) (hb : Below w.heap.size w w') : SL w' A n l := by
  refine ⟨h.1, fun hn => ?_⟩
  obtain ⟨b, rfl, hc⟩ := h.2 hn
  exact ⟨b, rfl, fun i x hx => (hb.cell (lt_of_cell (hc i x hx))).trans (hc i x hx)⟩
/-- An own row is a slice that reads as its list. -/
theorem owns_sl {w : World} {B : Nat} {v : Value} {l : List E} (h : w.ownsRow B 9 1 v l.length (vs l)) : ∃ A c, v = .slice A l.length c ∧ (A = none → l.length = 0 ∧ c = 0) ∧ l.length ≤ c ∧ c ≤ 9223372036854775807 ∧ SL w A l.length l ∧ (∀ b, A = some b → ∃ g, b = ⟨g, 0, none⟩ ∧ B ≤ g) ∧
    (∀ g, A = some ⟨g, 0, none⟩ → (∀ i, w.frozen? ⟨g, i, none⟩ = false) ∧ ∀ i, i < l.length → ∃ u, w.cell? ⟨g, i, none⟩ = some u) := by
  rcases h.2 with ⟨rfl, h0⟩ | ⟨g, cap, cur, rfl, hg, hh, hc, hm, _⟩
  · obtain rfl : l = [] := List.eq_nil_of_length_eq_zero h0
    exact ⟨none, 0, rfl, fun _ => ⟨rfl, rfl⟩, Nat.le_refl _, by omega, SL.nil _ _, (fun _ h => nomatch h), (fun _ h => nomatch h)⟩
  · have hcell : ∀ i x, l[i]? = some x → w.cell? ⟨g, i, none⟩ = some (ev x) := fun i x hx => by
      have := h.cells (g := g) rfl i _ (vs_some hx)
      rwa [add_plain, Nat.zero_add] at this
    refine ⟨some ⟨g, 0, none⟩, cap, rfl, (fun h => by cases h), hc, by unfold maxLen at hm; omega, ⟨rfl, fun _ => ⟨g, rfl, hcell⟩⟩, (fun b hb => ⟨g, (Option.some.inj hb).symm, hg⟩), fun g' hg' => ?_⟩
    obtain rfl : g = g' := by cases hg'; rfl
    exact ⟨fun i => frozen_of_row w g i _ _ hh, fun i hi => ⟨_, hcell i _ (List.getElem?_eq_getElem hi)⟩⟩
def lcells (P lim mk : Nat) (v : Value) : Array Value := #[.pointer (some ⟨P, 0, none⟩), .int .i64 (lim : Nat), .int .i64 (mk : Nat), v]
/-- A valid list at block P: its limit, how many are marked, its elements in the row v. -/
structure HOwn (w : World) (B P lim mk : Nat) (v : Value) (l : List E) : Prop where
  hP : B ≤ P
  blk : w.heap[P]? = some (.cells (lcells P lim mk v) 41 (0, 0))
  row : w.ownsRow B 9 1 v l.length (vs l)
  mkle : mk ≤ l.length
  le : l.length ≤ lim
  lim_le : lim ≤ 100000
/-- A pointer to a list that is not valid. -/
def Bad (w : World) (p : Option Addr) : Prop := p = none ∨ ∃ P, p = some ⟨P, 0, none⟩ ∧ w.cell? ⟨P, 0, none⟩ = some (.pointer none)
theorem Bad.below {w w' : World} {p : Option Addr} (h : Bad w p) (hb : Below w.heap.size w w') : Bad w' p := by
  rcases h with h | ⟨P, rfl, h⟩
  · exact Or.inl h
  · exact Or.inr ⟨P, rfl, (hb.cell (lt_of_cell h)).trans h⟩
section
variable {w : World} {B P lim mk : Nat} {v : Value} {l : List E}
theorem HOwn.c0 (h : HOwn w B P lim mk v l) : w.cell? ⟨P, 0, none⟩ = some (.pointer (some ⟨P, 0, none⟩)) := (cell_of_row w P 0 _ _ (0, 0) h.blk).trans rfl
theorem HOwn.c1 (h : HOwn w B P lim mk v l) : w.cell? ⟨P, 1, none⟩ = some (.int .i64 (lim : Nat)) := (cell_of_row w P 1 _ _ (0, 0) h.blk).trans rfl
theorem HOwn.c2 (h : HOwn w B P lim mk v l) : w.cell? ⟨P, 2, none⟩ = some (.int .i64 (mk : Nat)) := (cell_of_row w P 2 _ _ (0, 0) h.blk).trans rfl
theorem HOwn.c3 (h : HOwn w B P lim mk v l) : w.cell? ⟨P, 3, none⟩ = some v := (cell_of_row w P 3 _ _ (0, 0) h.blk).trans rfl
theorem HOwn.fz (h : HOwn w B P lim mk v l) (i : Nat) : w.frozen? ⟨P, i, none⟩ = false := frozen_of_row w P i _ _ h.blk
theorem HOwn.lt (h : HOwn w B P lim mk v l) : P < w.heap.size := lt_of_heap h.blk
theorem HOwn.foot_lt (h : HOwn w B P lim mk v l) : ∀ b, Foot P v b → b < w.heap.size := fun b hb => by
  rcases hb with rfl | hb
  · exact h.lt
  · exact (h.row.lt b hb).2
theorem HOwn.foot_le (h : HOwn w B P lim mk v l) : ∀ b, Foot P v b → B ≤ b := fun b hb => by
  rcases hb with rfl | hb
  · exact h.hP
  · exact (h.row.lt b hb).1
theorem HOwn.same {w' : World} (h : HOwn w B P lim mk v l) (hb : ∀ b, Foot P v b → w'.heap[b]? = w.heap[b]?) : HOwn w' B P lim mk v l :=
  ⟨h.hP, (hb P (.inl rfl)).trans h.blk, owns_of_block h.row fun g hg => hb g (.inr hg), h.mkle, h.le, h.lim_le⟩
theorem HOwn.below {w' : World} (h : HOwn w B P lim mk v l) (hb : Below w.heap.size w w') : HOwn w' B P lim mk v l := h.same fun b hF => hb.block b (h.foot_lt b hF)
theorem HOwn.turned {w' : World} {F F' : Nat → Prop} (h : HOwn w B P lim mk v l) (hT : Turn F F' w w') (hA : Apart F (Foot P v)) : HOwn w' B P lim mk v l := h.same (hT.same hA h.foot_lt)
theorem HOwn.ne (h : HOwn w B P lim mk v l) : v.ownBlock ≠ some P := by
  intro he
  rcases h.row.2 with ⟨h0, _⟩ | ⟨g, cap, cur, hv, _, hh, _⟩
  · rw [h0] at he; cases he
  · rw [hv] at he
    obtain rfl : g = P := by simpa [Value.ownBlock] using he
    rw [h.blk] at hh
    cases hh
/-- The marks alone have turned. -/
theorem HOwn.remark (h : HOwn w B P lim mk v l) (m : Nat) (hm : m ≤ l.length) : HOwn (w.setCell ⟨P, 2, none⟩ (.int .i64 (m : Nat))) B P lim m v l ∧ Turn (Foot P v) (Foot P v) w (w.setCell ⟨P, 2, none⟩ (.int .i64 (m : Nat))) := by
  refine ⟨⟨h.hP, ?_, owns_of_block h.row fun g hg => Below.heap_setCell w _ _ g (fun e => h.ne (by rw [← show g = P from e]; exact hg)), hm, h.le, h.lim_le⟩, (But.refl _ w).setCell (.inl (.inl rfl)) _, fun _ h => .inl h⟩
  rw [heap_setCell_same w P 2 _ _ _ h.blk]
  rfl
end
theorem eql_self (a : Addr) (w : World) : (binOp .eql 24 (.pointer (some a)) (.pointer (some a))).run Try.prog w = .ok (.bool true) w := by
  obtain ⟨i0, hi⟩ := infoL
  exact run_eql_ptr_same w a Try.underlying24 hi
theorem eql_none (a : Addr) (w : World) : (binOp .eql 24 (.pointer none) (.pointer (some a))).run Try.prog w = .ok (.bool false) w := by
  have h : ∀ d : Nat, (Op.equalIn (d + 1) 24 (.pointer none) (.pointer (some a))).run Try.prog w = .ok false w := fun d => by
    simp [Op.equalIn, run_underlying Try.underlying24]
  simp only [binOp]
  simp [Op.equal, Op.maxDepth, h 9999]
theorem valid_bad (p : Option Addr) (w : World) (h : Bad w p) : Calls Try.prog 45 #[.pointer p] w fun e w' => e = .returned (.bool false) ∧ w = w' := by
  rcases h with rfl | ⟨P, rfl, hc⟩
  · go_enter Try.func45, Try.ntmps45
    go_wp2
    go_ret
    exact ⟨rfl, rfl⟩
  · have hq := eql_none ⟨P, 0, none⟩
    go_enter Try.func45, Try.ntmps45
    go_wp2
    go_ret
    exact ⟨rfl, rfl⟩
theorem valid_any (P : Nat) (w : World) (h : w.cell? ⟨P, 0, none⟩ = some (.pointer (some ⟨P, 0, none⟩))) : Calls Try.prog 45 #[.pointer (some ⟨P, 0, none⟩)] w fun e w' => e = .returned (.bool true) ∧ w = w' := by
  have hq := eql_self ⟨P, 0, none⟩
  go_enter Try.func45, Try.ntmps45
  go_wp2
  go_ret
  exact ⟨rfl, rfl⟩
theorem held_bad (p : Option Addr) (w : World) (h : Bad w p) : Calls Try.prog 60 #[.pointer p] w fun e w' => e = .returned (.slice none 0 0) ∧ w = w' := by
  have g := Lib.hid h
  clear h
  go_enter Try.func60, Try.ntmps60
  go_wp2_with (go_at_call 45; refine (valid_bad _ _ g.out).mono ?_; rintro e w' ⟨rfl, rfl⟩)
  go_ret
  exact ⟨rfl, rfl⟩
theorem len_bad (p : Option Addr) (w : World) (h : Bad w p) : Calls Try.prog 41 #[.pointer p] w fun e w' => e = .returned (.int .i64 0) ∧ w = w' := by
  have g := Lib.hid h
  clear h
  go_enter Try.func41, Try.ntmps41
  go_wp2_with (go_at_call 60; refine (held_bad _ _ g.out).mono ?_; rintro e w' ⟨rfl, rfl⟩)
  go_ret
  exact ⟨rfl, rfl⟩
theorem marked_bad (p : Option Addr) (w : World) (h : Bad w p) : Calls Try.prog 40 #[.pointer p] w fun e w' => e = .returned (.int .i64 0) ∧ w = w' := by
  have g := Lib.hid h
  clear h
  go_enter Try.func40, Try.ntmps40
  go_wp2_with (go_at_call 45; refine (valid_bad _ _ g.out).mono ?_; rintro e w' ⟨rfl, rfl⟩)
  go_ret
  exact ⟨rfl, rfl⟩
theorem mark_bad (p : Option Addr) (w : World) (h : Bad w p) : Calls Try.prog 15 #[.pointer p] w fun e w' => e = .returned (.tuple #[]) ∧ w = w' := by
  have g := Lib.hid h
  clear h
  go_enter Try.func15, Try.ntmps15
  go_wp2_with (go_at_call 45; refine (valid_bad _ _ g.out).mono ?_; rintro e w' ⟨rfl, rfl⟩)
  go_end0
  exact ⟨rfl, rfl⟩
theorem clear_bad (p : Option Addr) (w : World) (h : Bad w p) : Calls Try.prog 19 #[.pointer p] w fun e w' => e = .returned (.tuple #[]) ∧ w = w' := by
  have g := Lib.hid h
  clear h
  go_enter Try.func19, Try.ntmps19
  go_wp2_with (go_at_call 45; refine (valid_bad _ _ g.out).mono ?_; rintro e w' ⟨rfl, rfl⟩)
  go_end0
  exact ⟨rfl, rfl⟩
theorem add_bad (p : Option Addr) (x : E) (w : World) (h : Bad w p) : Calls Try.prog 13 #[.pointer p, (.string (x))] w fun e w' => e = .returned (.int .i64 1) ∧ w = w' := by
  have g := Lib.hid h
  clear h
  go_enter Try.func13, Try.ntmps13
  go_wp2_with (go_at_call 45; refine (valid_bad _ _ g.out).mono ?_; rintro e w' ⟨rfl, rfl⟩)
  go_ret
  exact ⟨rfl, rfl⟩
theorem at_bad (p : Option Addr) (i : Int) (w : World) (h : Bad w p) : Calls Try.prog 44 #[.pointer p, .int .i64 i] w fun e w' => e = .returned (.tuple #[(.string (⟨#[]⟩)), .int .i64 1]) ∧ w = w' := by
  have g := Lib.hid h
  clear h
  go_enter Try.func44, Try.ntmps44
  go_wp2_with (go_at_call 45; refine (valid_bad _ _ g.out).mono ?_; rintro e w' ⟨rfl, rfl⟩)
  go_ret2
  exact ⟨rfl, rfl⟩
theorem cut_bad (p : Option Addr) (i : Int) (w : World) (h : Bad w p) : Calls Try.prog 17 #[.pointer p, .int .i64 i] w fun e w' => e = .returned (.int .i64 1) ∧ w = w' := by
  have g := Lib.hid h
  clear h
  go_enter Try.func17, Try.ntmps17
  go_wp2_with (go_at_call 45; refine (valid_bad _ _ g.out).mono ?_; rintro e w' ⟨rfl, rfl⟩)
  go_ret
  exact ⟨rfl, rfl⟩
theorem copy_bad (p : Option Addr) (w : World) (h : Bad w p) : Calls Try.prog 21 #[.pointer p] w fun e w' => e = .returned (.pointer none) ∧ w = w' := by
  have g := Lib.hid h
  clear h
  go_enter Try.func21, Try.ntmps21
  go_wp2_with (go_at_call 45; refine (valid_bad _ _ g.out).mono ?_; rintro e w' ⟨rfl, rfl⟩)
  go_ret
  exact ⟨rfl, rfl⟩
theorem new_bad (n : Int) (w : World) (h : n < 0 ∨ 100000 < n) : Calls Try.prog 11 #[.int .i64 n] w fun e w' => e = .returned (.tuple #[.pointer none, .int .i64 2]) ∧ w = w' := by
  rcases h with h | h
  · go_enter Try.func11, Try.ntmps11
    go_wp2
    go_ret2
    exact ⟨rfl, rfl⟩
  · have h2 : ¬ (n < 0) := by omega
    go_enter Try.func11, Try.ntmps11
    go_wp2
    go_ret2
    exact ⟨rfl, rfl⟩
theorem new_any (n : Nat) (w : World) (h : n ≤ 100000) : Calls Try.prog 11 #[.int .i64 (n : Nat)] w fun e w' => e = .returned (.tuple #[.pointer (some ⟨w.heap.size, 0, none⟩), .int .i64 0]) ∧ Hid (HOwn w' w.heap.size w.heap.size n 0 (.slice none 0 0) [] ∧ Below w.heap.size w w') := by
  have i1 : (0 : Int) ≤ (n : Int) := by omega
  have i2 : (n : Int) ≤ 100000 := by omega
  go_enter Try.func11, Try.ntmps11
  go_wp2_with fail
  go_ret2
  exact ⟨rfl, ⟨Nat.le_refl _, World.alloc_heap_new _ _, World.ownsRow_nil _ _ _ _, Nat.le_refl _, Nat.zero_le _, h⟩, (Below.refl _ w).alloc (Nat.le_refl _) _⟩
section
variable {w : World} {B P lim mk : Nat} {v : Value} {l : List E}
theorem held_any (h : HOwn w B P lim mk v l) : Calls Try.prog 60 #[.pointer (some ⟨P, 0, none⟩)] w fun e w' => e = .returned v ∧ w = w' := by
  have c0 := h.c0
  have c3 := h.c3
  clear h
  go_enter Try.func60, Try.ntmps60
  go_wp2_with (go_at_call 45; refine (valid_any _ _ c0).mono ?_; rintro e w' ⟨rfl, rfl⟩)
  go_ret
  exact ⟨rfl, rfl⟩
theorem len_any (h : HOwn w B P lim mk v l) : Calls Try.prog 41 #[.pointer (some ⟨P, 0, none⟩)] w fun e w' => e = .returned (.int .i64 (l.length : Nat)) ∧ w = w' := by
  have g := Lib.hid h
  obtain ⟨A, c, rfl, _⟩ := owns_sl h.row
  clear h
  go_enter Try.func41, Try.ntmps41
  go_wp2_with (go_at_call 60; refine (held_any g.out).mono ?_; rintro e w' ⟨rfl, rfl⟩)
  go_ret
  exact ⟨rfl, rfl⟩
theorem marked_any (h : HOwn w B P lim mk v l) : Calls Try.prog 40 #[.pointer (some ⟨P, 0, none⟩)] w fun e w' => e = .returned (.int .i64 (mk : Nat)) ∧ w = w' := by
  have c0 := h.c0
  have c2 := h.c2
  clear h
  go_enter Try.func40, Try.ntmps40
  go_wp2_with (go_at_call 45; refine (valid_any _ _ c0).mono ?_; rintro e w' ⟨rfl, rfl⟩)
  go_ret
  exact ⟨rfl, rfl⟩
theorem mark_any (h : HOwn w B P lim mk v l) : Calls Try.prog 15 #[.pointer (some ⟨P, 0, none⟩)] w fun e w' => e = .returned (.tuple #[]) ∧ Hid (HOwn w' B P lim l.length v l ∧ Turn (Foot P v) (Foot P v) w w') := by
  have g := Lib.hid h
  obtain ⟨A, c, rfl, _⟩ := owns_sl h.row
  have c0 := h.c0
  have c3 := h.c3
  have f2 := h.fz 2
  have c2 := h.c2
  clear h
  go_enter Try.func15, Try.ntmps15
  go_wp2_with (go_at_call 45; refine (valid_any _ _ c0).mono ?_; rintro e w' ⟨rfl, rfl⟩)
  go_end0
  exact ⟨rfl, g.out.remark _ (Nat.le_refl _)⟩
theorem at_in (h : HOwn w B P lim mk v l) (i : Nat) (x : E) (hx : l[i]? = some x) : Calls Try.prog 44 #[.pointer (some ⟨P, 0, none⟩), .int .i64 (i : Nat)] w fun e w' => e = .returned (.tuple #[(.string (x)), .int .i64 0]) ∧ ∃ q, w' = w.drewN q := by
  obtain ⟨A, c, rfl, _, hc, hcm, hs, _⟩ := owns_sl h.row
  have hi := (List.getElem?_eq_some_iff.1 hx).1
  obtain ⟨b, rfl, hcell⟩ := hs.2 (by omega)
  have d := hcell i x hx
  unfold ev at d
  have c0 := h.c0
  have c3 := h.c3
  have i0 : (0 : Int) ≤ (i : Int) := by omega
  have hl := h.le
  have hl2 := h.lim_le
  obtain ⟨n, hn⟩ : ∃ n, n = l.length := ⟨_, rfl⟩
  rw [← hn] at c3 hi hl
  have i1 : (i : Int) < (n : Int) := by omega
  have i2 : ¬ (n : Int) ≤ (i : Int) := by omega
  clear h hs hx hcell hn
  go_enter Try.func44, Try.ntmps44
  go_wp2_with (go_at_call 45; refine (valid_any _ _ c0).mono ?_; rintro e w' ⟨rfl, rfl⟩)
  go_ret2
  exact ⟨rfl, 0, rfl⟩
theorem at_out (h : HOwn w B P lim mk v l) (i : Int) (hi : i < 0 ∨ (l.length : Int) ≤ i) : Calls Try.prog 44 #[.pointer (some ⟨P, 0, none⟩), .int .i64 i] w fun e w' => e = .returned (.tuple #[(.string (⟨#[]⟩)), .int .i64 3]) ∧ w = w' := by
  obtain ⟨A, c, rfl, _⟩ := owns_sl h.row
  have c0 := h.c0
  have c3 := h.c3
  clear h
  rcases Int.lt_or_le i 0 with h0 | h0
  · go_enter Try.func44, Try.ntmps44
    go_wp2_with (go_at_call 45; refine (valid_any _ _ c0).mono ?_; rintro e w' ⟨rfl, rfl⟩)
    go_ret2
    exact ⟨rfl, rfl⟩
  · have h1 : (l.length : Int) ≤ i := by omega
    have h2 : ¬ i < 0 := by omega
    go_enter Try.func44, Try.ntmps44
    go_wp2_with (go_at_call 45; refine (valid_any _ _ c0).mono ?_; rintro e w' ⟨rfl, rfl⟩)
    go_ret2
    exact ⟨rfl, rfl⟩
theorem cut_out (h : HOwn w B P lim mk v l) (i : Int) (hi : i < mk ∨ (l.length : Int) < i) : Calls Try.prog 17 #[.pointer (some ⟨P, 0, none⟩), .int .i64 i] w fun e w' => e = .returned (.int .i64 3) ∧ w = w' := by
  obtain ⟨A, c, rfl, _⟩ := owns_sl h.row
  have c0 := h.c0
  have c2 := h.c2
  have c3 := h.c3
  have hm := h.mkle
  clear h
  rcases Int.lt_or_le i mk with h0 | h0
  · go_enter Try.func17, Try.ntmps17
    go_wp2_with (go_at_call 45; refine (valid_any _ _ c0).mono ?_; rintro e w' ⟨rfl, rfl⟩)
    go_ret
    exact ⟨rfl, rfl⟩
  · have h1 : (l.length : Int) < i := by omega
    have h2 : ¬ i < mk := by omega
    go_enter Try.func17, Try.ntmps17
    go_wp2_with (go_at_call 45; refine (valid_any _ _ c0).mono ?_; rintro e w' ⟨rfl, rfl⟩)
    go_ret
    exact ⟨rfl, rfl⟩
end
end Go.Proofs.Ytidkdidlndfbfaa.HS
