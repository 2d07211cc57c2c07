/- The reference: a set as a row of bools; its operations without All. -/
import Derived.Test.YtpdipcgchhibeaaUse
import Derived.Laws.OwnMore
namespace Go.Proofs.Ytpdipcgchhibeaa
open Go.RowKit
def bl (n m : Nat) : List Value := (List.range n).map fun i => .bool (m.testBit i)
theorem bl_get {n m i : Nat} (h : i < n) : (bl n m)[i]? = some (.bool (m.testBit i)) := by
  unfold bl
  simp [h]
theorem bl_set {n m k : Nat} {b : Bool} {m' : Nat} (hm : ∀ j, j < n → m'.testBit j = if j = k then b else m.testBit j) : (bl n m).set k (.bool b) = bl n m' := by
  unfold bl
  apply List.ext_getElem
  · simp
  · intro i h1 h2
    have hi : i < n := by simpa using h2
    simp only [List.getElem_set, List.getElem_map, List.getElem_range]
    rw [hm i hi]
    by_cases e : k = i
    · subst e; simp
    · simp [e, Ne.symm e]
abbrev rv (g n c : Nat) : Value := .slice (some ⟨g, 0, none⟩) n c
/-- A valid set of the reference at block R, its row at block g. -/
structure ROwn (w : World) (B R g c n m : Nat) : Prop where
  hR : B ≤ R
  blk : w.heap[R]? = some (.cells #[rv g n c] 67 (0, 0))
  row : w.ownsRow B 4 1 (rv g n c) n (bl n m)
  pos : 1 ≤ n
  le : n ≤ 34
  lt : m < 2 ^ n
/-- What it takes up. -/
def RF (R g : Nat) : Nat → Prop := fun b => b = R ∨ b = g
section
variable {w : World} {B R g c n m : Nat}
theorem ROwn.c0 (h : ROwn w B R g c n m) : w.cell? ⟨R, 0, none⟩ = some (rv g n c) := (cell_of_row w R 0 _ _ (0, 0) h.blk).trans rfl
theorem ROwn.at (h : ROwn w B R g c n m) {i : Nat} (hi : i < n) : w.cell? ⟨g, i, none⟩ = some (.bool (m.testBit i)) := (h.row.cellAt i (by omega)).trans (bl_get hi)
theorem ROwn.fz (h : ROwn w B R g c n m) (i : Nat) : w.frozen? ⟨g, i, none⟩ = false := h.row.frozenAt i
theorem ROwn.gB (h : ROwn w B R g c n m) : B ≤ g ∧ g < w.heap.size := h.row.lt g rfl
theorem ROwn.foot_lt (h : ROwn w B R g c n m) : ∀ b, RF R g b → b < w.heap.size := fun b hb => by
  rcases hb with rfl | rfl
  · exact lt_of_heap h.blk
  · exact h.gB.2
theorem ROwn.foot_le (h : ROwn w B R g c n m) : ∀ b, RF R g b → B ≤ b := fun b hb => by
  rcases hb with rfl | rfl
  · exact h.hR
  · exact h.gB.1
theorem ROwn.same {w' : World} (h : ROwn w B R g c n m) (hb : ∀ b, RF R g b → w'.heap[b]? = w.heap[b]?) : ROwn w' B R g c n m :=
  ⟨h.hR, (hb R (.inl rfl)).trans h.blk, owns_of_block h.row fun k hk => hb k (.inr (by simpa [Value.ownBlock] using hk.symm)), h.pos, h.le, h.lt⟩
theorem ROwn.below {w' : World} (h : ROwn w B R g c n m) (hb : Below w.heap.size w w') : ROwn w' B R g c n m := h.same fun b hF => hb.block b (h.foot_lt b hF)
theorem ROwn.ne (h : ROwn w B R g c n m) : g ≠ R := by
  rintro rfl
  rcases h.row.2 with ⟨h0, _⟩ | ⟨g', cap, cur, hv, _, hh, _⟩
  · cases h0
  · cases hv
    rw [h.blk] at hh
    cases hh
/-- A slot is set, or cleared. -/
theorem ROwn.store (h : ROwn w B R g c n m) {i k : Nat} {b : Bool} (hk : k < 2 ^ n) (hb : ∀ j, j < n → k.testBit j = if j = i then b else m.testBit j) : ROwn (w.setCell ⟨g, i, none⟩ (.bool b)) B R g c n k := by
  refine ⟨h.hR, (Below.heap_setCell w _ _ R (fun e => h.ne e.symm)).trans h.blk, ?_, h.pos, h.le, hk⟩
  have := (h.row.stored i (.bool b)).1
  rwa [bl_set hb] at this
end
/-- What an operation leaves. -/
def RLeft (w : World) (B R g c n k : Nat) (w' : World) : Prop := ROwn w' B R g c n k ∧ But (RF R g) w w'
theorem rvalid_none (w : World) : Calls Try.prog 45 #[.pointer none] w fun e w' => e = .returned (.bool false) ∧ w = w' := by
  go_enter Try.func45, Try.ntmps45
  go_wp2
  go_ret
  exact ⟨rfl, rfl⟩
section
variable {w : World} {B R g c n m : Nat}
theorem rvalid_any (h : ROwn w B R g c n m) : Calls Try.prog 45 #[.pointer (some ⟨R, 0, none⟩)] w fun e w' => e = .returned (.bool true) ∧ w = w' := by
  have c0 := h.c0
  have d1 : decide (0 < n) = true := by have := h.pos; simp; omega
  clear h
  go_enter Try.func45, Try.ntmps45
  go_wp2
  go_ret
  exact ⟨rfl, rfl⟩
theorem rsize_none (w : World) : Calls Try.prog 32 #[.pointer none] w fun e w' => e = .returned (.int .i64 0) ∧ w = w' := by
  go_enter Try.func32, Try.ntmps32
  go_wp2_with fail
  refine (rvalid_none _).mono ?_
  rintro e _ ⟨rfl, rfl⟩
  go_wp2_with fail
  go_ret
  exact ⟨rfl, rfl⟩
theorem rsize_any (h : ROwn w B R g c n m) : Calls Try.prog 32 #[.pointer (some ⟨R, 0, none⟩)] w fun e w' => e = .returned (.int .i64 (n : Nat)) ∧ w = w' := by
  have c0 := h.c0
  have gh := Lib.hid h
  clear h
  go_enter Try.func32, Try.ntmps32
  go_wp2_with fail
  refine (rvalid_any gh.out).mono ?_
  rintro e _ ⟨rfl, rfl⟩
  go_wp2_with fail
  go_ret
  exact ⟨rfl, rfl⟩
theorem rset_none (w : World) (i : Int) (b : Bool) : Calls Try.prog 41 #[.pointer none, .int .i64 i, .bool b] w fun e w' => e = .returned (.int .i64 1) ∧ w = w' := by
  go_enter Try.func41, Try.ntmps41
  go_wp2_with fail
  refine (rvalid_none _).mono ?_
  rintro e _ ⟨rfl, rfl⟩
  go_wp2_with fail
  go_ret
  exact ⟨rfl, rfl⟩
theorem rset_out (h : ROwn w B R g c n m) (i : Int) (hi : i < 0 ∨ (n : Int) ≤ i) (b : Bool) : Calls Try.prog 41 #[.pointer (some ⟨R, 0, none⟩), .int .i64 i, .bool b] w fun e w' => e = .returned (.int .i64 3) ∧ w = w' := by
  have c0 := h.c0
  have gh := Lib.hid h
  clear h
  rcases Int.lt_or_le i 0 with h0 | h0
  · have d1 : decide (i < 0) = true := by simpa using h0
    go_enter Try.func41, Try.ntmps41
    go_wp2_with fail
    refine (rvalid_any gh.out).mono ?_
    rintro e _ ⟨rfl, rfl⟩
    go_wp2_with fail
    go_ret
    exact ⟨rfl, rfl⟩
  · have d1 : decide (i < 0) = false := by simpa using h0
    have d2 : decide ((n : Int) ≤ i) = true := by simp; omega
    clear hi h0
    go_enter Try.func41, Try.ntmps41
    go_wp2_with fail
    refine (rvalid_any gh.out).mono ?_
    rintro e _ ⟨rfl, rfl⟩
    go_wp2_with fail
    go_ret
    exact ⟨rfl, rfl⟩
theorem rset_in (h : ROwn w B R g c n m) (i k : Nat) (hi : i < n) (b : Bool) (hk : k < 2 ^ n) (hb : ∀ j, j < n → k.testBit j = if j = i then b else m.testBit j) :
    Calls Try.prog 41 #[.pointer (some ⟨R, 0, none⟩), .int .i64 (i : Nat), .bool b] w fun e w' => e = .returned (.int .i64 0) ∧ RLeft w B R g c n k w' := by
  have c0 := h.c0
  have ci := h.at hi
  have fi := h.fz i
  have gE := Lib.hid (show RLeft w B R g c n k (w.setCell ⟨g, i, none⟩ (.bool b)) from ⟨h.store hk hb, (But.refl _ w).setCell (.inl (.inr rfl)) _⟩)
  have gh := Lib.hid h
  have i0 : (0 : Int) ≤ (i : Int) := by omega
  have i1 : (i : Int) < (n : Int) := by omega
  have d0 : decide ((i : Int) < 0) = false := by simp
  have d1 : decide (n ≤ i) = false := by simp; omega
  have d2 : decide ((n : Int) ≤ (i : Int)) = false := by simp; omega
  obtain ⟨u, hu⟩ : ∃ u, u = m.testBit i := ⟨_, rfl⟩
  rw [← hu] at ci
  clear h hk hb hi hu
  go_enter Try.func41, Try.ntmps41
  go_wp2_with fail
  refine (rvalid_any gh.out).mono ?_
  rintro e _ ⟨rfl, rfl⟩
  go_wp2_with fail
  go_ret
  exact ⟨rfl, gE.out⟩
theorem rhas_none (w : World) (i : Int) : Calls Try.prog 30 #[.pointer none, .int .i64 i] w fun e w' => e = .returned (.bool false) ∧ w = w' := by
  go_enter Try.func30, Try.ntmps30
  go_wp2_with fail
  refine (rvalid_none _).mono ?_
  rintro e _ ⟨rfl, rfl⟩
  go_wp2_with fail
  go_ret
  exact ⟨rfl, rfl⟩
theorem rhas_out (h : ROwn w B R g c n m) (i : Int) (hi : i < 0 ∨ (n : Int) ≤ i) : Calls Try.prog 30 #[.pointer (some ⟨R, 0, none⟩), .int .i64 i] w fun e w' => e = .returned (.bool false) ∧ w = w' := by
  have c0 := h.c0
  have gh := Lib.hid h
  clear h
  rcases Int.lt_or_le i 0 with h0 | h0
  · have d1 : decide ((0 : Int) ≤ i) = false := by simp; omega
    clear hi h0
    go_enter Try.func30, Try.ntmps30
    go_wp2_with fail
    refine (rvalid_any gh.out).mono ?_
    rintro e _ ⟨rfl, rfl⟩
    go_wp2_with fail
    go_ret
    exact ⟨rfl, rfl⟩
  · have d1 : decide ((0 : Int) ≤ i) = true := by simpa using h0
    have d2 : decide (i < (n : Int)) = false := by simp; omega
    clear hi h0
    go_enter Try.func30, Try.ntmps30
    go_wp2_with fail
    refine (rvalid_any gh.out).mono ?_
    rintro e _ ⟨rfl, rfl⟩
    go_wp2_with fail
    go_ret
    exact ⟨rfl, rfl⟩
theorem rhas_in (h : ROwn w B R g c n m) (i : Nat) (hi : i < n) : Calls Try.prog 30 #[.pointer (some ⟨R, 0, none⟩), .int .i64 (i : Nat)] w fun e w' => e = .returned (.bool (m.testBit i)) ∧ w = w' := by
  have c0 := h.c0
  have ci := h.at hi
  have gh := Lib.hid h
  have i0 : (0 : Int) ≤ (i : Int) := by omega
  have i1 : (i : Int) < (n : Int) := by omega
  have d0 : decide ((0 : Int) ≤ (i : Int)) = true := by simp
  have d1 : decide (i < n) = true := by simpa using hi
  have d2 : decide ((i : Int) < (n : Int)) = true := by simpa using hi
  obtain ⟨u, hu⟩ : ∃ u, u = m.testBit i := ⟨_, rfl⟩
  rw [← hu] at ci ⊢
  clear h hi hu
  go_enter Try.func30, Try.ntmps30
  go_wp2_with fail
  refine (rvalid_any gh.out).mono ?_
  rintro e _ ⟨rfl, rfl⟩
  go_wp2_with fail
  go_ret
  exact ⟨rfl, rfl⟩
end
theorem rnew_bad (k : Int) (w : World) (h : k < 1 ∨ 34 < k) : Calls Try.prog 14 #[.int .i64 k] w fun e w' => e = .returned (.tuple #[.pointer none, .int .i64 2]) ∧ w = w' := by
  rcases h with h | h
  · go_enter Try.func14, Try.ntmps14
    go_wp2
    go_ret2
    exact ⟨rfl, rfl⟩
  · have h2 : ¬ (k < 1) := by omega
    go_enter Try.func14, Try.ntmps14
    go_wp2
    go_ret2
    exact ⟨rfl, rfl⟩
theorem bools_bl (n m : Nat) : bools n m = (bl n m).toArray := rfl
theorem rnew_any (n : Nat) (w : World) (h1 : 1 ≤ n) (h : n ≤ 34) : Calls Try.prog 14 #[.int .i64 (n : Nat)] w fun e w' => e = .returned (.tuple #[.pointer (some ⟨w.heap.size + 1, 0, none⟩), .int .i64 0]) ∧ Hid (ROwn w' w.heap.size (w.heap.size + 1) w.heap.size n n 0 ∧ Below w.heap.size w w') := by
  have i1 : (1 : Int) ≤ (n : Int) := by omega
  have i2 : (n : Int) ≤ 34 := by omega
  have hmk := make_bools n (by omega)
  rw [bools_zero] at hmk
  have gE := Lib.hid (show ROwn ((w.alloc (.cells (bools n 0) 4)).alloc (.cells #[rv w.heap.size n n] 67)) w.heap.size (w.heap.size + 1) w.heap.size n n 0 ∧ Below w.heap.size w ((w.alloc (.cells (bools n 0) 4)).alloc (.cells #[rv w.heap.size n n] 67)) from by
    refine ⟨⟨by omega, ?_, ?_, h1, h, Nat.pow_pos (by decide)⟩, ((Below.refl _ w).alloc (Nat.le_refl _) _).alloc (by simp) _⟩
    · have := World.alloc_heap_new (w.alloc (.cells (bools n 0) 4)) (.cells #[rv w.heap.size n n] 67)
      rwa [World.size_alloc] at this
    · refine ⟨by simp [bl], .inr ⟨w.heap.size, n, bools n 0, rfl, Nat.le_refl _, ?_, Nat.le_refl _, by unfold maxLen; omega, by simp [bools], by unfold bools; rw [Nat.mul_one]; exact List.take_of_length_le (by simp)⟩⟩
      exact (Below.heap_alloc _ _ _ (by simp)).trans (World.alloc_heap_new w _))
  go_enter Try.func14, Try.ntmps14
  go_wp2_with fail
  go_ret2
  exact ⟨rfl, gE.out⟩
end Go.Proofs.Ytpdipcgchhibeaa
