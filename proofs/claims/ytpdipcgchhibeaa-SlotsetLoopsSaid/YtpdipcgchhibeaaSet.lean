/- A set in memory; its operations without an iterator. -/
import Derived.Test.YtpdipcgchhibeaaBase
import Derived.Test.YtpdipcgchhibeaaBits
import Derived.Test.YtpdipcgchhibeaaShelf
import Derived.Lib.SliceRun
import Derived.RangeFuncBox
import Derived.ChangeAlike
namespace Go.Proofs.Ytpdipcgchhibeaa
open Go.RowKit

abbrev scells (P n m : Nat) : Array Value := #[.pointer (some ⟨P, 0, none⟩), .int .i64 (n : Nat), .int .u64 (m : Nat)]
/-- A valid set at block P: its size, the number of its slots. -/
structure SOwn (w : World) (P n m : Nat) : Prop where
  blk : w.heap[P]? = some (.cells (scells P n m) 50 (0, 0))
  pos : 1 ≤ n
  le : n ≤ 34
  lt : m < 2 ^ n
/-- A pointer to a set that is not valid. -/
def Bad (w : World) (p : Option Addr) : Prop := p = none ∨ ∃ P, p = some ⟨P, 0, none⟩ ∧ w.cell? ⟨P, 0, none⟩ = some (.pointer none)
theorem Bad.below {w w' : World} {p : Option Addr} (h : Bad w p) (hb : Below w.heap.size w w') : Bad w' p := by
  rcases h with h | ⟨P, rfl, h⟩
  · exact Or.inl h
  · exact Or.inr ⟨P, rfl, (hb.cell (lt_of_cell h)).trans h⟩
section
variable {w : World} {P n m : Nat}
theorem SOwn.c0 (h : SOwn w P n m) : w.cell? ⟨P, 0, none⟩ = some (.pointer (some ⟨P, 0, none⟩)) := (cell_of_row w P 0 _ _ (0, 0) h.blk).trans rfl
theorem SOwn.c1 (h : SOwn w P n m) : w.cell? ⟨P, 1, none⟩ = some (.int .i64 (n : Nat)) := (cell_of_row w P 1 _ _ (0, 0) h.blk).trans rfl
theorem SOwn.c2 (h : SOwn w P n m) : w.cell? ⟨P, 2, none⟩ = some (.int .u64 (m : Nat)) := (cell_of_row w P 2 _ _ (0, 0) h.blk).trans rfl
theorem SOwn.fz (h : SOwn w P n m) (i : Nat) : w.frozen? ⟨P, i, none⟩ = false := frozen_of_row w P i _ _ h.blk
theorem SOwn.blt (h : SOwn w P n m) : P < w.heap.size := lt_of_heap h.blk
theorem SOwn.m64 (h : SOwn w P n m) : m < 18446744073709551616 := lt_64 h.lt (Nat.le_trans h.le (by decide))
theorem SOwn.m34 (h : SOwn w P n m) : m < 17179869184 := Nat.lt_of_lt_of_le h.lt (Nat.le_trans (Nat.pow_le_pow_right (by decide) h.le) (by decide))
theorem SOwn.same {w' : World} (h : SOwn w P n m) (hb : w'.heap[P]? = w.heap[P]?) : SOwn w' P n m := ⟨hb.trans h.blk, h.pos, h.le, h.lt⟩
theorem SOwn.below {w' : World} (h : SOwn w P n m) (hb : Below w.heap.size w w') : SOwn w' P n m := h.same (hb.block P h.blt)
theorem SOwn.but {w' : World} {F : Nat → Prop} (h : SOwn w P n m) (hb : But F w w') (hF : ¬ F P) : SOwn w' P n m := h.same (hb.block P h.blt hF)
/-- What a change leaves: the number of the slots alone has turned. -/
theorem SOwn.set (h : SOwn w P n m) (k : Nat) (hk : k < 2 ^ n) : SOwn (w.setCell ⟨P, 2, none⟩ (.int .u64 (k : Nat))) P n k := by
  refine ⟨?_, h.pos, h.le, hk⟩
  rw [heap_setCell_same w P 2 _ _ _ h.blk]
  rfl
theorem SOwn.turn (w : World) (P : Nat) (u : Value) : But (fun b => b = P) w (w.setCell ⟨P, 2, none⟩ u) := (But.refl (fun b => b = P) w).setCell (.inl rfl) _
end
theorem infoS : ∃ i0, Try.prog.info? 50 = some i0 := Option.isSome_iff_exists.1 (by kernel_rfl)
theorem eql_self (a : Addr) (w : World) : (binOp .eql 27 (.pointer (some a)) (.pointer (some a))).run Try.prog w = .ok (.bool true) w := by
  obtain ⟨i0, hi⟩ := infoS
  exact run_eql_ptr_same w a Try.underlying27 hi
theorem eql_none (a : Addr) (w : World) : (binOp .eql 27 (.pointer none) (.pointer (some a))).run Try.prog w = .ok (.bool false) w := by
  have h : ∀ d : Nat, (Op.equalIn (d + 1) 27 (.pointer none) (.pointer (some a))).run Try.prog w = .ok false w := fun d => by
    simp [Op.equalIn, run_underlying Try.underlying27]
  simp only [binOp]
  simp [Op.equal, Op.maxDepth, h 9999]
theorem valid_bad (p : Option Addr) (w : World) (h : Bad w p) : Calls Try.prog 44 #[.pointer p] w fun e w' => e = .returned (.bool false) ∧ w = w' := by
  rcases h with rfl | ⟨P, rfl, hc⟩
  · go_enter Try.func44, Try.ntmps44
    go_wp2
    go_ret
    exact ⟨rfl, rfl⟩
  · have hq := eql_none ⟨P, 0, none⟩
    go_enter Try.func44, Try.ntmps44
    go_wp2
    go_ret
    exact ⟨rfl, rfl⟩
theorem valid_any (P : Nat) (w : World) (h : w.cell? ⟨P, 0, none⟩ = some (.pointer (some ⟨P, 0, none⟩))) : Calls Try.prog 44 #[.pointer (some ⟨P, 0, none⟩)] w fun e w' => e = .returned (.bool true) ∧ w = w' := by
  have hq := eql_self ⟨P, 0, none⟩
  go_enter Try.func44, Try.ntmps44
  go_wp2
  go_ret
  exact ⟨rfl, rfl⟩
theorem held_bad (p : Option Addr) (w : World) (h : Bad w p) : Calls Try.prog 48 #[.pointer p] w fun e w' => e = .returned (.int .u64 0) ∧ w = w' := by
  have g := Lib.hid h
  clear h
  go_enter Try.func48, Try.ntmps48
  go_wp2_with (go_at_call 44; refine (valid_bad _ _ g.out).mono ?_; rintro e w' ⟨rfl, rfl⟩)
  go_ret
  exact ⟨rfl, rfl⟩
theorem size_bad (p : Option Addr) (w : World) (h : Bad w p) : Calls Try.prog 31 #[.pointer p] w fun e w' => e = .returned (.int .i64 0) ∧ w = w' := by
  have g := Lib.hid h
  clear h
  go_enter Try.func31, Try.ntmps31
  go_wp2_with (go_at_call 44; refine (valid_bad _ _ g.out).mono ?_; rintro e w' ⟨rfl, rfl⟩)
  go_ret
  exact ⟨rfl, rfl⟩
theorem copy_bad (p : Option Addr) (w : World) (h : Bad w p) : Calls Try.prog 23 #[.pointer p] w fun e w' => e = .returned (.pointer none) ∧ w = w' := by
  have g := Lib.hid h
  clear h
  go_enter Try.func23, Try.ntmps23
  go_wp2_with (go_at_call 44; refine (valid_bad _ _ g.out).mono ?_; rintro e w' ⟨rfl, rfl⟩)
  go_ret
  exact ⟨rfl, rfl⟩
theorem check_bad (p : Option Addr) (i : Int) (w : World) (h : Bad w p) : Calls Try.prog 40 #[.pointer p, .int .i64 i] w fun e w' => e = .returned (.int .i64 1) ∧ w = w' := by
  have g := Lib.hid h
  clear h
  go_enter Try.func40, Try.ntmps40
  go_wp2_with (go_at_call 44; refine (valid_bad _ _ g.out).mono ?_; rintro e w' ⟨rfl, rfl⟩)
  go_ret
  exact ⟨rfl, rfl⟩
theorem add_bad (p : Option Addr) (i : Int) (w : World) (h : Bad w p) : Calls Try.prog 15 #[.pointer p, .int .i64 i] w fun e w' => e = .returned (.int .i64 1) ∧ w = w' := by
  have g := Lib.hid h
  clear h
  go_enter Try.func15, Try.ntmps15
  go_wp2_with (go_at_call 40; refine (check_bad _ _ _ g.out).mono ?_; rintro e w' ⟨rfl, rfl⟩)
  go_ret
  exact ⟨rfl, rfl⟩
theorem remove_bad (p : Option Addr) (i : Int) (w : World) (h : Bad w p) : Calls Try.prog 17 #[.pointer p, .int .i64 i] w fun e w' => e = .returned (.int .i64 1) ∧ w = w' := by
  have g := Lib.hid h
  clear h
  go_enter Try.func17, Try.ntmps17
  go_wp2_with (go_at_call 40; refine (check_bad _ _ _ g.out).mono ?_; rintro e w' ⟨rfl, rfl⟩)
  go_ret
  exact ⟨rfl, rfl⟩
theorem has_bad (p : Option Addr) (i : Int) (w : World) (h : Bad w p) : Calls Try.prog 29 #[.pointer p, .int .i64 i] w fun e w' => e = .returned (.bool false) ∧ w = w' := by
  have g := Lib.hid h
  clear h
  go_enter Try.func29, Try.ntmps29
  go_wp2_with (go_at_call 40; refine (check_bad _ _ _ g.out).mono ?_; rintro e w' ⟨rfl, rfl⟩)
  go_ret
  exact ⟨rfl, rfl⟩
theorem fits_bad1 (p q : Option Addr) (w : World) (h : Bad w p) : Calls Try.prog 42 #[.pointer p, .pointer q] w fun e w' => e = .returned (.int .i64 1) ∧ w = w' := by
  have g := Lib.hid h
  clear h
  go_enter Try.func42, Try.ntmps42
  go_wp2_with (go_at_call 44; refine (valid_bad _ _ g.out).mono ?_; rintro e w' ⟨rfl, rfl⟩)
  go_ret
  exact ⟨rfl, rfl⟩
theorem new_bad (k : Int) (w : World) (h : k < 1 ∨ 34 < k) : Calls Try.prog 13 #[.int .i64 k] w fun e w' => e = .returned (.tuple #[.pointer none, .int .i64 2]) ∧ w = w' := by
  rcases h with h | h
  · go_enter Try.func13, Try.ntmps13
    go_wp2
    go_ret2
    exact ⟨rfl, rfl⟩
  · have h2 : ¬ (k < 1) := by omega
    go_enter Try.func13, Try.ntmps13
    go_wp2
    go_ret2
    exact ⟨rfl, rfl⟩
theorem new_any (n : Nat) (w : World) (h1 : 1 ≤ n) (h : n ≤ 34) : Calls Try.prog 13 #[.int .i64 (n : Nat)] w fun e w' => e = .returned (.tuple #[.pointer (some ⟨w.heap.size, 0, none⟩), .int .i64 0]) ∧ Hid (SOwn w' w.heap.size n 0 ∧ Below w.heap.size w w') := by
  have i1 : (1 : Int) ≤ (n : Int) := by omega
  have i2 : (n : Int) ≤ 34 := by omega
  go_enter Try.func13, Try.ntmps13
  go_wp2_with fail
  go_ret2
  exact ⟨rfl, ⟨World.alloc_heap_new _ _, h1, h, Nat.pow_pos (by decide)⟩, (Below.refl _ w).alloc (Nat.le_refl _) _⟩
end Go.Proofs.Ytpdipcgchhibeaa
