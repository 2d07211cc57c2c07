/- The reference's list of strings: what makes rows. -/
import Derived.Test.YtidkdidlndfbfaaRef
namespace Go.Proofs.Ytidkdidlndfbfaa.HS
open Go.RowKit
section
variable {w : World} {B Q lim mk : Nat} {v : Value} {l : List E}
theorem rat_in (h : ROwn w B Q lim mk v l) (i : Nat) (x : E) (hx : l[i]? = some x) : Calls Try.prog 48 #[.pointer (some ⟨Q, 0, none⟩), .int .i64 (i : Nat)] w fun e w' => e = .returned (.tuple #[.string x, .int .i64 0]) ∧ w = w' := by
  obtain ⟨A, c, rfl, _, hc, hcm, hs, _⟩ := owns_sl h.row
  have hi := (List.getElem?_eq_some_iff.1 hx).1
  obtain ⟨b, y, rfl, hy, hcell⟩ := hs.at hi
  obtain rfl : x = y := by rw [hx] at hy; exact Option.some.inj hy
  have c0 := h.c0
  have c1 := h.c1
  have i1 : (0 : Int) ≤ (i : Int) := by omega
  have i2 : (i : Int) < (l.length : Int) := by omega
  obtain ⟨m, hm⟩ : ∃ m, m = l.length := ⟨_, rfl⟩
  rw [← hm] at c1 hc hi i2
  replace hcell : w.cell? ⟨b, i, none⟩ = some (.string x) := hcell
  clear h hs hx hy hm
  go_enter Try.func48, Try.ntmps48
  go_wp2_with (go_at_call 46; refine (rvalid_any Q _ c0).mono ?_; rintro e w' ⟨rfl, rfl⟩)
  go_ret2
  exact ⟨rfl, rfl⟩
theorem rat_out (h : ROwn w B Q lim mk v l) (i : Int) (hi : i < 0 ∨ (l.length : Int) ≤ i) : Calls Try.prog 48 #[.pointer (some ⟨Q, 0, none⟩), .int .i64 i] w fun e w' => e = .returned (.tuple #[.string ⟨#[]⟩, .int .i64 3]) ∧ w = w' := by
  obtain ⟨A, c, rfl, _⟩ := owns_sl h.row
  have c0 := h.c0
  have c1 := h.c1
  obtain ⟨m, hm⟩ : ∃ m, m = l.length := ⟨_, rfl⟩
  rw [← hm] at c1 hi
  clear h hm
  rcases hi with hi | hi
  · go_enter Try.func48, Try.ntmps48
    go_wp2_with (go_at_call 46; refine (rvalid_any Q _ c0).mono ?_; rintro e w' ⟨rfl, rfl⟩)
    go_ret2
    exact ⟨rfl, rfl⟩
  · have h2 : ¬ (i < 0) := by omega
    go_enter Try.func48, Try.ntmps48
    go_wp2_with (go_at_call 46; refine (rvalid_any Q _ c0).mono ?_; rintro e w' ⟨rfl, rfl⟩)
    go_ret2
    exact ⟨rfl, rfl⟩
theorem rcut_out (h : ROwn w B Q lim mk v l) (i : Int) (hi : i < mk ∨ (l.length : Int) < i) : Calls Try.prog 18 #[.pointer (some ⟨Q, 0, none⟩), .int .i64 i] w fun e w' => e = .returned (.int .i64 3) ∧ w = w' := by
  obtain ⟨A, c, rfl, _⟩ := owns_sl h.row
  have c0 := h.c0
  have c1 := h.c1
  have c2 := h.c2
  obtain ⟨m, hm⟩ : ∃ m, m = l.length := ⟨_, rfl⟩
  rw [← hm] at c1 hi
  clear h hm
  by_cases h1 : i < (mk : Int)
  · clear hi
    go_enter Try.func18, Try.ntmps18
    go_wp2_with (go_at_call 46; refine (rvalid_any Q _ c0).mono ?_; rintro e w' ⟨rfl, rfl⟩)
    go_ret
    exact ⟨rfl, rfl⟩
  · have h2 : (m : Int) < i := by omega
    clear hi
    go_enter Try.func18, Try.ntmps18
    go_wp2_with (go_at_call 46; refine (rvalid_any Q _ c0).mono ?_; rintro e w' ⟨rfl, rfl⟩)
    go_ret
    exact ⟨rfl, rfl⟩
theorem rclear_any (h : ROwn w B Q lim mk v l) : Calls Try.prog 20 #[.pointer (some ⟨Q, 0, none⟩)] w fun e w' => e = .returned (.tuple #[]) ∧ Hid (ROwn w' B Q lim 0 (.slice none 0 0) [] ∧ Turn (Foot Q v) (Foot Q (.slice none 0 0)) w w') := by
  have c0 := h.c0
  have c1 := h.c1
  have f1 := h.fz 1
  obtain ⟨w2, hw2⟩ : ∃ w2, w2 = w.setCell ⟨Q, 1, none⟩ (.slice none 0 0) := ⟨_, rfl⟩
  have hb2 : w2.heap[Q]? = some (.cells #[.bool true, .slice none 0 0, .int .i64 (mk : Nat), .int .i64 (lim : Nat)] 82 (0, 0)) := by
    rw [hw2, heap_setCell_same w Q 1 _ _ _ h.blk]
    rfl
  have c2 := (cell_of_row w2 Q 2 _ _ (0, 0) hb2).trans (show _ = some (.int .i64 (mk : Nat)) from rfl)
  have f2 := frozen_of_row w2 Q 2 _ _ hb2
  have gE := Lib.hid (show ROwn (w2.setCell ⟨Q, 2, none⟩ (.int .i64 0)) B Q lim 0 (.slice none 0 0) [] ∧ Turn (Foot Q v) (Foot Q (.slice none 0 0)) w (w2.setCell ⟨Q, 2, none⟩ (.int .i64 0)) from by
    refine ⟨⟨h.hP, ?_, World.ownsRow_nil _ _ _ _, Nat.le_refl _, Nat.zero_le _, h.lim_le⟩, ?_, fun b hb => ?_⟩
    · rw [heap_setCell_same w2 Q 2 _ _ _ hb2]
      rfl
    · rw [hw2]
      exact ((But.refl _ w).setCell (.inl (.inl rfl)) _).setCell (.inl (.inl rfl)) _
    · rcases hb with rfl | hb
      · exact .inl (.inl rfl)
      · simp [Value.ownBlock] at hb)
  clear h hb2
  subst hw2
  go_enter Try.func20, Try.ntmps20
  go_wp2_with (go_at_call 46; refine (rvalid_any Q _ c0).mono ?_; rintro e w' ⟨rfl, rfl⟩)
  go_end0
  exact ⟨rfl, gE.out⟩
theorem rnew_bad (n : Int) (w : World) (h : n < 0 ∨ 100000 < n) : Calls Try.prog 12 #[.int .i64 n] w fun e w' => e = .returned (.tuple #[.pointer none, .int .i64 2]) ∧ w = w' := by
  rcases h with h | h
  · go_enter Try.func12, Try.ntmps12
    go_wp2
    go_ret2
    exact ⟨rfl, rfl⟩
  · have h2 : ¬ (n < 0) := by omega
    go_enter Try.func12, Try.ntmps12
    go_wp2
    go_ret2
    exact ⟨rfl, rfl⟩
theorem rnew_any (n : Nat) (w : World) (h : n ≤ 100000) : Calls Try.prog 12 #[.int .i64 (n : Nat)] w fun e w' => e = .returned (.tuple #[.pointer (some ⟨w.heap.size, 0, none⟩), .int .i64 0]) ∧ Hid (ROwn w' w.heap.size w.heap.size n 0 (.slice none 0 0) [] ∧ Below w.heap.size w w') := by
  have i1 : (0 : Int) ≤ (n : Int) := by omega
  have i2 : (n : Int) ≤ 100000 := by omega
  go_enter Try.func12, Try.ntmps12
  go_wp2_with fail
  go_ret2
  exact ⟨rfl, ⟨Nat.le_refl _, World.alloc_heap_new _ _, World.ownsRow_nil _ _ _ _, Nat.le_refl _, Nat.zero_le _, h⟩, (Below.refl _ w).alloc (Nat.le_refl _) _⟩
theorem radd_full (h : ROwn w B Q lim mk v l) (hl : l.length = lim) (x : E) : Calls Try.prog 14 #[.pointer (some ⟨Q, 0, none⟩), .string x] w fun e w' => e = .returned (.int .i64 4) ∧ Below w.heap.size w w' := by
  obtain ⟨A, c, rfl, _⟩ := owns_sl h.row
  have c0 := h.c0
  have c1 := h.c1
  have c3 := h.c3
  rw [hl] at c1
  clear h hl
  go_enter Try.func14, Try.ntmps14
  go_wp2_with (go_at_call 46; refine (rvalid_any Q _ c0).mono ?_; rintro e w' ⟨rfl, rfl⟩)
  go_region
  go_wp2_with fail
  go_ret
  exact ⟨rfl, (Below.refl _ _).drew⟩
set_option maxHeartbeats 1000000 in
theorem rall_any (h : ROwn w B Q lim mk v l) : Calls Try.prog 50 #[.pointer (some ⟨Q, 0, none⟩)] w fun e w' => ∃ v', e = .returned v' ∧ Hid (w'.ownsRow w.heap.size 9 1 v' l.length (vs l) ∧ Below w.heap.size w w') := by
  obtain ⟨A, c, rfl, hnil, hc, hcm, hs, _⟩ := owns_sl h.row
  have hb1 := (Below.refl w.heap.size w).alloc (Nat.le_refl _) (.cells #[] 9)
  have gh := Lib.hid h
  have gs := Lib.hid (hs.below hb1)
  have gnil := Lib.hid hnil
  have gb := Lib.hid hb1
  have c0 := h.c0
  have c1 := (h.below hb1).c1
  have hlim : l.length ≤ 100000 := Nat.le_trans h.le h.lim_le
  obtain ⟨m, hm⟩ : ∃ m, m = l.length := ⟨_, rfl⟩
  have gm := Lib.hid hm
  rw [← hm] at c1 gs gnil hlim
  clear h hs hb1 hnil hm hc hcm
  go_enter Try.func50, Try.ntmps50
  go_wp2_with (first
    | (go_at_call 46; refine (rvalid_any Q _ c0).mono ?_; rintro e w' ⟨rfl, rfl⟩)
    | (at_builtin
       refine list_app _ rfl (.tmp 6) (.tmp 10) rfl w.heap.size _ 0 (vs []) rfl (empty_owns w (Nat.le_refl _)) A m c l rfl gm.out.symm gs.out.news gnil.out (by omega) gb.out.size ?_
       intro v1 w1 hown1 hg1 hat1
       have gE := Lib.hid (show w1.ownsRow w.heap.size 9 1 v1 m (vs l) ∧ Below w.heap.size w w1 from ⟨by rw [Nat.zero_add] at hown1; exact hown1, gb.out.grown hg1 gb.out.size (fun k hk => by have e := Option.some.inj (show some w.heap.size = some k from hk); omega)⟩)
       clear hown1 hg1 hat1))
  go_ret
  obtain rfl := gm.out
  exact ⟨_, rfl, gE.out⟩
end
end Go.Proofs.Ytidkdidlndfbfaa.HS
