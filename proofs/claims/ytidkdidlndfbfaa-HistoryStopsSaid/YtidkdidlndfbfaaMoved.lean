/- A move of a list of integers. -/
import Derived.Test.YtidkdidlndfbfaaHIHas
import Derived.Deep.Cut
namespace Go.Proofs.Ytidkdidlndfbfaa.HI
open Go.RowKit
/-- What a move leaves: the mark, the elements. -/
def mvd (most k n mk : Nat) (l : List E) : Nat × List E :=
  if k % 8 = 5 then (l.length, l) else if k % 8 = 6 then (mk, l.take (mk + n % (l.length - mk + 1))) else if k % 8 = 7 then (if n % 4 = 0 then (0, []) else (mk, l)) else if l.length < most then (mk, l ++ [(n : Int)]) else (mk, l)
theorem Left.after {w w1 w' : World} {B P lim mk : Nat} {v : Value} {l : List E} (hb : Below w.heap.size w w1) (h : Left w1 B P lim mk v l w') : Left w B P lim mk v l w' := by
  obtain ⟨v', h1, h2⟩ := h
  exact ⟨v', h1, (Turn.of_below hb).trans h2⟩
theorem Left.more {w w1 w' : World} {B P lim mk : Nat} {v : Value} {l : List E} (h : Left w B P lim mk v l w1) (hb : Below w1.heap.size w1 w') : Left w B P lim mk v l w' := by
  obtain ⟨v', h1, h2⟩ := h
  exact ⟨v', h1.below hb, h2.trans (Turn.of_below hb)⟩
section
variable {w : World} {B P lim mk : Nat} {v : Value} {l : List E}
/-- The receiver's box. -/
abbrev boxM (k n : Nat) : Obj := .cells #[.int .u8 (k : Nat), .int .u16 (n : Nat)] 51
theorem boxM_below (w : World) (k n : Nat) : Below w.heap.size w (w.alloc (.cells #[.int .u8 (k : Nat), .int .u16 (n : Nat)] 51)) := (Below.refl w.heap.size w).alloc (Nat.le_refl _) _
set_option maxRecDepth 100000 in
set_option maxHeartbeats 1000000 in
theorem moved_mark (h : HOwn w B P lim mk v l) (k n : Nat) (hk : k < 256) (h5 : k % 8 = 5) : Calls Try.prog 25 #[.agg #[.int .u8 (k : Nat), .int .u16 (n : Nat)], .pointer (some ⟨P, 0, none⟩), .int .i64 (lim : Nat)] w fun e w' => e = .returned (.bool true) ∧ Left w B P lim l.length v l w' := by
  have gB := Lib.hid (boxM_below w k n)
  have g := Lib.hid (h.below gB.out)
  have e6 : ((k : Nat) : Int) % 8 = 5 := by omega
  have hk2 : ((k : Nat) : Int) < 256 := by omega
  clear h h5 hk
  go_enter Try.func25, Try.ntmps25
  go_wp2_with fail
  refine (len_any g.out).mono ?_
  rintro e _ ⟨rfl, rfl⟩
  go_wp2_with fail
  refine (mark_any g.out).mono ?_
  rintro e w2 ⟨rfl, g2⟩
  go_wp2_with fail
  refine (marked_any g2.out.1).mono ?_
  rintro e _ ⟨rfl, rfl⟩
  go_wp2_with fail
  refine (len_any g2.out.1).mono ?_
  rintro e _ ⟨rfl, rfl⟩
  go_wp2_with fail
  go_ret
  exact ⟨rfl, Left.after gB.out ⟨v, g2.out⟩⟩
set_option maxRecDepth 100000 in
set_option maxHeartbeats 1000000 in
theorem moved_cut (h : HOwn w B P lim mk v l) (k n : Nat) (hk : k < 256) (hn : n < 65536) (h5 : k % 8 = 6) : Calls Try.prog 25 #[.agg #[.int .u8 (k : Nat), .int .u16 (n : Nat)], .pointer (some ⟨P, 0, none⟩), .int .i64 (lim : Nat)] w fun e w' => e = .returned (.bool true) ∧ Left w B P lim mk v (l.take (mk + n % (l.length - mk + 1))) w' := by
  have gB := Lib.hid (boxM_below w k n)
  have g := Lib.hid (h.below gB.out)
  have e6 : ((k : Nat) : Int) % 8 = 6 := by omega
  have hk2 : ((k : Nat) : Int) < 256 := by omega
  have hmk := h.mkle
  have hle := h.le
  have hlim := h.lim_le
  have hcut := Lib.hid (show n % (l.length - mk + 1) < l.length - mk + 1 from Nat.mod_lt _ (by omega))
  obtain ⟨t, ht⟩ : ∃ t, t = mk + n % (l.length - mk + 1) := ⟨_, rfl⟩
  have gt1 := Lib.hid (show mk ≤ t ∧ t ≤ l.length from by have := hcut.out; omega)
  have gt := Lib.hid ht
  rw [← ht]
  have glen := Lib.hid (show (l.take t).length = t from by rw [List.length_take]; have := gt1.out; omega)
  clear ht hcut
  clear h h5 hk
  go_enter Try.func25, Try.ntmps25
  go_wp2_with fail
  refine (len_any g.out).mono ?_
  rintro e _ ⟨rfl, rfl⟩
  go_wp2_with fail
  refine (marked_any g.out).mono ?_
  rintro e _ ⟨rfl, rfl⟩
  go_wp2_with fail
  refine (len_any g.out).mono ?_
  rintro e _ ⟨rfl, rfl⟩
  have d1 : decide (l.length < mk) = false := by simp; omega
  have gd := Lib.hid (show n < 65536 ∧ mk ≤ l.length ∧ l.length ≤ 100000 from ⟨hn, hmk, by omega⟩)
  have d6 : (0 : Int) ≤ (mk : Int) := by omega
  clear hn hmk hle hlim
  go_upto_region 10 with (fail)
  clear d1
  have w1 : wrap64 ((n : Nat) : Int) = (n : Nat) := by have := gd.out; unfold wrap64; omega
  obtain ⟨c, hc⟩ : ∃ c, c = l.length - mk + 1 := ⟨_, rfl⟩
  obtain ⟨d, hd⟩ : ∃ d, d = l.length - mk := ⟨_, rfl⟩
  have w2 : wrap64 ((l.length : Int) - (mk : Int)) = (d : Nat) := by have := gd.out; unfold wrap64; omega
  have w3 : wrap64 ((d : Int) + 1) = (c : Nat) := by have := gd.out; unfold wrap64; omega
  have hc0 : ¬ (c : Int) = 0 := by omega
  obtain ⟨r, hr⟩ : ∃ r, r = n % c := ⟨_, rfl⟩
  have ht : t = mk + r := by rw [gt.out, hr, hc]
  have w5 : wrap64 ((mk : Int) + (r : Nat)) = (t : Nat) := by have := gd.out; have := gt1.out; unfold wrap64; omega
  have w4 : Int.tmod ((n : Nat) : Int) ((c : Nat) : Int) = (r : Nat) := by rw [hr]; exact (Int.ofNat_tmod n c).symm
  clear hc hd hr ht
  go_wp2_with fail
  refine (cut_any g.out t gt1.out.1 gt1.out.2).mono ?_
  rintro e w2 ⟨rfl, g2⟩
  obtain ⟨v2, g3, g4⟩ := g2
  have gE := Lib.hid (Left.after gB.out ⟨v2, g3, g4⟩)
  have g5 := Lib.hid g3
  clear g3 g4
  go_wp2_with fail
  refine (len_any g5.out).mono ?_
  rintro e _ ⟨rfl, rfl⟩
  rw [glen.out]
  go_wp2_with fail
  refine (marked_any g5.out).mono ?_
  rintro e _ ⟨rfl, rfl⟩
  go_wp2_with fail
  go_ret
  exact ⟨rfl, gE.out⟩
set_option maxRecDepth 100000 in
set_option maxHeartbeats 1000000 in
theorem moved_clear (h : HOwn w B P lim mk v l) (k n : Nat) (hk : k < 256) (hn : n < 65536) (h5 : k % 8 = 7) (h4 : n % 4 = 0) : Calls Try.prog 25 #[.agg #[.int .u8 (k : Nat), .int .u16 (n : Nat)], .pointer (some ⟨P, 0, none⟩), .int .i64 (lim : Nat)] w fun e w' => e = .returned (.bool true) ∧ Left w B P lim 0 v [] w' := by
  have gB := Lib.hid (boxM_below w k n)
  have g := Lib.hid (h.below gB.out)
  have e6 : ((k : Nat) : Int) % 8 = 7 := by omega
  have e7 : ((n : Nat) : Int) % 4 = 0 := by omega
  have hk2 : ((k : Nat) : Int) < 256 := by omega
  have hn2 : ((n : Nat) : Int) < 65536 := by omega
  clear h h5 h4 hk hn
  go_enter Try.func25, Try.ntmps25
  go_wp2_with fail
  refine (len_any g.out).mono ?_
  rintro e _ ⟨rfl, rfl⟩
  go_wp2_with fail
  refine (clear_any g.out).mono ?_
  rintro e w2 ⟨rfl, g2⟩
  go_wp2_with fail
  refine (len_any g2.out.1).mono ?_
  rintro e _ ⟨rfl, rfl⟩
  go_wp2_with fail
  refine (marked_any g2.out.1).mono ?_
  rintro e _ ⟨rfl, rfl⟩
  go_wp2_with fail
  go_ret
  exact ⟨rfl, Left.after gB.out ⟨_, g2.out⟩⟩
set_option maxRecDepth 100000 in
set_option maxHeartbeats 1000000 in
theorem moved_none (h : HOwn w B P lim mk v l) (k n : Nat) (hk : k < 256) (hn : n < 65536) (h5 : k % 8 = 7) (h4 : n % 4 ≠ 0) : Calls Try.prog 25 #[.agg #[.int .u8 (k : Nat), .int .u16 (n : Nat)], .pointer (some ⟨P, 0, none⟩), .int .i64 (lim : Nat)] w fun e w' => e = .returned (.bool true) ∧ Left w B P lim mk v l w' := by
  have gB := Lib.hid (boxM_below w k n)
  have g := Lib.hid (h.below gB.out)
  have e6 : ((k : Nat) : Int) % 8 = 7 := by omega
  have e7 : (((n : Nat) : Int) % 4 == 0) = false := by simp; omega
  have hk2 : ((k : Nat) : Int) < 256 := by omega
  have hn2 : ((n : Nat) : Int) < 65536 := by omega
  have gh := Lib.hid h
  clear h h5 h4 hk hn
  go_enter Try.func25, Try.ntmps25
  go_wp2_with fail
  refine (len_any g.out).mono ?_
  rintro e _ ⟨rfl, rfl⟩
  go_wp2_with fail
  go_ret
  exact ⟨rfl, v, g.out, Turn.of_below gB.out⟩
set_option maxRecDepth 100000 in
set_option maxHeartbeats 1000000 in
theorem moved_add (h : HOwn w B P lim mk v l) (k n : Nat) (hk : k < 256) (hn : n < 65536) (h5 : k % 8 < 5) : Calls Try.prog 25 #[.agg #[.int .u8 (k : Nat), .int .u16 (n : Nat)], .pointer (some ⟨P, 0, none⟩), .int .i64 (lim : Nat)] w fun e w' => e = .returned (.bool true) ∧ Left w B P lim mk v (if l.length < lim then l ++ [(n : Int)] else l) w' := by
  have gB := Lib.hid (boxM_below w k n)
  have g := Lib.hid (h.below gB.out)
  have e5 : (((k : Nat) : Int) % 8 == 5) = false := by simp; omega
  have e6 : (((k : Nat) : Int) % 8 == 6) = false := by simp; omega
  have e7 : (((k : Nat) : Int) % 8 == 7) = false := by simp; omega
  have hk2 : ((k : Nat) : Int) < 256 := by omega
  have hn2 : ((n : Nat) : Int) < 65536 := by omega
  have hle := h.le
  clear h h5 hk hn
  by_cases hl : l.length < lim
  · have d1 : decide (lim ≤ l.length) = false := by simp; omega
    rw [if_pos hl]
    go_enter Try.func25, Try.ntmps25
    go_wp2_with fail
    refine (len_any g.out).mono ?_
    rintro e _ ⟨rfl, rfl⟩
    go_wp2_with fail
    refine (add_any g.out hl (n : Int)).mono ?_
    rintro e w2 ⟨rfl, g2⟩
    have gE := Lib.hid (Left.after gB.out g2)
    clear g2
    go_wp2_with fail
    go_ret
    exact ⟨rfl, gE.out⟩
  · have d1 : decide (lim ≤ l.length) = true := by simp; omega
    have hl2 : l.length = lim := by omega
    rw [if_neg hl]
    have gl := Lib.hid hl2
    clear hl2 hl
    go_enter Try.func25, Try.ntmps25
    go_wp2_with fail
    refine (len_any g.out).mono ?_
    rintro e _ ⟨rfl, rfl⟩
    go_wp2_with fail
    refine (add_full g.out gl.out (n : Int)).mono ?_
    rintro e w2 ⟨rfl, hb2⟩
    have gE := Lib.hid (show Left w B P lim mk v l w2 from Left.after gB.out ⟨v, g.out.below hb2, Turn.of_below hb2⟩)
    clear hb2
    go_wp2_with fail
    go_ret
    exact ⟨rfl, gE.out⟩
/-- A move of a valid list of so many elements at most. -/
theorem moved_any (h : HOwn w B P lim mk v l) (k n : Nat) (hk : k < 256) (hn : n < 65536) : Calls Try.prog 25 #[.agg #[.int .u8 (k : Nat), .int .u16 (n : Nat)], .pointer (some ⟨P, 0, none⟩), .int .i64 (lim : Nat)] w fun e w' => e = .returned (.bool true) ∧ Left w B P lim (mvd lim k n mk l).1 v (mvd lim k n mk l).2 w' := by
  unfold mvd
  by_cases h5 : k % 8 = 5
  · rw [if_pos h5]
    exact moved_mark h k n hk h5
  · rw [if_neg h5]
    by_cases h6 : k % 8 = 6
    · rw [if_pos h6]
      exact moved_cut h k n hk hn h6
    · rw [if_neg h6]
      by_cases h7 : k % 8 = 7
      · rw [if_pos h7]
        by_cases h4 : n % 4 = 0
        · rw [if_pos h4]
          exact moved_clear h k n hk hn h7 h4
        · rw [if_neg h4]
          exact moved_none h k n hk hn h7 h4
      · rw [if_neg h7]
        have h8 : k % 8 < 5 := by omega
        have := moved_add h k n hk hn h8
        by_cases hl : l.length < lim
        · rw [if_pos hl] at this ⊢
          exact this
        · rw [if_neg hl] at this ⊢
          exact this
theorem h_moved {w0 : World} (h : Has w0 P lim mk l w) (k n : Nat) (hk : k < 256) (hn : n < 65536) : Calls Try.prog 25 #[.agg #[.int .u8 (k : Nat), .int .u16 (n : Nat)], .pointer (some ⟨P, 0, none⟩), .int .i64 (lim : Nat)] w fun e w' => e = .returned (.bool true) ∧ Has w0 P lim (mvd lim k n mk l).1 (mvd lim k n mk l).2 w' := by
  obtain ⟨v, h1, h2⟩ := h
  exact (moved_any h1 k n hk hn).mono fun e w' h3 => ⟨h3.1, Has.left h1 h2 h3.2⟩
/-- What some moves leave. -/
def mvs (most : Nat) : List (Nat × Nat) → Nat × List E → Nat × List E
  | [], s => s
  | m :: ms, s => mvs most ms (mvd most m.1 m.2 s.1 s.2)
theorem mvs_snoc (most : Nat) (ms : List (Nat × Nat)) (m : Nat × Nat) (s : Nat × List E) : mvs most (ms ++ [m]) s = mvd most m.1 m.2 (mvs most ms s).1 (mvs most ms s).2 := by
  induction ms generalizing s with
  | nil => rfl
  | cons a t ih => exact ih _
end
end Go.Proofs.Ytidkdidlndfbfaa.HI
