/- One list, all of it made by the call: its operations. -/
import Derived.Test.YtidkdidlndfbfaaHSOps
import Derived.Test.YtidkdidlndfbfaaHSCopy
namespace Go.Proofs.Ytidkdidlndfbfaa.HS
open Go.RowKit
/-- A list made since w0; nothing that was there has turned. -/
def Has (w0 : World) (P lim mk : Nat) (l : List E) (w : World) : Prop := ∃ v, HOwn w w0.heap.size P lim mk v l ∧ Below w0.heap.size w0 w
section
variable {w0 w : World} {P lim mk : Nat} {l : List E}
theorem Has.below {w' : World} (h : Has w0 P lim mk l w) (hb : Below w.heap.size w w') : Has w0 P lim mk l w' := by
  obtain ⟨v, h1, h2⟩ := h
  exact ⟨v, h1.below hb, h2.trans (hb.mono h2.size)⟩
theorem Has.low (h : Has w0 P lim mk l w) : Below w0.heap.size w0 w := by
  obtain ⟨_, _, h2⟩ := h
  exact h2
theorem Has.bounds (h : Has w0 P lim mk l w) : mk ≤ l.length ∧ l.length ≤ lim ∧ lim ≤ 100000 := by
  obtain ⟨_, h1, _⟩ := h
  exact ⟨h1.mkle, h1.le, h1.lim_le⟩
theorem Has.left {v : Value} {m : Nat} {l' : List E} {w' : World} (h : HOwn w w0.heap.size P lim mk v l) (hb : Below w0.heap.size w0 w) (hl : Left w w0.heap.size P lim m v l' w') : Has w0 P lim m l' w' := by
  obtain ⟨v', h1, h2⟩ := hl
  exact ⟨v', h1, hb.trans (h2.below hb.size h.foot_le).1⟩
theorem h_new (n : Nat) (hn : n ≤ 100000) (hb : Below w0.heap.size w0 w) : Calls Try.prog 11 #[.int .i64 (n : Nat)] w fun e w' => e = .returned (.tuple #[.pointer (some ⟨w.heap.size, 0, none⟩), .int .i64 0]) ∧ Has w0 w.heap.size n 0 [] w' ∧ Below w.heap.size w w' := by
  refine (new_any n w hn).mono ?_
  rintro e w' ⟨rfl, h1, h2⟩
  refine ⟨rfl, ⟨_, ⟨hb.size, h1.blk, World.ownsRow_nil _ _ _ _, h1.mkle, h1.le, h1.lim_le⟩, hb.trans (h2.mono hb.size)⟩, h2⟩
theorem h_add (h : Has w0 P lim mk l w) (hl : l.length < lim) (x : E) : Calls Try.prog 13 #[.pointer (some ⟨P, 0, none⟩), (.string (x))] w fun e w' => e = .returned (.int .i64 0) ∧ Has w0 P lim mk (l ++ [x]) w' := by
  obtain ⟨v, h1, h2⟩ := h
  exact (add_any h1 hl x).mono fun e w' h3 => ⟨h3.1, Has.left h1 h2 h3.2⟩
theorem h_full (h : Has w0 P lim mk l w) (hl : l.length = lim) (x : E) : Calls Try.prog 13 #[.pointer (some ⟨P, 0, none⟩), (.string (x))] w fun e w' => e = .returned (.int .i64 4) ∧ Has w0 P lim mk l w' := by
  obtain ⟨v, h1, h2⟩ := h
  exact (add_full h1 hl x).mono fun e w' h3 => ⟨h3.1, Has.below ⟨v, h1, h2⟩ h3.2⟩
theorem h_mark (h : Has w0 P lim mk l w) : Calls Try.prog 15 #[.pointer (some ⟨P, 0, none⟩)] w fun e w' => e = .returned (.tuple #[]) ∧ Has w0 P lim l.length l w' := by
  obtain ⟨v, h1, h2⟩ := h
  exact (mark_any h1).mono fun e w' h3 => ⟨h3.1, Has.left h1 h2 ⟨v, h3.2.1, h3.2.2⟩⟩
theorem h_marked (h : Has w0 P lim mk l w) : Calls Try.prog 40 #[.pointer (some ⟨P, 0, none⟩)] w fun e w' => e = .returned (.int .i64 (mk : Nat)) ∧ w = w' := by
  obtain ⟨v, h1, h2⟩ := h
  exact marked_any h1
theorem h_len (h : Has w0 P lim mk l w) : Calls Try.prog 41 #[.pointer (some ⟨P, 0, none⟩)] w fun e w' => e = .returned (.int .i64 (l.length : Nat)) ∧ w = w' := by
  obtain ⟨v, h1, h2⟩ := h
  exact len_any h1
theorem h_clear (h : Has w0 P lim mk l w) : Calls Try.prog 19 #[.pointer (some ⟨P, 0, none⟩)] w fun e w' => e = .returned (.tuple #[]) ∧ Has w0 P lim 0 [] w' := by
  obtain ⟨v, h1, h2⟩ := h
  exact (clear_any h1).mono fun e w' h3 => ⟨h3.1, Has.left h1 h2 ⟨_, h3.2.1, h3.2.2⟩⟩
theorem h_cut (h : Has w0 P lim mk l w) (n : Nat) (h1 : mk ≤ n) (h2 : n ≤ l.length) : Calls Try.prog 17 #[.pointer (some ⟨P, 0, none⟩), .int .i64 (n : Nat)] w fun e w' => e = .returned (.int .i64 0) ∧ Has w0 P lim mk (l.take n) w' := by
  obtain ⟨v, h3, h4⟩ := h
  exact (cut_any h3 n h1 h2).mono fun e w' h5 => ⟨h5.1, Has.left h3 h4 h5.2⟩
theorem h_cut_out (h : Has w0 P lim mk l w) (i : Int) (hi : i < mk ∨ (l.length : Int) < i) : Calls Try.prog 17 #[.pointer (some ⟨P, 0, none⟩), .int .i64 i] w fun e w' => e = .returned (.int .i64 3) ∧ w = w' := by
  obtain ⟨v, h3, h4⟩ := h
  exact cut_out h3 i hi
theorem h_at (h : Has w0 P lim mk l w) (i : Nat) (x : E) (hx : l[i]? = some x) : Calls Try.prog 44 #[.pointer (some ⟨P, 0, none⟩), .int .i64 (i : Nat)] w fun e w' => e = .returned (.tuple #[(.string (x)), .int .i64 0]) ∧ Below w.heap.size w w' := by
  obtain ⟨v, h3, h4⟩ := h
  refine (at_in h3 i x hx).mono ?_
  rintro e w' ⟨rfl, q, rfl⟩
  exact ⟨rfl, rfl, rfl, rfl, Nat.le_refl _, fun _ _ => rfl⟩
theorem h_at_out (h : Has w0 P lim mk l w) (i : Int) (hi : i < 0 ∨ (l.length : Int) ≤ i) : Calls Try.prog 44 #[.pointer (some ⟨P, 0, none⟩), .int .i64 i] w fun e w' => e = .returned (.tuple #[(.string (⟨#[]⟩)), .int .i64 3]) ∧ w = w' := by
  obtain ⟨v, h3, h4⟩ := h
  exact at_out h3 i hi
end
/-- slices.Equal of slices that read as lists. -/
theorem lists_same {w : World} {A C : Option Addr} {n m c d : Nat} {xs ys : List E} (hx : SL w A n xs) (hy : SL w C m ys) (hn : n ≤ 9223372036854775807) (hm : m ≤ 9223372036854775807) : Calls Try.prog 42 #[.slice A n c, .slice C m d] w fun e w' => e = .returned (.bool (decide (xs = ys))) ∧ ∃ q, w' = w.drewN q := by
  by_cases hnm : n = m
  · subst hnm
    rcases Nat.eq_zero_or_pos n with h0 | hp
    · subst h0
      obtain rfl : xs = [] := List.eq_nil_of_length_eq_zero hx.1
      obtain rfl : ys = [] := List.eq_nil_of_length_eq_zero hy.1
      refine (Try.slices_Equal_string_empty A C c 0 d w (by omega)).mono ?_
      rintro e w' ⟨rfl, rfl⟩
      exact ⟨by simp, 0, rfl⟩
    · obtain ⟨b, rfl, h1⟩ := hx.2 hp
      obtain ⟨b', rfl, h2⟩ := hy.2 hp
      have ex : xs.take n = xs := List.take_of_length_le (by rw [hx.1]; exact Nat.le_refl _)
      have ey : ys.take n = ys := List.take_of_length_le (by rw [hy.1]; exact Nat.le_refl _)
      have k1 : ∀ j, j < xs.length → w.cell? ⟨b, 0 + j, none⟩ = some (.string (xs.getD j ⟨#[]⟩)) := fun j hj => by
        rw [Nat.zero_add, h1 j _ (List.getElem?_eq_getElem hj)]
        simp [ev, hj]
      have k2 : ∀ j, j < ys.length → w.cell? ⟨b', 0 + j, none⟩ = some (.string (ys.getD j ⟨#[]⟩)) := fun j hj => by
        rw [Nat.zero_add, h2 j _ (List.getElem?_eq_getElem hj)]
        simp [ev, hj]
      refine (Try.slices_Equal_string b 0 n c b' 0 n d xs ys w (by rw [hx.1]; exact Nat.le_refl _) (by rw [hy.1]; exact Nat.le_refl _) hn hm k1 k2).mono ?_
      rintro e w' ⟨rfl, q, rfl⟩
      rw [ex, ey]
      exact ⟨rfl, q, rfl⟩
  · have hne : xs ≠ ys := fun e => hnm (by rw [← hx.1, ← hy.1, e])
    refine (Try.slices_Equal_string_lens A C n c m d w hnm).mono ?_
    rintro e w' ⟨rfl, rfl⟩
    exact ⟨by simp [hne], 0, rfl⟩
theorem below_draws (w : World) (q : Nat) : Below w.heap.size w (w.drewN q) := ⟨rfl, rfl, rfl, Nat.le_refl _, fun _ _ => rfl⟩
theorem lists_equal {w : World} {A C : Option Addr} {n m c d : Nat} {xs ys : List E} (hx : SL w A n xs) (hy : SL w C m ys) (hn : n ≤ 9223372036854775807) (hm : m ≤ 9223372036854775807) : Calls Try.prog 42 #[.slice A n c, .slice C m d] w fun e w' => e = .returned (.bool (decide (xs = ys))) ∧ Below w.heap.size w w' :=
  (lists_same hx hy hn hm).mono fun e w' h => by
    obtain ⟨h1, q, rfl⟩ := h
    exact ⟨h1, below_draws w q⟩
/-- The same, in a region that draws: equal lists. -/
theorem equal_drawn {W : World} {A C : Option Addr} {n m c d : Nat} {xs : List E} (hx : SL W A n xs) (hy : SL W C m xs) (hn : n ≤ 9223372036854775807) (hm : m ≤ 9223372036854775807) (k : Nat) : Calls Try.prog 42 #[.slice A n c, .slice C m d] (W.drewN k) fun e w' => e = .returned (.bool true) ∧ ∃ q, w' = (W.drewN k).drewN q := by
  refine (lists_same (hx.below (below_draws W k)) (hy.below (below_draws W k)) hn hm).mono ?_
  rintro e w' ⟨rfl, q, rfl⟩
  exact ⟨by simp, q, rfl⟩
end Go.Proofs.Ytidkdidlndfbfaa.HS
