/- SlotsetNil: the walk. -/
import Derived.Test.YtpdipcgchhibeaaUse
namespace Go.Proofs.Ytpdipcgchhibeaa
open Go.RowKit
theorem set_one (n a : Nat) (w : World) (h1 : 1 ≤ n) (h34 : n ≤ 34) (ha : a < n) : Calls Try.prog 35 #[.int .i64 (n : Nat), .slice (some ⟨w.heap.size, 0, none⟩) 1 1] (w.alloc (.cells #[.int .i64 (a : Nat)] 3)) fun e w' => ∃ Q, e = .returned (.pointer (some ⟨Q, 0, none⟩)) ∧ Hid (w.heap.size ≤ Q ∧ SOwn w' Q n (2 ^ a) ∧ Below w.heap.size w w') := by
  refine (set_any n _ h1 h34 _ 1 [a] (sl_lits w [a]) (by intro i hi; simp at hi; omega) (by simp)).mono ?_
  rintro e w' ⟨rfl, h⟩
  have h2 := (alloc_below w (.cells (vs [a]).toArray 3)).size
  have e : addAll 0 [a] = 2 ^ a := by simp [addAll]
  exact ⟨_, rfl, h2, e ▸ h.out.1, (alloc_below w _).trans (h.out.2.mono h2)⟩
theorem found_zero (f : Int) : found 0 f = none := by
  unfold found
  rw [sl_zero]
  rfl
theorem next_bad (p : Option Addr) (f : Int) (w : World) (h : Bad w p) : Calls Try.prog 25 #[.pointer p, .int .i64 f] w fun e w' => e = .returned (.tuple #[.int .i64 0, .bool false]) ∧ Below w.heap.size w w' := by
  refine (next_any (gives_bad h) (by decide) f).mono ?_
  rintro e w' ⟨rfl, hb⟩
  refine ⟨?_, hb⟩
  unfold nxt nok
  rw [found_zero]
  rfl
theorem lowest_bad (p : Option Addr) (w : World) (h : Bad w p) : Calls Try.prog 27 #[.pointer p] w fun e w' => e = .returned (.tuple #[.int .i64 0, .bool false]) ∧ Below w.heap.size w w' := by
  refine (lowest_any (gives_bad h) (by decide)).mono ?_
  rintro e w' ⟨rfl, hb⟩
  refine ⟨?_, hb⟩
  unfold nxt nok
  rw [found_zero]
  rfl
theorem same_bad (p : Option Addr) (A : Option Addr) (c : Nat) (w : World) (h : Bad w p) : Calls Try.prog 33 #[.pointer p, .slice A 0 c] w fun e w' => e = .returned (.bool true) ∧ Below w.heap.size w w' :=
  same_any (l := []) (shows_bad h) (SL.nil _ _) sl_zero.symm
theorem two_more (w : World) (a b : Obj) : ∀ W, W = (w.alloc a).alloc b → W.heap[w.heap.size]? = some a ∧ W.heap[w.heap.size + 1]? = some b ∧ Below w.heap.size w W := by
  rintro W rfl
  refine ⟨?_, ?_, ((Below.refl _ w).alloc (Nat.le_refl _) _).alloc (by simp) _⟩
  · exact (Below.heap_alloc _ _ _ (by simp)).trans (World.alloc_heap_new w a)
  · have := World.alloc_heap_new (w.alloc a) b
    rwa [World.size_alloc] at this
/-- The pointers of SlotsetNil: nil, and one to a zero set. -/
def bads (Z k : Nat) : Option Addr := if k = 0 then none else some ⟨Z, 0, none⟩
theorem bads_bad {W : World} {Z k : Nat} (h : W.heap[Z]? = some (.cells #[.pointer none, .int .i64 0, .int .u64 0] 50 (0, 0))) : Bad W (bads Z k) := by
  unfold bads
  split
  · exact .inl rfl
  · exact .inr ⟨Z, rfl, (cell_of_row W Z 0 _ _ (0, 0) h).trans rfl⟩
theorem bads_cell {W : World} {L Z k : Nat} (h : W.heap[L]? = some (.cells #[.pointer none, .pointer (some ⟨Z, 0, none⟩)] 27 (0, 0))) (hk : k < 2) : W.cell? ⟨L, k, none⟩ = some (.pointer (bads Z k)) := by
  refine (cell_of_row W L k _ _ (0, 0) h).trans ?_
  rcases k with _ | _ | k
  · rfl
  · rfl
  · omega
set_option maxRecDepth 100000 in
set_option maxHeartbeats 8000000 in
theorem slotsetNil_walk (a0 : Int) (w : World) (_w0 : (Lit.int .i64 a0).wf = true) :
    Calls Try.prog 4 #[.int .i64 a0] w fun e w' => e = .returned (.bool true) ∧ Below w.heap.size w w' := by
  clear _w0
  go_enter Try.func4, Try.ntmps4
  go_wp2_with fail
  have c1 := Lib.hid (set_one 8 3 w (by decide) (by decide) (by decide))
  refine c1.out.mono ?_
  rintro e W1 ⟨G, rfl, g⟩
  have g1 : Hid (Hold w G 8 8 W1) := Lib.hid ⟨g.out.2.1, g.out.1, g.out.2.2⟩
  clear c1 g
  go_wp2_with fail
  obtain ⟨q1, q2, q3⟩ := two_more W1 (.cells #[.pointer none, .int .i64 0, .int .u64 0] 50) (.cells #[.pointer none, .pointer (some ⟨W1.heap.size, 0, none⟩)] 27) _ rfl
  obtain ⟨V, hV⟩ : ∃ V, V = (W1.alloc (.cells #[.pointer none, .int .i64 0, .int .u64 0] 50)).alloc (.cells #[.pointer none, .pointer (some ⟨W1.heap.size, 0, none⟩)] 27) := ⟨_, rfl⟩
  rw [← hV] at q1 q2 q3
  rw [← hV]
  obtain ⟨Z, hZ⟩ : ∃ Z, Z = W1.heap.size := ⟨_, rfl⟩
  rw [← hZ] at q1 q2
  rw [← hZ]
  have gZ := Lib.hid q1
  have gL := Lib.hid q2
  have g2 := Lib.hid (g1.out.below q3)
  clear q1 q2 q3 hV hZ g1
  go_loopw [6] (fun c wr => ∃ k : Nat, k ≤ 2 ∧ c = .int .i64 (k : Nat) ∧ Hid (Below V.heap.size V wr)) (fun c _ => 2 - (intOf c).toNat)
  case atStart => exact ⟨0, by omega, rfl, Below.refl _ _⟩
  case round =>
    obtain ⟨k, hk, rfl, gI⟩ := hrel
    by_cases hlt : k < 2
    · have gb := Lib.hid (show ∀ W', Below wr.heap.size wr W' → Bad W' (bads Z k) from fun W' hW => bads_bad ((hW.block Z (Nat.lt_of_lt_of_le (lt_of_heap gZ.out) gI.out.size)).trans ((gI.out.block Z (lt_of_heap gZ.out)).trans gZ.out)))
      have hc := bads_cell ((gI.out.block (Z + 1) (lt_of_heap gL.out)).trans gL.out) hlt
      have gG := Lib.hid (show ∀ W', Below wr.heap.size wr W' → SOwn W' G 8 8 from fun W' hW => (g2.out.set.below gI.out).below hW)
      obtain ⟨p, hp⟩ : ∃ p, p = bads Z k := ⟨_, rfl⟩
      rw [← hp] at gb hc
      clear hp
      go_wp2_with fail
      refine (next_bad p a0 wr (gb.out _ (Below.refl _ _))).mono ?_
      rintro e W2 ⟨rfl, hb2⟩
      have b2 := Lib.hid hb2
      clear hb2
      go_wp2_with fail
      refine (lowest_bad p W2 (gb.out _ b2.out)).mono ?_
      rintro e W3 ⟨rfl, hb3⟩
      have b3 := Lib.hid (b2.out.trans (hb3.mono b2.out.size))
      clear hb3 b2
      go_wp2_with fail
      refine (add_bad p a0 W3 (gb.out _ b3.out)).mono ?_
      rintro e _ ⟨rfl, rfl⟩
      go_wp2_with fail
      refine (remove_bad p a0 W3 (gb.out _ b3.out)).mono ?_
      rintro e _ ⟨rfl, rfl⟩
      go_wp2_with fail
      refine (has_bad p a0 W3 (gb.out _ b3.out)).mono ?_
      rintro e _ ⟨rfl, rfl⟩
      go_wp2_with fail
      refine (len_bad p W3 (gb.out _ b3.out)).mono ?_
      rintro e _ ⟨rfl, rfl⟩
      go_wp2_with fail
      refine (size_bad p W3 (gb.out _ b3.out)).mono ?_
      rintro e _ ⟨rfl, rfl⟩
      go_wp2_with fail
      refine (copy_bad p W3 (gb.out _ b3.out)).mono ?_
      rintro e _ ⟨rfl, rfl⟩
      go_wp2_with fail
      refine (same_bad p none 0 W3 (gb.out _ b3.out)).mono ?_
      rintro e W4 ⟨rfl, hb4⟩
      have b4 := Lib.hid (b3.out.trans (hb4.mono b3.out.size))
      clear hb4 b3
      go_wp2_with fail
      refine (union_bad1 p _ W4 (gb.out _ b4.out)).mono ?_
      rintro e _ ⟨rfl, rfl⟩
      go_wp2_with fail
      refine (union_bad2 (gG.out _ b4.out) p (gb.out _ b4.out)).mono ?_
      rintro e _ ⟨rfl, rfl⟩
      go_wp2_with fail
      refine (minus_bad1 p _ W4 (gb.out _ b4.out)).mono ?_
      rintro e _ ⟨rfl, rfl⟩
      go_wp2_with fail
      refine (minus_bad2 (gG.out _ b4.out) p (gb.out _ b4.out)).mono ?_
      rintro e _ ⟨rfl, rfl⟩
      have gN := Lib.hid (gI.out.trans (b4.out.mono gI.out.size))
      go_wp2_with fail
      go_roundw
      case rel => exact ⟨k + 1, by omega, by simp, gN.out⟩
      case measure => simp [intOf] <;> omega
    · obtain rfl : k = 2 := by omega
      have g3 := Lib.hid (g2.out.below gI.out)
      clear hlt
      go_wp2_with fail
      have c8 := Lib.hid (same_one g3.out.set (show sl 8 = [3] by decide))
      refine c8.out.mono ?_
      rintro e W8 ⟨rfl, hb⟩
      have k8 := Lib.hid (g3.out.below hb)
      clear hb c8 g3
      go_wp2_with fail
      refine (works_any _).mono ?_
      rintro e W9 ⟨rfl, hb⟩
      have gE := Lib.hid (k8.out.below hb).low
      clear k8 hb
      go_wp2_with fail
      go_ret
      exact ⟨rfl, gE.out⟩
end Go.Proofs.Ytpdipcgchhibeaa
