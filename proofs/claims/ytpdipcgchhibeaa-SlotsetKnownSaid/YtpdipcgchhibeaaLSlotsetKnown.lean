/- SlotsetKnown: the walk. -/
import Derived.Test.YtpdipcgchhibeaaWorks
namespace Go.Proofs.Ytpdipcgchhibeaa
open Go.RowKit
theorem same_three {w : World} {P n m a b c : Nat} (h : SOwn w P n m) (e : sl m = [a, b, c]) : Calls Try.prog 33 #[.pointer (some ⟨P, 0, none⟩), .slice (some ⟨w.heap.size, 0, none⟩) 3 3] (w.alloc (.cells #[.int .i64 (a : Nat), .int .i64 (b : Nat), .int .i64 (c : Nat)] 3)) fun e w' => e = .returned (.bool true) ∧ Below w.heap.size w w' := by
  refine (same_any (l := [a, b, c]) (c := 3) ((shows_own h).below (alloc_below w _)) (sl_lits w [a, b, c]) e.symm).mono ?_
  rintro e w' ⟨rfl, hb⟩
  exact ⟨rfl, (alloc_below w _).trans (hb.mono (alloc_below w _).size)⟩
theorem set_three (n a b c : Nat) (w : World) (h1 : 1 ≤ n) (h34 : n ≤ 34) (ha : a < n) (hb : b < n) (hc : c < n) : Calls Try.prog 35 #[.int .i64 (n : Nat), .slice (some ⟨w.heap.size, 0, none⟩) 3 3] (w.alloc (.cells #[.int .i64 (a : Nat), .int .i64 (b : Nat), .int .i64 (c : Nat)] 3)) fun e w' => ∃ Q, e = .returned (.pointer (some ⟨Q, 0, none⟩)) ∧ Hid (w.heap.size ≤ Q ∧ SOwn w' Q n (2 ^ a ||| 2 ^ b ||| 2 ^ c) ∧ Below w.heap.size w w') := by
  refine (set_any n _ h1 h34 _ 3 [a, b, c] (sl_lits w [a, b, c]) (by intro i hi; simp at hi; omega) (by simp)).mono ?_
  rintro e w' ⟨rfl, h⟩
  have h2 := (alloc_below w (.cells (vs [a, b, c]).toArray 3)).size
  have e : addAll 0 [a, b, c] = 2 ^ a ||| 2 ^ b ||| 2 ^ c := by simp [addAll]
  exact ⟨_, rfl, h2, e ▸ h.out.1, (alloc_below w _).trans (h.out.2.mono h2)⟩
theorem sKnown : sl 8590065665 = [0, 17, 33] := by decide
set_option maxRecDepth 100000 in
set_option maxHeartbeats 4000000 in
theorem slotsetKnown_walk (w : World) : Calls Try.prog 11 #[] w fun e w' => e = .returned (.bool true) ∧ Below w.heap.size w w' := by
  go_enter Try.func11, Try.ntmps11
  go_wp2_with fail
  have c1 := Lib.hid (set_three 34 0 33 17 w (by decide) (by decide) (by decide) (by decide) (by decide))
  refine c1.out.mono ?_
  rintro e w1 ⟨P, rfl, g1⟩
  have h1 : Hold w P 34 8590065665 w1 := ⟨g1.out.2.1, g1.out.1, g1.out.2.2⟩
  clear g1 c1
  go_wp2_with fail
  refine (new_bad 0 _ (.inl (by decide))).mono ?_
  rintro e _ ⟨rfl, rfl⟩
  go_wp2_with fail
  refine (new_bad 35 _ (.inr (by decide))).mono ?_
  rintro e _ ⟨rfl, rfl⟩
  go_wp2_with fail
  refine (set_none 1 0 w1 (by decide) (by decide)).mono ?_
  rintro e w2 ⟨rfl, g2⟩
  obtain ⟨Q, hQ⟩ : ∃ Q, Q = w1.heap.size := ⟨_, rfl⟩
  have h2 := h1.below g2.out.2
  have k2 : Hold w Q 1 0 w2 := ⟨hQ ▸ g2.out.1, by rw [hQ]; exact h1.low.size, h2.low⟩
  have hne : P ≠ Q := by have := h1.lt; omega
  rw [← hQ]
  clear hQ g2 h1
  have gne := Lib.hid hne
  clear hne
  go_wp2_with fail
  have c3 := Lib.hid (same_three h2.set sKnown)
  refine c3.out.mono ?_
  rintro e w3 ⟨rfl, hb⟩
  have h3 := h2.below hb
  have k3 := k2.below hb
  clear h2 k2 hb c3
  go_wp2_with fail
  refine (add_out h3.set 34 (.inr (by decide))).mono ?_
  rintro e _ ⟨rfl, rfl⟩
  go_wp2_with fail
  refine (add_out h3.set (-1) (.inl (by decide))).mono ?_
  rintro e _ ⟨rfl, rfl⟩
  go_wp2_with fail
  refine (h_next h3 18).mono ?_
  rintro e w4 ⟨rfl, hb⟩
  have h4 := h3.below hb
  have k4 := k3.below hb
  rw [show nxt 8590065665 18 = 33 by decide, show nok 8590065665 18 = true by decide]
  clear h3 k3 hb
  go_wp2_with fail
  refine (h_next h4 34).mono ?_
  rintro e w5 ⟨rfl, hb⟩
  have h5 := h4.below hb
  have k5 := k4.below hb
  rw [show nxt 8590065665 34 = 0 by decide, show nok 8590065665 34 = false by decide]
  clear h4 k4 hb
  go_wp2_with fail
  refine (h_next h5 (-9223372036854775808)).mono ?_
  rintro e w6 ⟨rfl, hb⟩
  have h6 := h5.below hb
  have k6 := k5.below hb
  rw [show nxt 8590065665 (-9223372036854775808) = 0 by decide, show nok 8590065665 (-9223372036854775808) = true by decide]
  clear h5 k5 hb
  go_wp2_with fail
  refine (h_add k6 0 (by decide)).mono ?_
  rintro e w7 ⟨rfl, k7, hL⟩
  have k7' : Hold w Q 1 1 w7 := k7
  clear h6 k6 hL k7
  go_wp2_with fail
  refine (add_out k7'.set 1 (.inr (by decide))).mono ?_
  rintro e _ ⟨rfl, rfl⟩
  go_wp2_with fail
  have c8 := Lib.hid (same_one k7'.set s1)
  refine c8.out.mono ?_
  rintro e w8 ⟨rfl, hb⟩
  have k8 := k7'.below hb
  clear k7' hb c8
  go_wp2_with fail
  refine (works_any _).mono ?_
  rintro e w9 ⟨rfl, hb⟩
  have gE := Lib.hid (k8.below hb).low
  clear k8 hb
  go_wp2_with fail
  go_ret
  exact ⟨rfl, gE.out⟩
end Go.Proofs.Ytpdipcgchhibeaa
