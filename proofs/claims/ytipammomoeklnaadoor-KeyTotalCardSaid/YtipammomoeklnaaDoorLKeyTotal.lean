/- The walk of KeyTotal. -/
import Derived.Test.YtipammomoeklnaaDoorWorks
import Derived.Deep.RegionWith
import Derived.BigRegion
import Derived.Deep.RegionHeld3
namespace Go.Proofs.YtipammomoeklnaaDoor
open Go.RowKit Go.PlainAid
set_option maxRecDepth 100000 in
set_option maxHeartbeats 8000000 in
theorem total_core (a b c : ByteArray) (w : World) (htab : Pow w) (ha : a.size ≤ 200) (hb : b.size ≤ 200) (hc : c.size ≤ 200) :
    Calls Tryd.prog 7 #[.string a, .string b, .string c] w fun e w' => e = .returned (.bool true) ∧ Below w.heap.size w w' := by
  have c1 := fun w => order_any a b w
  have c2 := fun w => order_any b c w
  have c3 := fun w => order_any a c w
  have c4 := fun w => order_any b a w
  rw [cmp_neg (bts a) (bts b)] at c4
  have ht := cmp_trans (bts a) (bts b) (bts c)
  have hxe := cmp_eq (a := bts a) (b := bts b)
  have hcm := cmp_cmn (bts a) (bts b)
  have hle := cmn_le (bts a) (bts b)
  have htk := cmn_take (bts a) (bts b)
  have hne := cmn_ne (bts a) (bts b)
  have d1 := fun w => common_draws a b w (by omega) (by omega)
  have d2 := fun w => common_draws b a w (by omega) (by omega)
  rw [cmn_comm (bts b) (bts a)] at d2
  have bx := cmp_bd (bts a) (bts b)
  have bz := cmp_bd (bts b) (bts c)
  generalize cmp (bts a) (bts b) = x at c1 c4 ht hxe hcm bx
  generalize cmp (bts b) (bts c) = y at c2 ht bz
  generalize cmp (bts a) (bts c) = z at c3 ht
  generalize cmn (bts a) (bts b) = k at hcm hle htk hne d1 d2
  rw [bts_length, bts_length] at hcm hle hne
  rw [bts_getD, bts_getD] at hcm hne
  obtain ⟨l1, l2⟩ := hle
  have he : b.extract 0 k = a.extract 0 k := bts_inj (by rw [bts_extract, bts_extract, List.drop_zero, List.drop_zero, Nat.sub_zero, htk])
  have hxb : (x = 0 ∧ a = b) ∨ (x ≠ 0 ∧ (a.toList == b.toList) = false) := by
    by_cases h : x = 0
    · exact .inl ⟨h, bts_inj (hxe.1 h)⟩
    · exact .inr ⟨h, by rw [toList_beq]; exact decide_eq_false (fun e => h (hxe.2 (by rw [e])))⟩
  have hk : (x = 0 ∧ k = a.size ∧ k = b.size) ∨ (x = -1 ∧ k = a.size ∧ k ≠ b.size) ∨ (x = -1 ∧ k ≠ a.size ∧ k < a.size ∧ k < b.size ∧ k ≠ b.size ∧ bt a k < bt b k) ∨ (x = 1 ∧ k ≠ a.size ∧ k = b.size) ∨ (x = 1 ∧ k ≠ a.size ∧ k < a.size ∧ k < b.size ∧ k ≠ b.size ∧ ¬ bt a k < bt b k ∧ bt a k ≠ bt b k) := by
    by_cases h1 : k = a.size
    · by_cases h2 : k = b.size
      · rw [if_pos ⟨h1, h2⟩] at hcm; exact .inl ⟨hcm, h1, h2⟩
      · rw [if_neg (fun h => h2 h.2), if_pos (.inl h1)] at hcm; exact .inr (.inl ⟨hcm, h1, h2⟩)
    · rw [if_neg (fun h => h1 h.1)] at hcm
      by_cases h2 : k < b.size
      · by_cases h3 : bt a k < bt b k
        · rw [if_pos (.inr ⟨h2, h3⟩)] at hcm; exact .inr (.inr (.inl ⟨hcm, h1, by omega, h2, by omega, h3⟩))
        · rw [if_neg (fun h => h.elim h1 (fun h => h3 h.2))] at hcm; exact .inr (.inr (.inr (.inr ⟨hcm, h1, by omega, h2, by omega, h3, hne (by omega) h2⟩)))
      · rw [if_neg (fun h => h.elim h1 (fun h => h2 h.1))] at hcm; exact .inr (.inr (.inr (.inl ⟨hcm, h1, by omega⟩)))
  have hy : y = 1 ∨ (y ≤ 0 ∧ (x ≤ 0 → ¬ 0 < z) ∧ (x < 0 → ¬ 0 ≤ z)) := by
    rcases bz with h | h | h
    · exact .inr ⟨by omega, fun h1 => by have := (ht h1 (by omega)).1; omega, fun h1 => by have := (ht (by omega) (by omega)).2 h1; omega⟩
    · exact .inr ⟨by omega, fun h1 => by have := (ht h1 (by omega)).1; omega, fun h1 => by have := (ht (by omega) (by omega)).2 h1; omega⟩
    · exact .inl h
  have n1 : ¬ a.size < k := by omega
  have n2 : ¬ b.size < k := by omega
  clear ht hxe hcm htk hne bx bz
  have gc1 := Lib.hid c1
  have gc2 := Lib.hid c2
  have gc3 := Lib.hid c3
  have gc4 := Lib.hid c4
  clear c1 c2 c3 c4
  have gd1 := Lib.hid d1
  have gd2 := Lib.hid d2
  clear d1 d2
  rcases hk with ⟨rfl, e1, e2⟩ | ⟨rfl, e1, e2⟩ | ⟨rfl, e1, e2, e3, e4, e5⟩ | ⟨rfl, e1, e2⟩ | ⟨rfl, e1, e2, e3, e4, e5, e6⟩
  · -- equal
    obtain rfl : a = b := by rcases hxb with h | h; exact h.2; exact absurd rfl h.1
    have q1 : ((k : Int) == (a.size : Int)) = true := beq_iff_eq.2 (by omega)
    clear hxb e1 e2
    have h1 : y = 1 ∨ (y ≤ 0 ∧ ¬ 0 < z) := hy.imp id (fun h => ⟨h.1, h.2.1 (by omega)⟩)
    clear hy
    rcases h1 with rfl | ⟨y1, y2⟩
    all_goals
      go_enter Tryd.func7, Tryd.ntmps7
      go_wp2_with fail
      refine (gc1.out _).mono ?_
      rintro e _ ⟨rfl, rfl⟩
      go_wp2_with fail
      refine (gc2.out _).mono ?_
      rintro e _ ⟨rfl, rfl⟩
      go_wp2_with fail
      refine (gc3.out _).mono ?_
      rintro e _ ⟨rfl, rfl⟩
      go_wp2_with fail
      refine (gc4.out _).mono ?_
      rintro e _ ⟨rfl, rfl⟩
      go_wp2_with fail
      refine (gd1.out _).mono ?_
      rintro e W1 ⟨rfl, hq⟩
      have g1 := Lib.hid (below_draws hq)
      clear hq
      go_wp2_with fail
      go_quiet ((go_at_call 18; exact Calls.quiet_of (gd2.out _)))
      have g2 := Lib.hid (below_drewN g1.out nq)
      generalize W1.drewN nq = W2 at g2 ⊢
      clear g1
      go_wp2_with fail
      refine (works_any _ (htab.below g2.out)).mono ?_
      rintro e W3 ⟨rfl, hB⟩
      go_wp2_with fail
      go_ret
      exact ⟨rfl, bchain g2.out hB⟩
  · -- less, the first one ends
    have q0 : (a.toList == b.toList) = false := by rcases hxb with h | h; exact absurd h.1 (by omega); exact h.2
    have q1 : ((k : Int) == (a.size : Int)) = true := beq_iff_eq.2 (by omega)
    have q2 : ((k : Int) == (b.size : Int)) = false := beq_eq_false_iff_ne.2 (by omega)
    clear hxb e1 e2
    have h1 : y = 1 ∨ (y ≤ 0 ∧ ¬ 0 < z ∧ ¬ 0 ≤ z) := hy.imp id (fun h => ⟨h.1, h.2.1 (by omega), h.2.2 (by omega)⟩)
    clear hy
    rcases h1 with rfl | ⟨y1, y2, y3⟩
    all_goals
      go_enter Tryd.func7, Tryd.ntmps7
      go_wp2_with fail
      refine (gc1.out _).mono ?_
      rintro e _ ⟨rfl, rfl⟩
      go_wp2_with fail
      refine (gc2.out _).mono ?_
      rintro e _ ⟨rfl, rfl⟩
      go_wp2_with fail
      refine (gc3.out _).mono ?_
      rintro e _ ⟨rfl, rfl⟩
      go_wp2_with fail
      refine (gc4.out _).mono ?_
      rintro e _ ⟨rfl, rfl⟩
      go_wp2_with fail
      refine (gd1.out _).mono ?_
      rintro e W1 ⟨rfl, hq⟩
      have g1 := Lib.hid (below_draws hq)
      clear hq
      go_wp2_with fail
      go_quiet ((go_at_call 18; exact Calls.quiet_of (gd2.out _)))
      have g2 := Lib.hid (below_drewN g1.out nq)
      generalize W1.drewN nq = W2 at g2 ⊢
      clear g1
      go_wp2_with fail
      refine (works_any _ (htab.below g2.out)).mono ?_
      rintro e W3 ⟨rfl, hB⟩
      go_wp2_with fail
      go_ret
      exact ⟨rfl, bchain g2.out hB⟩
  · -- less, both go on
    have q0 : (a.toList == b.toList) = false := by rcases hxb with h | h; exact absurd h.1 (by omega); exact h.2
    have q1 : ((k : Int) == (a.size : Int)) = false := beq_eq_false_iff_ne.2 (by omega)
    have q2 : ((k : Int) == (b.size : Int)) = false := beq_eq_false_iff_ne.2 (by omega)
    have q3 : (bt a k == bt b k) = false := beq_eq_false_iff_ne.2 (by omega)
    have q4 : (bt a k != bt b k) = true := by rw [bne, q3]; rfl
    have hga := get_bt a
    have hgb := get_bt b
    have q5 : decide (bt a k < bt b k) = true := decide_eq_true e5
    clear hxb e1 e4
    have h1 : y = 1 ∨ (y ≤ 0 ∧ ¬ 0 < z ∧ ¬ 0 ≤ z) := hy.imp id (fun h => ⟨h.1, h.2.1 (by omega), h.2.2 (by omega)⟩)
    clear hy
    rcases h1 with rfl | ⟨y1, y2, y3⟩
    all_goals
      go_enter Tryd.func7, Tryd.ntmps7
      go_wp2_with fail
      refine (gc1.out _).mono ?_
      rintro e _ ⟨rfl, rfl⟩
      go_wp2_with fail
      refine (gc2.out _).mono ?_
      rintro e _ ⟨rfl, rfl⟩
      go_wp2_with fail
      refine (gc3.out _).mono ?_
      rintro e _ ⟨rfl, rfl⟩
      go_wp2_with fail
      refine (gc4.out _).mono ?_
      rintro e _ ⟨rfl, rfl⟩
      go_wp2_with fail
      refine (gd1.out _).mono ?_
      rintro e W1 ⟨rfl, hq⟩
      have g1 := Lib.hid (below_draws hq)
      clear hq
      go_wp2_with fail
      go_quiet ((go_at_call 18; exact Calls.quiet_of (gd2.out _)))
      have g2 := Lib.hid (below_drewN g1.out nq)
      generalize W1.drewN nq = W2 at g2 ⊢
      clear g1
      go_wp2_with fail
      have ht2 := Lib.hid (show Pow W2.drew from htab.below g2.out.drew)
      go_region_held3 (fun _ => True) (trivial) ((go_at_call 11; refine (works_any _ ht2.out).mono ?_; rintro e wE ⟨rfl, hE⟩))
      all_goals (go_wp2_with fail; go_ret; exact ⟨rfl, bchain g2.out.drew hE⟩)
  · -- greater, the second one ends
    have q0 : (a.toList == b.toList) = false := by rcases hxb with h | h; exact absurd h.1 (by omega); exact h.2
    have q1 : ((k : Int) == (a.size : Int)) = false := beq_eq_false_iff_ne.2 (by omega)
    have q2 : ((k : Int) == (b.size : Int)) = true := beq_iff_eq.2 (by omega)
    clear hxb hy e1 e2
    go_enter Tryd.func7, Tryd.ntmps7
    go_wp2_with fail
    refine (gc1.out _).mono ?_
    rintro e _ ⟨rfl, rfl⟩
    go_wp2_with fail
    refine (gc2.out _).mono ?_
    rintro e _ ⟨rfl, rfl⟩
    go_wp2_with fail
    refine (gc3.out _).mono ?_
    rintro e _ ⟨rfl, rfl⟩
    go_wp2_with fail
    refine (gc4.out _).mono ?_
    rintro e _ ⟨rfl, rfl⟩
    go_wp2_with fail
    refine (gd1.out _).mono ?_
    rintro e W1 ⟨rfl, hq⟩
    have g1 := Lib.hid (below_draws hq)
    clear hq
    go_wp2_with fail
    go_quiet ((go_at_call 18; exact Calls.quiet_of (gd2.out _)))
    have g2 := Lib.hid (below_drewN g1.out nq)
    generalize W1.drewN nq = W2 at g2 ⊢
    clear g1
    go_wp2_with fail
    refine (works_any _ (htab.below g2.out)).mono ?_
    rintro e W3 ⟨rfl, hB⟩
    go_wp2_with fail
    go_ret
    exact ⟨rfl, bchain g2.out hB⟩
  · -- greater, both go on
    have q0 : (a.toList == b.toList) = false := by rcases hxb with h | h; exact absurd h.1 (by omega); exact h.2
    have q1 : ((k : Int) == (a.size : Int)) = false := beq_eq_false_iff_ne.2 (by omega)
    have q2 : ((k : Int) == (b.size : Int)) = false := beq_eq_false_iff_ne.2 (by omega)
    have q3 : (bt a k == bt b k) = false := beq_eq_false_iff_ne.2 e6
    have q4 : (bt a k != bt b k) = true := by rw [bne, q3]; rfl
    have hga := get_bt a
    have hgb := get_bt b
    have q5 : decide (bt a k < bt b k) = false := decide_eq_false e5
    clear hxb hy e1 e4 e5 e6
    go_enter Tryd.func7, Tryd.ntmps7
    go_wp2_with fail
    refine (gc1.out _).mono ?_
    rintro e _ ⟨rfl, rfl⟩
    go_wp2_with fail
    refine (gc2.out _).mono ?_
    rintro e _ ⟨rfl, rfl⟩
    go_wp2_with fail
    refine (gc3.out _).mono ?_
    rintro e _ ⟨rfl, rfl⟩
    go_wp2_with fail
    refine (gc4.out _).mono ?_
    rintro e _ ⟨rfl, rfl⟩
    go_wp2_with fail
    refine (gd1.out _).mono ?_
    rintro e W1 ⟨rfl, hq⟩
    have g1 := Lib.hid (below_draws hq)
    clear hq
    go_wp2_with fail
    go_quiet ((go_at_call 18; exact Calls.quiet_of (gd2.out _)))
    have g2 := Lib.hid (below_drewN g1.out nq)
    generalize W1.drewN nq = W2 at g2 ⊢
    clear g1
    go_wp2_with fail
    have ht2 := Lib.hid (show Pow W2.drew from htab.below g2.out.drew)
    go_region_held3 (fun _ => True) (trivial) ((go_at_call 11; refine (works_any _ ht2.out).mono ?_; rintro e wE ⟨rfl, hE⟩))
    all_goals (go_wp2_with fail; go_ret; exact ⟨rfl, bchain g2.out.drew hE⟩)
set_option maxRecDepth 100000 in
set_option maxHeartbeats 2000000 in
theorem keyTotal_walk (a0 : ByteArray) (a1 : ByteArray) (a2 : ByteArray) (w : World) (htab : Pow w) (_w0 : a0.size ≤ maxLen) (_w1 : a1.size ≤ maxLen) (_w2 : a2.size ≤ maxLen) :
    Calls Tryd.prog 7 #[.string a0, .string a1, .string a2] w fun e w' => e = .returned (.bool true) ∧ Below w.heap.size w w' := by
  by_cases h0 : 200 < a0.size
  · go_enter Tryd.func7, Tryd.ntmps7
    go_wp2_with fail
    refine (works_any _ htab).mono ?_
    rintro e W ⟨rfl, hB⟩
    go_wp2_with fail
    go_ret
    exact ⟨rfl, hB⟩
  by_cases h1 : 200 < a1.size
  · go_enter Tryd.func7, Tryd.ntmps7
    go_wp2_with fail
    refine (works_any _ htab).mono ?_
    rintro e W ⟨rfl, hB⟩
    go_wp2_with fail
    go_ret
    exact ⟨rfl, hB⟩
  by_cases h2 : 200 < a2.size
  · go_enter Tryd.func7, Tryd.ntmps7
    go_wp2_with fail
    refine (works_any _ htab).mono ?_
    rintro e W ⟨rfl, hB⟩
    go_wp2_with fail
    go_ret
    exact ⟨rfl, hB⟩
  exact total_core a0 a1 a2 w htab (by omega) (by omega) (by omega)
end Go.Proofs.YtipammomoeklnaaDoor
