/- Contracts of Common and Order, the program's and the specification's. -/
import Derived.Test.YtipammomoeklnaaDoorBase
import Derived.Test.YtipammomoeklnaaDoorShelf
import Derived.Deep.QuietTactic
import Derived.BigQuiet
namespace Go.Proofs.YtipammomoeklnaaDoor
open Go.RowKit Go.PlainAid

/-- The first j bytes are the same. -/
def Same (a b : ByteArray) (j : Nat) : Prop := j ≤ a.size ∧ j ≤ b.size ∧ (bts a).take j = (bts b).take j
theorem same_zero (a b : ByteArray) : Same a b 0 := ⟨Nat.zero_le _, Nat.zero_le _, rfl⟩
theorem take_next (L : List Int) (j : Nat) (h : j < L.length) : L.take (j + 1) = L.take j ++ [L.getD j 0] := by
  rw [List.take_succ_eq_append_getElem h, List.getD, List.getElem?_eq_getElem h]; rfl
theorem same_succ {a b : ByteArray} {j : Nat} (h : Same a b j) (h1 : j < a.size) (h2 : j < b.size) (h3 : bt a j = bt b j) : Same a b (j + 1) :=
  ⟨h1, h2, by rw [take_next _ _ (by rw [bts_length]; exact h1), take_next _ _ (by rw [bts_length]; exact h2), h.2.2, bts_getD, bts_getD, h3]⟩
theorem same_end {a b : ByteArray} {j : Nat} (h : Same a b j) (h1 : j = a.size ∨ j = b.size ∨ bt a j ≠ bt b j) : cmn (bts a) (bts b) = j :=
  cmn_is _ _ j (by rw [bts_length]; exact h.1) (by rw [bts_length]; exact h.2.1) h.2.2 (by rw [bts_length, bts_length, bts_getD, bts_getD]; exact h1)

theorem draws_more {w v : World} (h : ∃ k, v = w.drewN k) (n : Nat) : ∃ k, v.drewN n = w.drewN k := by
  obtain ⟨k, rfl⟩ := h
  exact ⟨k + n, by rw [World.drewN_drewN]⟩
theorem below_draws {w v : World} (h : ∃ k, v = w.drewN k) : Below w.heap.size w v := by
  obtain ⟨k, rfl⟩ := h
  exact below_drewN (Below.refl _ _) _
set_option maxHeartbeats 1000000 in
theorem common_draws (a b : ByteArray) (w : World) (ha : a.size ≤ 140737488355328) (_hb : b.size ≤ 140737488355328) : Calls Tryd.prog 18 #[.string a, .string b] w fun e w' => e = .returned (.int .i64 (cmn (bts a) (bts b))) ∧ ∃ k, w' = w.drewN k := by
  obtain ⟨v, hv⟩ : ∃ v, v = cmn (bts a) (bts b) := ⟨_, rfl⟩
  have gv := Lib.hid hv
  rw [← hv]
  clear hv
  have hga := get_bt a
  have hgb := get_bt b
  go_enter Tryd.func18, Tryd.ntmps18
  go_wp2
  go_loopw [5] (fun i wr => ∃ j : Nat, i = .int .i64 j ∧ j ≤ a.size ∧ Hid (Same a b j ∧ ∃ k, wr = w.drewN k)) (fun i _ => a.size - (intOf i).toNat)
  case atStart => exact ⟨0, rfl, Nat.zero_le _, same_zero a b, 0, rfl⟩
  case round =>
    obtain ⟨j, rfl, hj, gI⟩ := hrel
    have hj2 := gI.out.1.2.1
    by_cases h1 : j < a.size
    · have d1 : decide (j < a.size) = true := decide_eq_true h1
      by_cases h2 : j < b.size
      · have d2 : decide (j < b.size) = true := decide_eq_true h2
        by_cases h3 : bt a j = bt b j
        · have d3 : (bt a j == bt b j) = true := beq_iff_eq.2 h3
          have gS := Lib.hid (same_succ gI.out.1 h1 h2 h3)
          clear h3
          go_wp2_with fail
          go_quiet (fail)
          go_wp2_with fail
          go_roundw
          case rel => exact ⟨j + 1, by go_num, by omega, gS.out, draws_more gI.out.2 _⟩
          case measure => simp [intOf]; omega
        · have d3 : (bt a j == bt b j) = false := beq_eq_false_iff_ne.2 h3
          have gS := Lib.hid (same_end gI.out.1 (.inr (.inr h3)))
          clear h3
          go_wp2_with fail
          go_quiet (fail)
          go_wp2_with fail
          go_ret
          exact ⟨ret_int (by rw [gv.out, gS.out]), draws_more gI.out.2 _⟩
      · have d2 : decide (j < b.size) = false := decide_eq_false h2
        have gS := Lib.hid (same_end gI.out.1 (.inr (.inl (by omega))))
        go_wp2_with fail
        go_quiet (fail)
        go_wp2_with fail
        go_ret
        exact ⟨ret_int (by rw [gv.out, gS.out]), draws_more gI.out.2 _⟩
    · have d1 : decide (j < a.size) = false := decide_eq_false h1
      have gS := Lib.hid (same_end gI.out.1 (.inl (by omega)))
      go_wp2_with fail
      go_quiet (fail)
      go_wp2_with fail
      go_ret
      exact ⟨ret_int (by rw [gv.out, gS.out]), draws_more gI.out.2 _⟩
theorem common_any (a b : ByteArray) (w : World) (ha : a.size ≤ 140737488355328) (hb : b.size ≤ 140737488355328) : Calls Tryd.prog 18 #[.string a, .string b] w fun e w' => e = .returned (.int .i64 (cmn (bts a) (bts b))) ∧ Below w.heap.size w w' :=
  (common_draws a b w ha hb).mono fun _ _ h => ⟨h.1, below_draws h.2⟩
theorem order_any (a b : ByteArray) (w : World) : Calls Tryd.prog 16 #[.string a, .string b] w fun e w' => e = .returned (.int .i64 (cmp (bts a) (bts b))) ∧ w = w' := by
  have e : cmp (bts a) (bts b) = Lib.compareBytes a.data.toList b.data.toList := (compareBytes_is _ _).symm
  rw [e]
  go_enter Tryd.func16, Tryd.ntmps16
  go_wp2_with (go_at_call 30; refine (Tryd.strings_Compare _ _ _).mono ?_; rintro e w' ⟨rfl, rfl⟩)
  go_ret
  exact ⟨rfl, rfl⟩

set_option maxHeartbeats 1000000 in
theorem rcommon_any (a b : ByteArray) (w : World) (ha : a.size ≤ 140737488355328) (_hb : b.size ≤ 140737488355328) : Calls Tryd.prog 19 #[.string a, .string b] w fun e w' => e = .returned (.int .i64 (cmn (bts a) (bts b))) ∧ Below w.heap.size w w' := by
  obtain ⟨v, hv⟩ : ∃ v, v = cmn (bts a) (bts b) := ⟨_, rfl⟩
  have gv := Lib.hid hv
  rw [← hv]
  clear hv
  have hga := get_bt a
  have hgb := get_bt b
  go_enter Tryd.func19, Tryd.ntmps19
  go_wp2
  go_loopw [5] (fun i wr => ∃ j : Nat, i = .int .i64 j ∧ j ≤ a.size ∧ Hid (Same a b j ∧ Below w.heap.size w wr)) (fun i _ => a.size - (intOf i).toNat)
  case atStart => exact ⟨0, rfl, Nat.zero_le _, same_zero a b, Below.refl _ _⟩
  case round =>
    obtain ⟨j, rfl, hj, gI⟩ := hrel
    have hj2 := gI.out.1.2.1
    by_cases h1 : j < a.size
    · have d1 : decide (j < a.size) = true := decide_eq_true h1
      by_cases h2 : j < b.size
      · have d2 : decide (j < b.size) = true := decide_eq_true h2
        by_cases h3 : bt a j = bt b j
        · have d3 : (bt a j == bt b j) = true := beq_iff_eq.2 h3
          have gS := Lib.hid (same_succ gI.out.1 h1 h2 h3)
          clear h3
          go_wp2_with fail
          go_quiet (fail)
          go_wp2_with fail
          go_roundw
          case rel => exact ⟨j + 1, by go_num, by omega, gS.out, below_drewN gI.out.2 _⟩
          case measure => simp [intOf]; omega
        · have d3 : (bt a j == bt b j) = false := beq_eq_false_iff_ne.2 h3
          have gS := Lib.hid (same_end gI.out.1 (.inr (.inr h3)))
          clear h3
          go_wp2_with fail
          go_quiet (fail)
          go_wp2_with fail
          go_ret
          exact ⟨ret_int (by rw [gv.out, gS.out]), below_drewN gI.out.2 _⟩
      · have d2 : decide (j < b.size) = false := decide_eq_false h2
        have gS := Lib.hid (same_end gI.out.1 (.inr (.inl (by omega))))
        go_wp2_with fail
        go_quiet (fail)
        go_wp2_with fail
        go_ret
        exact ⟨ret_int (by rw [gv.out, gS.out]), below_drewN gI.out.2 _⟩
    · have d1 : decide (j < a.size) = false := decide_eq_false h1
      have gS := Lib.hid (same_end gI.out.1 (.inl (by omega)))
      go_wp2_with fail
      go_quiet (fail)
      go_wp2_with fail
      go_ret
      exact ⟨ret_int (by rw [gv.out, gS.out]), below_drewN gI.out.2 _⟩

set_option maxHeartbeats 1000000 in
theorem rorder_any (a b : ByteArray) (w : World) (ha : a.size ≤ 140737488355328) (hb : b.size ≤ 140737488355328) : Calls Tryd.prog 17 #[.string a, .string b] w fun e w' => e = .returned (.int .i64 (cmp (bts a) (bts b))) ∧ Below w.heap.size w w' := by
  have hcm := rcommon_any a b w ha hb
  have hle := cmn_le (bts a) (bts b)
  have hv := cmp_cmn (bts a) (bts b)
  obtain ⟨j, hj⟩ : ∃ j, j = cmn (bts a) (bts b) := ⟨_, rfl⟩
  obtain ⟨v, hv2⟩ : ∃ v, v = cmp (bts a) (bts b) := ⟨_, rfl⟩
  rw [← hv2] at hv
  rw [bts_length, bts_length] at hle
  rw [← hj] at hcm hle hv
  rw [bts_length, bts_length, bts_getD, bts_getD] at hv
  rw [← hv2]
  clear hj hv2
  obtain ⟨l1, l2⟩ := hle
  have hga := get_bt a
  have hgb := get_bt b
  by_cases h1 : j = a.size
  · by_cases h2 : j = b.size
    · rw [if_pos ⟨h1, h2⟩] at hv
      subst hv
      have d1 : ((j : Int) == (a.size : Int)) = true := beq_iff_eq.2 (by omega)
      have d2 : ((j : Int) == (b.size : Int)) = true := beq_iff_eq.2 (by omega)
      clear h1 h2
      go_enter Tryd.func17, Tryd.ntmps17
      go_wp2_with (go_at_call 19; refine hcm.mono ?_; rintro e w' ⟨rfl, hB⟩)
      go_ret
      exact ⟨rfl, hB⟩
    · rw [if_neg (fun h => h2 h.2), if_pos (.inl h1)] at hv
      subst hv
      have d1 : ((j : Int) == (a.size : Int)) = true := beq_iff_eq.2 (by omega)
      have d2 : ((j : Int) == (b.size : Int)) = false := beq_eq_false_iff_ne.2 (by omega)
      clear h1 h2
      go_enter Tryd.func17, Tryd.ntmps17
      go_wp2_with (go_at_call 19; refine hcm.mono ?_; rintro e w' ⟨rfl, hB⟩)
      go_quiet (fail)
      go_wp2_with fail
      go_ret
      exact ⟨rfl, below_drewN hB _⟩
  · have d1 : ((j : Int) == (a.size : Int)) = false := beq_eq_false_iff_ne.2 (by omega)
    rw [if_neg (fun h => h1 h.1)] at hv
    by_cases h2 : j < b.size
    · have d2 : decide (j < b.size) = true := decide_eq_true h2
      have h3 : j < a.size := by omega
      by_cases h4 : bt a j < bt b j
      · rw [if_pos (.inr ⟨h2, h4⟩)] at hv
        subst hv
        clear h1
        go_enter Tryd.func17, Tryd.ntmps17
        go_wp2_with (go_at_call 19; refine hcm.mono ?_; rintro e w' ⟨rfl, hB⟩)
        go_quiet (fail)
        go_wp2_with fail
        go_ret
        exact ⟨rfl, below_drewN hB _⟩
      · rw [if_neg (fun h => h.elim h1 (fun h => h4 h.2))] at hv
        subst hv
        clear h1
        go_enter Tryd.func17, Tryd.ntmps17
        go_wp2_with (go_at_call 19; refine hcm.mono ?_; rintro e w' ⟨rfl, hB⟩)
        go_quiet (fail)
        go_wp2_with fail
        go_ret
        exact ⟨rfl, below_drewN hB _⟩
    · have d2 : decide (j < b.size) = false := decide_eq_false h2
      rw [if_neg (fun h => h.elim h1 (fun h => h2 h.1))] at hv
      subst hv
      clear h1
      go_enter Tryd.func17, Tryd.ntmps17
      go_wp2_with (go_at_call 19; refine hcm.mono ?_; rintro e w' ⟨rfl, hB⟩)
      go_quiet (fail)
      go_wp2_with fail
      go_ret
      exact ⟨rfl, below_drewN hB _⟩
end Go.Proofs.YtipammomoeklnaaDoor
