/- Contract of the specification's own decoder of decimal strings. -/
import Derived.Test.YtheecmkkhdjhhaaDoorRefDig
namespace Go.Proofs.YtheecmkkhdjhhaaDoor
open Go.RowKit Go.PlainAid

/-- The decoder's slots behind j digits. -/
def RD (s : ByteArray) (j : Nat) (x : Int) (b : Bool) : Prop :=
  (b = false ∧ x = dval s j ∧ dval s j < 18446744073709551616) ∨ (b = true ∧ 18446744073709551616 ≤ dval s j ∧ 0 ≤ x ∧ x < 18446744073709551616)
def RDRel (s : ByteArray) (n o i : Value) : Prop := ∃ j x b, j ≤ s.size ∧ i = .int .i64 (j : Int) ∧ n = .int .u64 x ∧ o = .bool b ∧ Digs s j ∧ RD s j x b

theorem wr64_nonneg (z : Int) : 0 ≤ IntKind.u64.wrap z := by rw [IntKind.wrap_u64]; omega
theorem wr64_lt (z : Int) : IntKind.u64.wrap z < 18446744073709551616 := by rw [IntKind.wrap_u64]; omega
theorem pd_no {s : ByteArray} (h : decOkS s = false) : pdE s = 8 ∧ pdV s = 0 := by
  have e2 : pdE s = 8 := by simp [pdE, h]
  exact ⟨e2, by rw [pdV, e2]; rfl⟩

set_option maxHeartbeats 1000000 in
theorem rparseDigits_any (s : ByteArray) (w : World) (hs : s.size ≤ 1000000) : Calls Tryd.prog 25 #[.string s] w fun e w' => e = .returned (.tuple #[.int .u64 (pdV s), .int .i64 (pdE s)]) ∧ w = w' := by
  have hg := get_bt s
  by_cases h0 : s.size = 0
  · have he := empty_of h0
    obtain ⟨e2, e1⟩ := pd_no (s := s) (by simp [decOkS, h0])
    rw [e1, e2]
    clear e1 e2 h0
    go_enter Tryd.func25, Tryd.ntmps25
    go_wp2
    go_ret2
    exact ⟨rfl, rfl⟩
  have he := not_empty_of (show 0 < s.size by omega)
  have hpos : 0 < s.size := by omega
  by_cases h1 : 1 < s.size ∧ bt s 0 = 48
  · obtain ⟨e2, e1⟩ := pd_no (s := s) (by simp [decOkS, h1.1, h1.2])
    rw [e1, e2]
    have h2 : (bt s 0 == 48) = true := by simp [h1.2]
    have h3 := h1.1
    clear h1 e1 e2 h0
    go_enter Tryd.func25, Tryd.ntmps25
    go_wp2
    go_ret2
    exact ⟨rfl, rfl⟩
  have hk : decOkS s = (List.range s.size).all fun i => dig (bt s i) := by
    unfold decOkS
    by_cases h : 1 < s.size
    · have : (bt s 0 == 48) = false := beq_eq_false_iff_ne.2 fun e => h1 ⟨h, e⟩
      simp [hpos, this]
    · simp [hpos, h]
  have Hk := Lib.hid hk
  clear hk
  have hor : (bt s 0 == 48) = false ∨ ((bt s 0 == 48) = true ∧ ¬ 1 < s.size) := by
    by_cases h : 1 < s.size
    · exact .inl (beq_eq_false_iff_ne.2 fun e => h1 ⟨h, e⟩)
    · cases hb : (bt s 0 == 48)
      · exact .inl rfl
      · exact .inr ⟨rfl, h⟩
  clear h1 h0
  rcases hor with h2 | ⟨h2, h3⟩
  all_goals (
    go_enter Tryd.func25, Tryd.ntmps25
    go_wp2
    go_loop [4, 5, 6] (fun n o i => RDRel s n o i) (fun _ _ i => s.size - (intOf i).toNat))
  all_goals first
    | (case atStart => exact ⟨0, 0, false, Nat.zero_le _, rfl, rfl, rfl, (fun i hi => absurd hi (by omega)), .inl ⟨rfl, rfl, by rw [dval_zero]; decide⟩⟩)
    | skip
  all_goals (
    obtain ⟨j, x, b, hj, rfl, rfl, rfl, hd, hx⟩ := hrel
    by_cases hlt : j < s.size)
  all_goals first
    | (have b1 := bt_nonneg s j
       have b2 := bt_le s j
       have hlt' : j < s.size := hlt
       by_cases k1 : bt s j < 48
       · obtain ⟨e2, e1⟩ := pd_no (Hk.out.trans (nodig_of (s := s) (i := j) (by simp [dig]; omega) hlt))
         have E := Lib.hid (And.intro e1 e2)
         clear e1 e2 hx
         go_wp2
         go_ret2
         exact ⟨by rw [E.out.1, E.out.2]; rfl, rfl⟩
       by_cases k2 : 57 < bt s j
       · obtain ⟨e2, e1⟩ := pd_no (Hk.out.trans (nodig_of (s := s) (i := j) (by simp [dig]; omega) hlt))
         have E := Lib.hid (And.intro e1 e2)
         clear e1 e2 hx
         go_wp2
         go_ret2
         exact ⟨by rw [E.out.1, E.out.2]; rfl, rfl⟩
       have b3 := dval_nonneg hd j (Nat.le_refl _)
       rcases hx with ⟨rfl, rfl, hx⟩ | ⟨rfl, hx, x0, x1⟩
       · by_cases hov : 10 * dval s j + (bt s j - 48) < 18446744073709551616
         · go_wp2
           go_round
           case rel => exact ⟨j + 1, _, _, by omega, by go_num, rfl, rfl, hd.succ (by simp [dig]; omega), by rw [RD, dval_succ]; exact .inl ⟨decide_eq_false (by omega), by omega, hov⟩⟩
           case measure => simp [intOf]; omega
         · go_wp2
           go_round
           case rel => exact ⟨j + 1, _, _, by omega, by go_num, rfl, rfl, hd.succ (by simp [dig]; omega), by rw [RD, dval_succ]; exact .inr ⟨decide_eq_true (by omega), by omega, wr64_nonneg _, wr64_lt _⟩⟩
           case measure => simp [intOf]; omega
       · go_wp2
         go_round
         case rel => exact ⟨j + 1, _, _, by omega, by go_num, rfl, rfl, hd.succ (by simp [dig]; omega), by rw [RD, dval_succ]; exact .inr ⟨rfl, by omega, wr64_nonneg _, wr64_lt _⟩⟩
         case measure => simp [intOf]; omega)
    | (obtain rfl : j = s.size := by omega
       have hyes := Hk.out.trans hd.all
       rcases hx with ⟨rfl, rfl, hx⟩ | ⟨rfl, hx, x0, x1⟩
       · obtain ⟨e2, e1⟩ := pd_of (dval s s.size) hyes rfl
         rw [if_pos hx] at e1 e2
         have E := Lib.hid (And.intro e1 e2)
         clear e1 e2 hyes hx
         go_wp2
         go_ret2
         exact ⟨by rw [E.out.1, E.out.2]; rfl, rfl⟩
       · obtain ⟨e2, e1⟩ := pd_of (dval s s.size) hyes rfl
         rw [if_neg (by omega)] at e1 e2
         have E := Lib.hid (And.intro e1 e2)
         clear e1 e2 hyes hx
         go_wp2
         go_ret2
         exact ⟨by rw [E.out.1, E.out.2]; rfl, rfl⟩)
end Go.Proofs.YtheecmkkhdjhhaaDoor
