/- Contracts of Fits and of the specification's Check and Fits. -/
import Derived.Test.YtipammomoeklnaaDoorChk
namespace Go.Proofs.YtipammomoeklnaaDoor
open Go.RowKit Go.PlainAid

set_option maxHeartbeats 1000000 in
theorem rcheck_any (s : ByteArray) (w : World) (hs : s.size ≤ 140737488355328) : Calls Tryd.prog 13 #[.string s] w fun e w' => e = .returned (.int .i64 (chkE (bts s))) ∧ w = w' := by
  have hg := get_bt s
  by_cases h0 : s.size = 0
  · have he := empty_of h0
    rw [chkE_empty h0]
    clear h0
    go_enter Tryd.func13, Tryd.ntmps13
    go_wp2
    go_ret
    exact ⟨rfl, rfl⟩
  · have he := not_empty_of (show 0 < s.size by omega)
    obtain ⟨v, hv⟩ : ∃ v, v = chkE (bts s) := ⟨_, rfl⟩
    have gv := Lib.hid hv
    rw [← hv]
    clear hv
    go_enter Tryd.func13, Tryd.ntmps13
    go_wp2
    go_loop [3] (fun i => ∃ p : Nat, p ≤ s.size ∧ i = .int .i64 p ∧ Hid (∀ i, i < p → kch (bt s i) = true)) (fun i => s.size - (intOf i).toNat)
    case atStart => exact ⟨0, Nat.zero_le _, rfl, fun i hi => absurd hi (Nat.not_lt_zero i)⟩
    case round =>
      obtain ⟨p, hp, rfl, gI⟩ := hrel
      by_cases hlt : p < s.size
      · have b1 := plc_kch (bt s p)
        have b2 := plc_bd (bt s p)
        cases hk : kch (bt s p) with
        | true =>
          rw [hk] at b1
          have b3 : 0 ≤ plc (bt s p) := by simpa using b1
          have gk := Lib.hid hk
          clear b1 hk
          go_wp2_with (go_at_call 29; refine (place_any _ _).mono ?_; rintro e w' ⟨rfl, rfl⟩)
          go_round
          case rel => exact ⟨p + 1, by omega, by go_num, fun i hi => by
            rcases (show i < p ∨ i = p by omega) with h | rfl
            · exact gI.out i h
            · exact gk.out⟩
          case measure => simp [intOf]; omega
        | false =>
          rw [hk] at b1
          have b3 : plc (bt s p) < 0 := by simpa using b1
          have g2 := Lib.hid (chkE_bad hlt hk)
          clear b1 hk
          go_wp2_with (go_at_call 29; refine (place_any _ _).mono ?_; rintro e w' ⟨rfl, rfl⟩)
          go_ret
          exact ⟨ret_int (by rw [gv.out, g2.out]), rfl⟩
      · obtain rfl : p = s.size := by omega
        have g2 := Lib.hid (chkE_all (by omega) gI.out)
        by_cases h32 : 32 < s.size
        · go_wp2_with fail
          go_ret
          exact ⟨ret_int (by rw [gv.out, g2.out, if_pos h32]), rfl⟩
        · go_wp2_with fail
          go_ret
          exact ⟨ret_int (by rw [gv.out, g2.out, if_neg h32]), rfl⟩

/-- The three ways of Fits. -/
inductive FitCase (L : List Int) (most : Int) : Prop
  | out (h : most < 1 ∨ 32 < most) (e : fitE L most = 2)
  | bad (h0 : 1 ≤ most) (h1 : most ≤ 32) (v : Int) (hv : chkE L = v) (hn : (v == 0) = false) (hn2 : (v != 0) = true) (e : fitE L most = v)
  | long (h0 : 1 ≤ most) (h1 : most ≤ 32) (hv : chkE L = 0) (hl : most < L.length) (e : fitE L most = 12)
  | good (h0 : 1 ≤ most) (h1 : most ≤ 32) (hv : chkE L = 0) (hl : (L.length : Int) ≤ most) (e : fitE L most = 0)
theorem fit_case (L : List Int) (most : Int) : FitCase L most := by
  by_cases h : most < 1 ∨ 32 < most
  · exact .out h (by unfold fitE; rw [if_pos h])
  · by_cases hv : chkE L = 0
    · by_cases hl : most < L.length
      · exact .long (by omega) (by omega) hv hl (by unfold fitE; rw [if_neg h, if_pos hv, if_pos hl])
      · exact .good (by omega) (by omega) hv (by omega) (by unfold fitE; rw [if_neg h, if_pos hv, if_neg hl])
    · exact .bad (by omega) (by omega) _ rfl (beq_eq_false_iff_ne.2 hv) (by simpa using hv) (by unfold fitE; rw [if_neg h, if_neg hv])

set_option maxHeartbeats 1000000 in
theorem fits_any (s : ByteArray) (most : Int) (w : World) (hs : s.size ≤ 140737488355328) : Calls Tryd.prog 14 #[.string s, .int .i64 most] w fun e w' => e = .returned (.int .i64 (fitE (bts s) most)) ∧ Below w.heap.size w w' := by
  rcases fit_case (bts s) most with ⟨h, e⟩ | ⟨h0, h1, v, hv, hn, hn2, e⟩ | ⟨h0, h1, hv, hl, e⟩ | ⟨h0, h1, hv, hl, e⟩
  · rw [e]
    clear e
    rcases h with h | h
    · go_enter Tryd.func14, Tryd.ntmps14
      go_wp2
      go_ret
      exact ⟨rfl, Below.refl _ _⟩
    · have h' : ¬ most < 1 := by omega
      go_enter Tryd.func14, Tryd.ntmps14
      go_wp2
      go_ret
      exact ⟨rfl, Below.refl _ _⟩
  · rw [e]
    have hc := check_any s w hs
    rw [hv] at hc
    clear e hv
    go_enter Tryd.func14, Tryd.ntmps14
    go_wp2_with (go_at_call 12; refine hc.mono ?_; rintro e w' ⟨rfl, hB⟩)
    go_ret
    exact ⟨rfl, hB⟩
  all_goals
    rw [e]
    rw [bts_length] at hl
    have hc := check_any s w hs
    rw [hv] at hc
    clear e hv
    go_enter Tryd.func14, Tryd.ntmps14
    go_wp2_with (go_at_call 12; refine hc.mono ?_; rintro e w' ⟨rfl, hB⟩)
    go_ret
    exact ⟨rfl, hB⟩

set_option maxHeartbeats 1000000 in
theorem rfits_any (s : ByteArray) (most : Int) (w : World) (hs : s.size ≤ 140737488355328) : Calls Tryd.prog 15 #[.string s, .int .i64 most] w fun e w' => e = .returned (.int .i64 (fitE (bts s) most)) ∧ w = w' := by
  rcases fit_case (bts s) most with ⟨h, e⟩ | ⟨h0, h1, v, hv, hn, hn2, e⟩ | ⟨h0, h1, hv, hl, e⟩ | ⟨h0, h1, hv, hl, e⟩
  · rw [e]
    clear e
    rcases h with h | h
    · go_enter Tryd.func15, Tryd.ntmps15
      go_wp2
      go_ret
      exact ⟨rfl, rfl⟩
    · have h' : ¬ most < 1 := by omega
      go_enter Tryd.func15, Tryd.ntmps15
      go_wp2
      go_ret
      exact ⟨rfl, rfl⟩
  · rw [e]
    have hc := rcheck_any s w hs
    rw [hv] at hc
    clear e hv
    go_enter Tryd.func15, Tryd.ntmps15
    go_wp2_with (go_at_call 13; refine hc.mono ?_; rintro e w' ⟨rfl, rfl⟩)
    go_ret
    exact ⟨rfl, rfl⟩
  all_goals
    rw [e]
    rw [bts_length] at hl
    have hc := rcheck_any s w hs
    rw [hv] at hc
    clear e hv
    go_enter Tryd.func15, Tryd.ntmps15
    go_wp2_with (go_at_call 13; refine hc.mono ?_; rintro e w' ⟨rfl, rfl⟩)
    go_ret
    exact ⟨rfl, rfl⟩
end Go.Proofs.YtipammomoeklnaaDoor
