/- The walk of ValuePeriods. -/
import Derived.Test.YtfkkpgklciehoaaDoorWorks
import Derived.Test.YtfkkpgklciehoaaDoorMore
namespace Go.Proofs.YtfkkpgklciehoaaDoor
open Go.RowKit Go.PlainAid

set_option maxRecDepth 100000 in
set_option maxHeartbeats 2000000 in
theorem periods_none (a0 : ByteArray) (a1 : Int) (a2 : Int) (w : World) (htab : Pow w) (w0 : 600 < a0.size ∨ a0.size = 0) (v1 : 0 ≤ a1 ∧ a1 ≤ 65535) :
    Calls Tryd.prog 10 #[.string a0, .int .u16 a1, .int .u16 a2] w fun e w' => e = .returned (.bool true) ∧ Below w.heap.size w w' := by
  have q3 : IntKind.i64.wrap a1 = a1 := IntWalk.i64_in _ ⟨by omega, by omega⟩
  have q4 : IntKind.i64.wrap (1 + a1) = 1 + a1 := IntWalk.i64_in _ ⟨by omega, by omega⟩
  have r1 : repE ⟨#[]⟩ (1 + a1) = 2 := if_pos (.inr ⟨rfl, by omega⟩)
  have r2 : repS ⟨#[]⟩ (1 + a1) = ⟨#[]⟩ := by unfold repS; rw [r1]; rfl
  have g1 := Lib.hid (And.intro r1 r2)
  clear r1 r2
  rcases w0 with h | h
  · go_enter Tryd.func10, Tryd.ntmps10
    go_wp2_with fail
    refine (repeat_is _ _ (1 + a1) 2 (by decide) g1.out.2 g1.out.1 _).mono ?_
    rintro e W1 ⟨rfl, hB⟩
    have b1 := Lib.hid hB
    clear hB
    go_wp2_with fail
    refine (repeat_is _ ⟨#[]⟩ 0 0 (by decide) (by decide +kernel) (by decide +kernel) _).mono ?_
    rintro e W2 ⟨rfl, hB⟩
    have b2 := Lib.hid (bchain b1.out hB)
    clear hB
    go_wp2_with fail
    refine (works_any _ (htab.below b2.out)).mono ?_
    rintro e W9 ⟨rfl, hB⟩
    go_wp2_with fail
    go_ret
    exact ⟨rfl, bchain b2.out hB⟩
  · have he := empty_of h
    go_enter Tryd.func10, Tryd.ntmps10
    go_wp2_with fail
    refine (repeat_is _ _ (1 + a1) 2 (by decide) g1.out.2 g1.out.1 _).mono ?_
    rintro e W1 ⟨rfl, hB⟩
    have b1 := Lib.hid hB
    clear hB
    go_wp2_with fail
    refine (repeat_is _ ⟨#[]⟩ 0 0 (by decide) (by decide +kernel) (by decide +kernel) _).mono ?_
    rintro e W2 ⟨rfl, hB⟩
    have b2 := Lib.hid (bchain b1.out hB)
    clear hB
    go_wp2_with fail
    refine (works_any _ (htab.below b2.out)).mono ?_
    rintro e W9 ⟨rfl, hB⟩
    go_wp2_with fail
    go_ret
    exact ⟨rfl, bchain b2.out hB⟩

set_option maxRecDepth 100000 in
set_option maxHeartbeats 4000000 in
theorem valuePeriods_walk (a0 : ByteArray) (a1 : Int) (a2 : Int) (w : World) (htab : Pow w) (_w0 : a0.size ≤ maxLen) (w1 : (Lit.int .u16 a1).wf = true) (w2 : (Lit.int .u16 a2).wf = true) :
    Calls Tryd.prog 10 #[.string a0, .int .u16 a1, .int .u16 a2] w fun e w' => e = .returned (.bool true) ∧ Below w.heap.size w w' := by
  have v1 := bounds_u16 w1
  have v2 := bounds_u16 w2
  clear w1 w2
  by_cases h : 600 < a0.size ∨ a0.size = 0
  · exact periods_none a0 a1 a2 w htab h v1
  have hs : a0.size ≤ 600 := by omega
  have h0 : 0 < a0.size := by omega
  have he := not_empty_of h0
  clear h
  obtain ⟨k, hk⟩ : ∃ k : Nat, (k : Int) = a1 % 600 := ⟨(a1 % 600).toNat, by omega⟩
  obtain ⟨m, hm⟩ : ∃ m : Nat, (m : Int) = a2 % 600 := ⟨(a2 % 600).toNat, by omega⟩
  have q1 : a1.tmod 600 = k := by rw [Int.tmod_eq_emod_of_nonneg v1.1, hk]
  have q2 : a1 % 600 = k := hk.symm
  have p1 : a2.tmod 600 = m := by rw [Int.tmod_eq_emod_of_nonneg v2.1, hm]
  have p2 : a2 % 600 = m := hm.symm
  have k1 : k < 600 := by omega
  have m1 : m < 600 := by omega
  have q3 : IntKind.i64.wrap a1 = a1 := IntWalk.i64_in _ ⟨by omega, by omega⟩
  have q4 : IntKind.i64.wrap a2 = a2 := IntWalk.i64_in _ ⟨by omega, by omega⟩
  clear hk hm
  by_cases h5 : 512 < k
  · have r1 : repE a0 k = 12 := by unfold repE; rw [if_neg (by omega), if_pos (by omega)]
    have r2 : repS a0 k = ⟨#[]⟩ := by unfold repS; rw [r1]; rfl
    have g1 := Lib.hid (And.intro r1 r2)
    clear r1 r2
    go_enter Tryd.func10, Tryd.ntmps10
    go_wp2_with fail
    refine (repeat_is _ _ _ 12 (by omega) g1.out.2 g1.out.1 _).mono ?_
    rintro e W1 ⟨rfl, hB⟩
    have b1 := Lib.hid hB
    clear hB
    go_wp2_with fail
    refine (works_any _ (htab.below b1.out)).mono ?_
    rintro e W9 ⟨rfl, hB⟩
    go_wp2_with fail
    go_ret
    exact ⟨rfl, bchain b1.out hB⟩
  · obtain ⟨r, hr⟩ : ∃ r, r = min k m := ⟨_, rfl⟩
    have hri : min (k : Int) (m : Int) = (r : Int) := by omega
    have hrk : r ≤ k := by omega
    have rep : ∀ n : Nat, n ≤ 512 → repE a0 n = 0 ∧ repS a0 n = strOfNums (repL a0 n) := fun n hn => by
      have r1 : repE a0 n = 0 := by unfold repE; rw [if_neg (by omega), if_neg (by omega)]
      exact ⟨r1, by unfold repS; rw [if_pos r1]; rfl⟩
    have g1 := Lib.hid (rep k (by omega))
    have g2 := Lib.hid (rep r (by omega))
    have gt := rep_take a0 k r hrk
    have gb := fun i => rep_bt a0 k i
    have gz : (strOfNums (repL a0 k)).size = k := by rw [strOfNums_size, repL_length]
    obtain ⟨s, hsv⟩ : ∃ s, s = strOfNums (repL a0 k) := ⟨_, rfl⟩
    obtain ⟨t, htv⟩ : ∃ t, t = strOfNums (repL a0 r) := ⟨_, rfl⟩
    rw [← hsv] at g1 gt gb gz
    rw [← htv] at g2 gt
    have gB := Lib.hid gb
    have gT := Lib.hid gt
    have gs := get_bt s
    have ga := get_bt a0
    clear hr rep gb gt hsv htv
    go_enter Tryd.func10, Tryd.ntmps10
    go_wp2_with fail
    refine (repeat_is _ _ _ 0 (by omega) g1.out.2 g1.out.1 _).mono ?_
    rintro e W1 ⟨rfl, hB⟩
    have b1 := Lib.hid hB
    clear hB
    go_wp2_with fail
    go_loopw [14] (fun i wr => ∃ j : Nat, j ≤ k ∧ i = .int .i64 j ∧ Hid (Below w.heap.size w wr)) (fun i _ => k - (intOf i).toNat)
    case atStart => exact ⟨0, Nat.zero_le _, rfl, b1.out⟩
    case round =>
      obtain ⟨j, hj, rfl, hbl⟩ := hrel
      by_cases hlt : j < k
      · by_cases hin : j < a0.size
        · obtain ⟨z, hz⟩ : ∃ z, z = bt s j := ⟨_, rfl⟩
          have y1 : bt s j = z := hz.symm
          have y2 : bt a0 j = z := by rw [← y1, gB.out j hlt, Nat.mod_eq_of_lt hin]
          have y3 := gs j (by omega)
          have y4 := ga j hin
          rw [y1] at y3
          rw [y2] at y4
          have j0 : (0 : Int) ≤ (j : Int) := by omega
          have j1 : (j : Int) < (s.size : Int) := by omega
          have j2 : (j : Int) < (a0.size : Int) := by omega
          have j5 : decide (a0.size ≤ j) = false := decide_eq_false (by omega)
          clear hz
          go_wp2_with fail
          go_quiet (fail)
          go_wp2_with fail
          go_roundw
          case rel => exact ⟨j + 1, by omega, by go_num, below_drewN hbl.out _⟩
          case measure => simp [intOf]; omega
        · obtain ⟨d, hd⟩ : ∃ d, d = j - a0.size := ⟨_, rfl⟩
          have d1 : (j : Int) - (a0.size : Int) = (d : Int) := by omega
          have d2 : IntKind.i64.wrap ((j : Int) - (a0.size : Int)) = (d : Int) := by rw [d1]; exact IntWalk.i64_in _ ⟨by omega, by omega⟩
          have d3 : d < s.size := by omega
          obtain ⟨z, hz⟩ : ∃ z, z = bt s j := ⟨_, rfl⟩
          have y1 : bt s j = z := hz.symm
          have y2 : bt s d = z := by rw [← y1, gB.out j hlt, gB.out d (by omega), hd, mod_back j a0.size (by omega)]
          have y3 := gs j (by omega)
          have y4 := gs d d3
          rw [y1] at y3
          rw [y2] at y4
          have j0 : (0 : Int) ≤ (j : Int) := by omega
          have j1 : (j : Int) < (s.size : Int) := by omega
          have j2 : (a0.size : Int) ≤ (j : Int) := by omega
          have j5 : decide (j < a0.size) = false := decide_eq_false (by omega)
          have j3 : (0 : Int) ≤ (d : Int) := by omega
          have j4 : (d : Int) < (s.size : Int) := by omega
          clear hz hd
          go_wp2_with fail
          go_quiet (fail)
          go_wp2_with fail
          go_roundw
          case rel => exact ⟨j + 1, by omega, by go_num, below_drewN hbl.out _⟩
          case measure => simp [intOf]; omega
      · obtain rfl : j = k := by omega
        go_wp2_with fail
        refine (repeat_is _ _ _ 0 (by omega) g2.out.2 g2.out.1 _).mono ?_
        rintro e W2 ⟨rfl, hB⟩
        have b2 := Lib.hid (bchain hbl.out hB)
        clear hB
        have hT : (t.toList == (s.extract 0 r).toList) = true := by rw [gT.out]; simp
        go_wp2_with fail
        refine (works_any _ (htab.below b2.out)).mono ?_
        rintro e W9 ⟨rfl, hB⟩
        go_wp2_with fail
        go_ret
        exact ⟨rfl, bchain b2.out hB⟩
end Go.Proofs.YtfkkpgklciehoaaDoor
