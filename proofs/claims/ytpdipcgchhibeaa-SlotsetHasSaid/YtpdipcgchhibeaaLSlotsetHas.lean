/- SlotsetHas: the walk. -/
import Derived.Test.YtpdipcgchhibeaaUse
namespace Go.Proofs.Ytpdipcgchhibeaa
open Go.RowKit
/-- What the second loop has found. -/
def Wish (m : Nat) (f : Int) (k : Nat) (v u : Value) : Prop := v = .int .i64 (((fnd ((sl m).drop k) f).getD 0 : Nat) : Int) ∧ u = .bool (fnd ((sl m).drop k) f).isSome
set_option maxRecDepth 100000 in
set_option maxHeartbeats 8000000 in
theorem slotsetHas_walk (a0 : Int) (a1 : Option Addr) (len1 cap1 : Nat) (z1 : List Int) (a2 : Int) (w : World) (w0 : (Lit.int .u8 a0).wf = true) (w1 : IsRow .u8 w a1 len1 cap1 z1) (_w2 : (Lit.int .i64 a2).wf = true) :
    Calls Try.prog 5 #[.int .u8 a0, .slice a1 len1 cap1, .int .i64 a2] w fun e w' => e = .returned (.bool true) ∧ Below w.heap.size w w' := by
  obtain ⟨s, rfl, hs⟩ := nat_of_u8 w0
  have hlen := w1.len
  have gl := Lib.hid w1.bn
  obtain ⟨ns, hns⟩ : ∃ ns, ns = nums len1 z1 := ⟨_, rfl⟩
  rw [← hns] at gl
  clear w0 w1 hns
  by_cases h200 : 200 < len1
  · go_enter Try.func5, Try.ntmps5
    go_wp2_with fail
    refine (works_any _).mono ?_
    rintro e w' ⟨rfl, hb⟩
    have gb := Lib.hid hb
    clear hb
    go_wp2_with fail
    go_ret
    exact ⟨rfl, gb.out⟩
  · have h200' : len1 ≤ 200 := by omega
    have gs := Lib.hid hs
    clear hs
    go_enter Try.func5, Try.ntmps5
    go_wp2_with fail
    refine (filled_any s a1 len1 cap1 ns w gl.out (by omega) gs.out).mono ?_
    rintro e W1 ⟨P, R, rfl, gF⟩
    obtain ⟨n, hn⟩ : ∃ n, n = 1 + s % 34 := ⟨_, rfl⟩
    obtain ⟨m, hm⟩ : ∃ m, m = fillN (1 + s % 34) ns := ⟨_, rfl⟩
    rw [← hm, ← hn] at gF
    rw [← hn]
    clear hn hm
    have g1 := Lib.hid gF.out.hold
    have r1 := Lib.hid gF.out.rows
    have hn34 : n ≤ 34 := gF.out.set.le
    clear gF gl gs h200 h200' hlen
    go_wp2_with fail
    refine (slots_is r1.out hn34 g1.out.set.lt).mono ?_
    rintro e W2 ⟨A, d, rfl, gA⟩
    have g2 := Lib.hid (g1.out.below gA.out.2)
    have r2 := Lib.hid (r1.out.below gA.out.2)
    clear g1 r1
    go_wp2_with fail
    refine (same_is g2.out gA.out.1).mono ?_
    rintro e W3 ⟨rfl, hb⟩
    have g3 := Lib.hid (g2.out.below hb)
    have r3 := Lib.hid (r2.out.below hb)
    clear g2 r2 gA hb
    go_wp2_with fail
    go_loop [9] (fun i => ∃ x : Int, -1 ≤ x ∧ x ≤ (n : Int) + 1 ∧ i = .int .i64 x) (fun i => ((n : Int) + 1 - intOf i).toNat)
    case atStart => exact ⟨-1, by omega, by omega, rfl⟩
    case round =>
      obtain ⟨x, hx0, hx1, rfl⟩ := hrel
      by_cases hend : (n : Int) < x
      · have hx : x = (n : Int) + 1 := by omega
        have h34 := sl_len34 g3.out.set
        have d0 : decide (x ≤ (n : Int)) = false := by simp; omega
        clear hx0 hx1 hx
        go_wp2_with fail
        refine (slots_is r3.out hn34 g3.out.set.lt).mono ?_
        rintro e W4 ⟨A, d, rfl, gA⟩
        have g4 := Lib.hid (g3.out.below gA.out.2)
        obtain ⟨N, hN⟩ : ∃ N, N = (sl m).length := ⟨_, rfl⟩
        rw [← hN] at h34
        rw [← hN]
        have gN := Lib.hid hN
        have gS := Lib.hid gA.out.1
        have hend2 : (n : Int) < x := hend
        clear g3 r3 gA hN d0 hend
        go_wp2_with fail
        go_loop [11, 12, 13] (fun v u i => ∃ k : Nat, k ≤ N ∧ i = .int .i64 ((k : Int) - 1) ∧ Hid (Wish m a2 k v u)) (fun _ _ i => (intOf i + 1).toNat)
        case atStart =>
          refine ⟨N, Nat.le_refl _, rfl, ?_⟩
          unfold Wish
          rw [gN.out, List.drop_length]
          exact ⟨rfl, rfl⟩
        case round =>
          obtain ⟨k, hk, rfl, gW⟩ := hrel
          rcases k with _ | j
          · obtain ⟨rfl, rfl⟩ := gW.out
            have e0 : ((0 : Nat) : Int) - 1 = -1 := by omega
            have ev : ((((fnd ((sl m).drop 0) a2).getD 0 : Nat) : Int)) = ((nxt m a2 : Nat) : Int) := rfl
            have eu : (fnd ((sl m).drop 0) a2).isSome = nok m a2 := rfl
            rw [e0, ev, eu]
            obtain ⟨X, hX⟩ : ∃ X, X = nxt m a2 := ⟨_, rfl⟩
            obtain ⟨B, hB⟩ : ∃ B, B = nok m a2 := ⟨_, rfl⟩
            rw [← hX, ← hB]
            have gX := Lib.hid hX
            have gB := Lib.hid hB
            clear gW e0 ev eu hX hB hend2
            by_cases hz : N = 0
            · have hz0 := hz
              subst hz0
              have n0 := Lib.hid (show nok m 0 = false by rw [nok_zero, ← gN.out]; rfl)
              clear hz
              go_wp2_with fail
              refine (h_next g4.out a2).mono ?_
              rintro e W5 ⟨rfl, hb⟩
              rw [← gX.out, ← gB.out]
              have g5 := Lib.hid (g4.out.below hb)
              clear hb g4
              go_wp2_with fail
              refine (h_lowest g5.out).mono ?_
              rintro e W6 ⟨rfl, hb⟩
              rw [n0.out]
              have g6 := Lib.hid (g5.out.below hb)
              clear hb g5
              cases B
              all_goals
                go_wp2_with fail
                refine (works_any _).mono ?_
                rintro e W7 ⟨rfl, hb⟩
                have gE := Lib.hid (g6.out.below hb).low
                clear hb
                go_wp2_with fail
                go_ret
                exact ⟨rfl, gE.out⟩
            · obtain ⟨y, hy⟩ : ∃ y, (sl m)[0]? = some y := ⟨_, List.getElem?_eq_getElem (by rw [← gN.out]; omega)⟩
              obtain ⟨b, rfl, hc⟩ := gS.out.at hy
              have hp : 0 < N := by omega
              have hpi : (0 : Int) < (N : Int) := by omega
              have n0 := Lib.hid (show nok m 0 = true by rw [nok_zero, ← gN.out]; simpa using hp)
              have ny := Lib.hid (nxt_zero hy)
              have d1 : decide (0 < N) = true := by simpa using hp
              have gy := Lib.hid hy
              clear hz hy hc
              go_wp2_with fail
              refine (h_next g4.out a2).mono ?_
              rintro e W5 ⟨rfl, hb⟩
              rw [← gX.out, ← gB.out]
              have g5 := Lib.hid (g4.out.below hb)
              have gS5 := Lib.hid (gS.out.below hb)
              clear hb g4 gS
              go_wp2_with fail
              refine (h_lowest g5.out).mono ?_
              rintro e W6 ⟨rfl, hb⟩
              rw [n0.out, ny.out]
              have g6 := Lib.hid (g5.out.below hb)
              obtain ⟨b', e', hcc⟩ := gS5.out.below hb (by rw [← gN.out]; exact hp)
              obtain rfl : b = b' := by cases e'; rfl
              have c0 : W6.cell? ⟨b, 0, none⟩ = some (.int .i64 (y : Nat)) := by
                refine hcc 0 y ?_
                exact gy.out
              clear hb g5 hcc gS5 e'
              cases B
              all_goals
                go_wp2_with fail
                refine (works_any _).mono ?_
                rintro e W7 ⟨rfl, hb⟩
                have gE := Lib.hid (g6.out.below hb).low
                clear hb
                go_wp2_with fail
                go_ret
                exact ⟨rfl, gE.out⟩
          · have ej : ((j + 1 : Nat) : Int) - 1 = (j : Int) := by omega
            rw [ej]
            obtain ⟨y, hy⟩ : ∃ y, (sl m)[j]? = some y := ⟨_, List.getElem?_eq_getElem (by rw [← gN.out]; omega)⟩
            obtain ⟨b, rfl, hc⟩ := gS.out.at hy
            have gy := Lib.hid (fnd_drop hy a2)
            have j0 : (0 : Int) ≤ (j : Int) := by omega
            have j1 : (j : Int) < (N : Int) := by omega
            clear hy ej
            by_cases hle : a2 ≤ (y : Int)
            · have gE := Lib.hid (show Wish m a2 j (.int .i64 (y : Nat)) (.bool true) from by
                unfold Wish
                rw [gy.out, if_pos hle]
                exact ⟨rfl, rfl⟩)
              go_wp2_with fail
              go_round
              case rel => exact ⟨j, by omega, rfl, gE.out⟩
              case measure => simp [intOf] <;> omega
            · have hle2 : (y : Int) < a2 := by omega
              have gE := Lib.hid (show Wish m a2 j _ _ from by
                unfold Wish
                rw [gy.out, if_neg hle]
                exact gW.out)
              clear hle
              go_wp2_with fail
              go_round
              case rel => exact ⟨j, by omega, rfl, gE.out⟩
              case measure => simp [intOf] <;> omega
      · rcases Int.lt_or_le x 0 with h0 | h0
        · have hout := Lib.hid (has_out g3.out.set x (.inl h0))
          have d0 : decide ((0 : Int) ≤ x) = false := by simp; omega
          have hle : x ≤ (n : Int) := by omega
          clear hend
          go_wp2_with fail
          refine hout.out.mono ?_
          rintro e _ ⟨rfl, rfl⟩
          go_wp2_with fail
          go_round
          case rel => exact ⟨x + 1, by omega, by omega, rfl⟩
          case measure => simp [intOf] <;> omega
        · rcases Int.lt_or_le x (n : Int) with h1 | h1
          · obtain ⟨j, rfl⟩ : ∃ j : Nat, x = j := ⟨x.toNat, by omega⟩
            have hj : j < n := by omega
            have hin := Lib.hid (has_in g3.out.set j hj)
            have hc := r3.out.at hj
            obtain ⟨b, hb⟩ : ∃ b, b = m.testBit j := ⟨_, rfl⟩
            rw [← hb] at hin hc
            have d0 : decide ((0 : Int) ≤ (j : Int)) = true := by simp
            have hle : (j : Int) ≤ (n : Int) := by omega
            clear hend hb
            cases b
            all_goals
              go_wp2_with fail
              refine hin.out.mono ?_
              rintro e _ ⟨rfl, rfl⟩
              go_wp2_with fail
              go_round
              case rel => exact ⟨(j : Int) + 1, by omega, by omega, rfl⟩
              case measure => simp [intOf] <;> omega
          · obtain rfl : x = (n : Int) := by omega
            have hout := Lib.hid (has_out g3.out.set (n : Int) (.inr (Int.le_refl _)))
            have d0 : decide ((0 : Int) ≤ (n : Int)) = true := by simp
            clear hend
            go_wp2_with fail
            refine hout.out.mono ?_
            rintro e _ ⟨rfl, rfl⟩
            go_wp2_with fail
            go_round
            case rel => exact ⟨(n : Int) + 1, by omega, by omega, rfl⟩
            case measure => simp [intOf] <;> omega
end Go.Proofs.Ytpdipcgchhibeaa
