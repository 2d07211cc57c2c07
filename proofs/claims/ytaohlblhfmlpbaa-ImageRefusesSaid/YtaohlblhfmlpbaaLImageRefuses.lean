/- ImageRefuses: the walk. -/
import Derived.Test.YtaohlblhfmlpbaaUse
namespace Go.Proofs.Ytaohlblhfmlpbaa
open Go.RowKit
theorem low_ok {f : Nat} (h : f < 65536) : wrap64 (-1 - (f : Int)) = -1 - (f : Int) := by unfold wrap64; omega
theorem neg_ok {f : Nat} (h : f < 65536) : wrap64 (-(f : Int)) = -(f : Int) := by unfold wrap64; omega
theorem high_ok {f : Nat} (h : f < 65536) : wrap64 (8193 + (f : Int)) = 8193 + (f : Int) := by unfold wrap64; omega
theorem next_ok {n : Nat} (h : n ≤ 300) : wrap64 ((n : Int) + 1) = ((n + 1 : Nat) : Int) := by unfold wrap64; omega
theorem more_ok {n f : Nat} (h : n ≤ 300) (hf : f < 65536) : wrap64 (((n + 1 : Nat) : Int) + (f : Int)) = ((n + 1 + f : Nat) : Int) := by unfold wrap64; omega
/-- The offsets and lengths that are refused. -/
abbrev pairs (n m : Nat) (lo : Int) : Array Value := #[.int .i64 lo, .int .i64 1, .int .i64 0, .int .i64 lo, .int .i64 (m : Nat), .int .i64 0, .int .i64 0, .int .i64 (m : Nat), .int .i64 (n : Nat), .int .i64 1, .int .i64 9223372036854775807, .int .i64 1, .int .i64 1, .int .i64 9223372036854775807, .int .i64 (-9223372036854775808), .int .i64 9223372036854775807]
theorem pair_at {W : World} {b n m : Nat} {lo : Int} {t : TypeId} (h : W.heap[b]? = some (.cells (pairs n m lo) t (0, 0))) (hlo : lo < 0) (hm : n < m) (hm2 : m ≤ 100000) {j : Nat} (hj : j < 8) :
    ∃ i1 i2 : Int, W.cell? ⟨b, j * 2, none⟩ = some (.int .i64 i1) ∧ W.cell? ⟨b, j * 2 + 1, none⟩ = some (.int .i64 i2) ∧ Hid (i1 < 9223372036854775808 ∧ (i1 < 0 ∨ i2 < 0 ∨ (n : Int) < i1 + i2)) := by
  have c1 := cell_of_row W b (j * 2) _ _ (0, 0) h
  have c2 := cell_of_row W b (j * 2 + 1) _ _ (0, 0) h
  rcases j with _ | _ | _ | _ | _ | _ | _ | _ | j
  · exact ⟨_, _, c1.trans rfl, c2.trans rfl, Lib.hid ⟨by omega, .inl hlo⟩⟩
  · exact ⟨_, _, c1.trans rfl, c2.trans rfl, Lib.hid ⟨by decide, .inr (.inl hlo)⟩⟩
  · exact ⟨_, _, c1.trans rfl, c2.trans rfl, Lib.hid ⟨by omega, .inr (.inr (by omega))⟩⟩
  · exact ⟨_, _, c1.trans rfl, c2.trans rfl, Lib.hid ⟨by decide, .inr (.inr (by omega))⟩⟩
  · exact ⟨_, _, c1.trans rfl, c2.trans rfl, Lib.hid ⟨by omega, .inr (.inr (by omega))⟩⟩
  · exact ⟨_, _, c1.trans rfl, c2.trans rfl, Lib.hid ⟨by decide, .inr (.inr (by omega))⟩⟩
  · exact ⟨_, _, c1.trans rfl, c2.trans rfl, Lib.hid ⟨by decide, .inr (.inr (by omega))⟩⟩
  · exact ⟨_, _, c1.trans rfl, c2.trans rfl, Lib.hid ⟨by decide, .inl (by decide)⟩⟩
  · omega
theorem size_at {W : World} {b : Nat} {lo hi : Int} {t : TypeId} (h : W.heap[b]? = some (.cells #[.int .i64 lo, .int .i64 hi] t (0, 0))) (hlo : lo < 1) (hhi : 8192 < hi) {j : Nat} (hj : j < 2) :
    ∃ i1 : Int, W.cell? ⟨b, j, none⟩ = some (.int .i64 i1) ∧ Hid (i1 < 1 ∨ 8192 < i1) := by
  have c1 := cell_of_row W b j _ _ (0, 0) h
  rcases j with _ | _ | j
  · exact ⟨_, c1.trans rfl, Lib.hid (.inl hlo)⟩
  · exact ⟨_, c1.trans rfl, Lib.hid (.inr hhi)⟩
  · omega
set_option maxRecDepth 100000 in
set_option maxHeartbeats 8000000 in
theorem imageRefuses_walk (a0 : Option Addr) (len0 cap0 : Nat) (z0 : List Mv) (a1 : Int) (w : World) (w0 : MS w a0 len0 z0) (c0 : len0 ≤ cap0 ∧ cap0 ≤ 9223372036854775807) (w1 : (Lit.int .u16 a1).wf = true) :
    Calls Try.prog 8 #[.slice a0 len0 cap0, .int .u16 a1] w fun e w' => e = .returned (.bool true) ∧ Below w.heap.size w w' := by
  obtain ⟨k, rfl, hk⟩ := u16_nat w1
  have gF := Lib.hid (filled_any a0 len0 cap0 z0 w w0 c0)
  clear w0 c0 w1
  go_enter Try.func8, Try.ntmps8
  go_wp2_with fail
  refine gF.out.mono ?_
  rintro e W ⟨P, A, c, d, l, rfl, g⟩
  have gB := Lib.hid g.out.1
  have gO := Lib.hid g.out.2
  have hbd := g.out.1.bounds
  obtain ⟨n, hn⟩ : ∃ n, n = l.length := ⟨_, rfl⟩
  rw [← hn] at gB gO hbd ⊢
  have gn := Lib.hid hn
  clear g gF hn
  obtain ⟨lo, hlo⟩ : ∃ lo : Int, lo = -1 - (k : Int) := ⟨_, rfl⟩
  obtain ⟨m1, hm1⟩ : ∃ m1, m1 = n + 1 := ⟨_, rfl⟩
  obtain ⟨m, hm⟩ : ∃ m, m = n + 1 + k := ⟨_, rfl⟩
  have g0 := Lib.hid (show lo < 0 ∧ n < m ∧ m ≤ 100000 from ⟨by omega, by omega, by omega⟩)
  have g00 := Lib.hid (show -(k : Int) < 1 ∧ (8192 : Int) < 8193 + (k : Int) from ⟨by omega, by omega⟩)
  have e1 := wrap_u16 hk
  have e2 : wrap64 (-1 - (k : Int)) = lo := by rw [hlo]; exact low_ok hk
  have e3 : wrap64 ((n : Int) + 1) = (m1 : Int) := by rw [hm1]; exact next_ok hbd.2.1
  have e4 : wrap64 ((m1 : Int) + (k : Int)) = (m : Int) := by rw [hm1, hm]; exact more_ok hbd.2.1 hk
  have e5 := neg_ok hk
  have e6 := high_ok hk
  clear hlo hm hm1 hk hbd
  go_wp2_with fail
  obtain ⟨V, hV⟩ : ∃ V, V = W.alloc (.cells (pairs n m lo) 54) := ⟨_, rfl⟩
  have gV := Lib.hid (show Below W.heap.size W V by rw [hV]; exact lit_b W _)
  obtain ⟨z, hz⟩ : ∃ z, z = W.heap.size := ⟨_, rfl⟩
  have gZ := Lib.hid (show V.heap[z]? = some (.cells (pairs n m lo) 54 (0, 0)) by rw [hV, hz]; exact World.alloc_heap_new _ _)
  rw [← hV]
  simp only [← hz, e1, e2, e3, e4]
  have gB1 := Lib.hid (gB.out.below gV.out)
  have gO1 := Lib.hid (owns_below gO.out gV.out)
  clear hV hz gB gO gV
  go_loopw [12, 13, 14, 55] (fun _ _ _ c wr => ∃ j : Nat, j ≤ 8 ∧ c = .int .i64 (j : Nat) ∧ Hid (Below V.heap.size V wr)) (fun _ _ _ c _ => 8 - (intOf c).toNat)
  case atStart => exact ⟨0, by omega, rfl, Below.refl _ _⟩
  case round =>
    obtain ⟨j, hj, rfl, gI⟩ := hrel
    by_cases hlt : j < 8
    · obtain ⟨i1, i2, f1, f2, gi⟩ := pair_at ((gI.out.block z (lt_of_heap gZ.out)).trans gZ.out) g0.out.1 g0.out.2.1 g0.out.2.2 hlt
      have hb := lit_b wr (.cells #[.int .i64 i1, .int .i64 i2] 54)
      have gB2 := Lib.hid ((gB1.out.below gI.out).below hb)
      have gN := Lib.hid (gI.out.trans (hb.mono gI.out.size))
      clear hb e1 e2 e3 e4 e5 e6
      go_wp2_with fail
      refine (b_read_out gB2.out i1 i2 gi.out.1 (by rw [← gn.out]; exact gi.out.2)).mono ?_
      rintro e _ ⟨rfl, rfl⟩
      go_wp2_with fail
      go_roundw
      case rel => exact ⟨j + 1, by omega, by simp, gN⟩
      case measure => simp [intOf] <;> omega
    · obtain rfl : j = 8 := by omega
      have gB2 := Lib.hid (gB1.out.below gI.out)
      have gO2 := Lib.hid (owns_below gO1.out gI.out)
      clear hlt gB1 gO1 gI gZ
      go_wp2_with fail
      obtain ⟨U, hU⟩ : ∃ U, U = wr.alloc (.cells #[.int .i64 (-(k : Int)), .int .i64 (8193 + (k : Int))] 3) := ⟨_, rfl⟩
      have gU := Lib.hid (show Below wr.heap.size wr U by rw [hU]; exact lit_b wr _)
      obtain ⟨y, hy⟩ : ∃ y, y = wr.heap.size := ⟨_, rfl⟩
      have gY := Lib.hid (show U.heap[y]? = some (.cells #[.int .i64 (-(k : Int)), .int .i64 (8193 + (k : Int))] 3 (0, 0)) by rw [hU, hy]; exact World.alloc_heap_new _ _)
      rw [← hU]
      simp only [← hy, e5, e6, Int.cast_ofNat_Int]
      have gB3 := Lib.hid (gB2.out.below gU.out)
      have gO3 := Lib.hid (owns_below gO2.out gU.out)
      clear hU hy gB2 gO2 gU e3 e4 e5 e6
      go_loopw [16, 17, 18, 82] (fun _ _ _ c wx => ∃ j : Nat, j ≤ 2 ∧ c = .int .i64 (j : Nat) ∧ Hid (Below U.heap.size U wx)) (fun _ _ _ c _ => 2 - (intOf c).toNat)
      case atStart => exact ⟨0, by omega, rfl, Below.refl _ _⟩
      case round =>
        obtain ⟨j, hj2, rfl, gI⟩ := hrel
        by_cases hlt : j < 2
        · obtain ⟨i1, f1, gi⟩ := size_at ((gI.out.block y (lt_of_heap gY.out)).trans gY.out) g00.out.1 g00.out.2 hlt
          go_wp2_with fail
          refine (new_bad i1 _ gi.out).mono ?_
          rintro e _ ⟨rfl, rfl⟩
          go_wp2_with fail
          go_roundw
          case rel => exact ⟨j + 1, by omega, by simp, gI⟩
          case measure => simp [intOf] <;> omega
        · obtain rfl : j = 2 := by omega
          have gB4 := Lib.hid (gB3.out.below gI.out)
          have gO4 := Lib.hid (owns_below gO3.out gI.out)
          clear hlt gB3 gO3 gI gY
          go_wp2_with fail
          refine (b_crash_arg gB4.out lo g0.out.1).mono ?_
          rintro e _ ⟨rfl, rfl⟩
          go_wp2_with fail
          refine (has_any (c := c) gB4.out (sb_of gO4.out)).mono ?_
          rintro e W6 ⟨rfl, hb⟩
          have gB6 := Lib.hid (gB4.out.below hb)
          clear hb gB4 gO4
          go_wp2_with fail
          refine (b_durable gB6.out).mono ?_
          rintro e _ ⟨rfl, rfl⟩
          go_wp2_with fail
          refine (works_any _).mono ?_
          rintro e W7 ⟨rfl, hb⟩
          have gE := Lib.hid (gB6.out.below hb).low
          clear hb gB6
          go_wp2_with fail
          go_ret
          exact ⟨rfl, gE.out⟩
end Go.Proofs.Ytaohlblhfmlpbaa
