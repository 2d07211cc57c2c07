/- The walk of ValueBegins. -/
import Derived.Test.YtfkkpgklciehoaaDoorWorks
import Derived.Test.YtfkkpgklciehoaaDoorMore
namespace Go.Proofs.YtfkkpgklciehoaaDoor
open Go.RowKit Go.PlainAid

set_option maxRecDepth 100000 in
set_option maxHeartbeats 4000000 in
theorem valueBegins_walk (a0 : ByteArray) (a1 : ByteArray) (w : World) (htab : Pow w) (w0 : a0.size ≤ maxLen) (w1 : a1.size ≤ maxLen) :
    Calls Tryd.prog 12 #[.string a0, .string a1] w fun e w' => e = .returned (.bool true) ∧ Below w.heap.size w w' := by
  unfold maxLen at w0 w1
  by_cases h : 300 < a0.size
  · go_enter Tryd.func12, Tryd.ntmps12
    go_wp2_with fail
    refine (works_any _ htab).mono ?_
    rintro e W ⟨rfl, hB⟩
    go_wp2_with fail
    go_ret
    exact ⟨rfl, hB⟩
  by_cases k : 300 < a1.size
  · go_enter Tryd.func12, Tryd.ntmps12
    go_wp2_with fail
    refine (works_any _ htab).mono ?_
    rintro e W ⟨rfl, hB⟩
    go_wp2_with fail
    go_ret
    exact ⟨rfl, hB⟩
  obtain ⟨m, hm⟩ : ∃ m, m = min 8 a0.size := ⟨_, rfl⟩
  obtain ⟨n, hn⟩ : ∃ n, n = min 8 a1.size := ⟨_, rfl⟩
  have hT := sho_test a0 a1 m n hm hn
  have hmi : min 8 (a0.size : Int) = (m : Int) := by omega
  have hni : min 8 (a1.size : Int) = (n : Int) := by omega
  have hma : m ≤ a0.size := by omega
  have hna : n ≤ a1.size := by omega
  have hx := fun w => short_any a0 w (by omega)
  have hy := fun w => short_any a1 w (by omega)
  have xl : (strOfNums (shoL a0)).size = (shoL a0).length := strOfNums_size _
  have xl2 := sho_len a0
  rw [← hm] at xl2
  have xd := sho_digit a0
  have xc := sho_colon a0
  have xx := sho_dots a0
  rw [← xl] at xx xl2
  have lp := decN_pos a0.size
  have l20 : (decN a0.size).length ≤ 20 := by have := decS_le a0.size (by omega); rw [decS_size] at this; rw [decN_len]; exact this
  obtain ⟨x, hx0⟩ : ∃ x, x = strOfNums (shoL a0) := ⟨_, rfl⟩
  obtain ⟨y, hy0⟩ : ∃ y, y = strOfNums (shoL a1) := ⟨_, rfl⟩
  rw [← hx0] at hT hx xl xl2 xd xc xx
  rw [← hy0] at hT hy
  obtain ⟨c2, hc2⟩ : ∃ c, c = ((a0.extract 0 m).toList == (a1.extract 0 n).toList) := ⟨_, rfl⟩
  rw [← hc2] at hT
  have hcc := hc2.symm
  have gx := Lib.hid hx
  have gy := Lib.hid hy
  have gT := Lib.hid htab
  have gxd := Lib.hid xd
  have gxc := Lib.hid xc
  have gxx := Lib.hid xx
  have gl := Lib.hid xl2
  have glp := Lib.hid lp
  have gl20 := Lib.hid l20
  have gmm := Lib.hid hm
  have p1 : (0 : Int) ≤ (m : Int) := by omega
  have p2 : (0 : Int) ≤ (n : Int) := by omega
  have p3 : (m : Int) ≤ (a0.size : Int) := by omega
  have p4 : (n : Int) ≤ (a1.size : Int) := by omega
  clear hx hy htab xd xc xx xl2 lp l20 hx0 hy0 hc2 xl hm hn
  cases hc1 : decide (a0.size = a1.size) with
  | false =>
    rw [hc1, Bool.false_and] at hT
    have hq : ((a0.size : Int) == (a1.size : Int)) = false := beq_eq_false_iff_ne.2 (by have := of_decide_eq_false hc1; omega)
    clear hc1
    go_enter Tryd.func12, Tryd.ntmps12
    go_wp2_with fail
    refine (gx.out _ gT.out).mono ?_
    rintro e W1 ⟨rfl, hB⟩
    have b1 := Lib.hid hB
    clear hB
    go_wp2_with fail
    refine (gy.out _ (gT.out.below b1.out)).mono ?_
    rintro e W2 ⟨rfl, hB⟩
    have b2 := Lib.hid (bchain b1.out hB)
    clear hB
    go_wp2_with fail
    go_quiet (fail)
    go_wp2_with fail
    have b3 := Lib.hid (below_drewN b2.out nq)
    generalize W2.drewN nq = W3 at b3 ⊢
    go_loop [8, 9] (fun at' v => ∃ j : Nat, j ≤ (decN a0.size).length ∧ at' = .int .i64 j ∧ v = .int .i64 (lv ((decN a0.size).take j))) (fun at' _ => (decN a0.size).length - (intOf at').toNat)
    case atStart => exact ⟨0, Nat.zero_le _, rfl, rfl⟩
    case round =>
      obtain ⟨j, hj, rfl, rfl⟩ := hrel
      obtain ⟨L, hL⟩ : ∃ L, L = (decN a0.size).length := ⟨_, rfl⟩
      have l1 : L + 1 ≤ x.size := by have := gl.out; omega
      have lb : L ≤ 20 := by have := gl20.out; omega
      by_cases hlt : j < L
      · have hd := gxd.out j (by omega)
        have hv := lv_take_bd a0 j hj
        have hv2 := lv_take_bd a0 (j + 1) (by omega)
        have hs := lv_step a0 j (by omega)
        rw [hs] at hv2
        obtain ⟨z, hz⟩ : ∃ z, z = (decN a0.size).getD j 0 := ⟨_, rfl⟩
        rw [← hz] at hd hv2 hs
        obtain ⟨v, hvv⟩ : ∃ v, v = lv ((decN a0.size).take j) := ⟨_, rfl⟩
        rw [← hvv] at hv hv2 hs ⊢
        have gs := Lib.hid hs
        have gL := Lib.hid hL
        have y1 := get_bt x j (by omega)
        rw [hd.1] at y1
        obtain ⟨_, z0, z1⟩ := hd
        have z2 : IntKind.u8.wrap (z - 48) = z - 48 := by rw [IntKind.wrap_u8]; omega
        have z3 : (z - 48) % 256 = z - 48 := by omega
        have jx : j < x.size := by omega
        clear hz hvv hs hL hj
        go_wp2_with fail
        go_round
        case rel => exact ⟨j + 1, by have := gL.out; omega, by go_num, by rw [gs.out]; congr 1; omega⟩
        case measure => have := gL.out; simp [intOf]; omega
      · obtain rfl : j = L := by omega
        rw [hL, lv_all, ← hL]
        have y1 := get_bt x j (by omega)
        have y2 := gxc.out
        rw [← hL] at y2
        rw [y2] at y1
        have j0 : 0 < j := by have := glp.out; omega
        have j1 : ((j : Int) == 0) = false := beq_eq_false_iff_ne.2 (by omega)
        have jx : j < x.size := by omega
        have j2 := gl.out
        rw [← hL] at j2
        by_cases h8 : 8 < a0.size
        · rw [if_pos h8] at j2
          have e1 : ((x.size : Int) - (j : Int) - 1 == 18) = true := beq_iff_eq.2 (by have := gmm.out; omega)
          have e2 : ((x.extract (x.size - 2) x.size).toList == [46, 46]) = true := by rw [gxx.out h8]; decide +kernel
          have xb : x.size ≤ 100 := by have := gmm.out; omega
          have x2 : 2 ≤ x.size := by omega
          clear hL j2 hlt hj
          go_wp2_with fail
          refine (works_any _ (gT.out.below b3.out)).mono ?_
          rintro e W9 ⟨rfl, hB⟩
          go_wp2_with fail
          go_ret
          exact ⟨rfl, bchain b3.out hB⟩
        · rw [if_neg h8] at j2
          have e1 : ((x.size : Int) - (j : Int) - 1 == 2 * (a0.size : Int)) = true := beq_iff_eq.2 (by have := gmm.out; omega)
          have xb : x.size ≤ 100 := by have := gmm.out; omega
          clear hL j2 hlt hj
          go_wp2_with fail
          refine (works_any _ (gT.out.below b3.out)).mono ?_
          rintro e W9 ⟨rfl, hB⟩
          go_wp2_with fail
          go_ret
          exact ⟨rfl, bchain b3.out hB⟩
  | true =>
    rw [hc1, Bool.true_and] at hT
    have hq : ((a0.size : Int) == (a1.size : Int)) = true := beq_iff_eq.2 (by have := of_decide_eq_true hc1; omega)
    clear hc1
    go_enter Tryd.func12, Tryd.ntmps12
    go_wp2_with fail
    refine (gx.out _ gT.out).mono ?_
    rintro e W1 ⟨rfl, hB⟩
    have b1 := Lib.hid hB
    clear hB
    go_wp2_with fail
    refine (gy.out _ (gT.out.below b1.out)).mono ?_
    rintro e W2 ⟨rfl, hB⟩
    have b2 := Lib.hid (bchain b1.out hB)
    clear hB
    go_wp2_with fail
    go_quiet (fail)
    go_wp2_with fail
    have b3 := Lib.hid (below_drewN b2.out nq)
    generalize W2.drewN nq = W3 at b3 ⊢
    go_loop [8, 9] (fun at' v => ∃ j : Nat, j ≤ (decN a0.size).length ∧ at' = .int .i64 j ∧ v = .int .i64 (lv ((decN a0.size).take j))) (fun at' _ => (decN a0.size).length - (intOf at').toNat)
    case atStart => exact ⟨0, Nat.zero_le _, rfl, rfl⟩
    case round =>
      obtain ⟨j, hj, rfl, rfl⟩ := hrel
      obtain ⟨L, hL⟩ : ∃ L, L = (decN a0.size).length := ⟨_, rfl⟩
      have l1 : L + 1 ≤ x.size := by have := gl.out; omega
      have lb : L ≤ 20 := by have := gl20.out; omega
      by_cases hlt : j < L
      · have hd := gxd.out j (by omega)
        have hv := lv_take_bd a0 j hj
        have hv2 := lv_take_bd a0 (j + 1) (by omega)
        have hs := lv_step a0 j (by omega)
        rw [hs] at hv2
        obtain ⟨z, hz⟩ : ∃ z, z = (decN a0.size).getD j 0 := ⟨_, rfl⟩
        rw [← hz] at hd hv2 hs
        obtain ⟨v, hvv⟩ : ∃ v, v = lv ((decN a0.size).take j) := ⟨_, rfl⟩
        rw [← hvv] at hv hv2 hs ⊢
        have gs := Lib.hid hs
        have gL := Lib.hid hL
        have y1 := get_bt x j (by omega)
        rw [hd.1] at y1
        obtain ⟨_, z0, z1⟩ := hd
        have z2 : IntKind.u8.wrap (z - 48) = z - 48 := by rw [IntKind.wrap_u8]; omega
        have z3 : (z - 48) % 256 = z - 48 := by omega
        have jx : j < x.size := by omega
        clear hz hvv hs hL hj
        go_wp2_with fail
        go_round
        case rel => exact ⟨j + 1, by have := gL.out; omega, by go_num, by rw [gs.out]; congr 1; omega⟩
        case measure => have := gL.out; simp [intOf]; omega
      · obtain rfl : j = L := by omega
        rw [hL, lv_all, ← hL]
        have y1 := get_bt x j (by omega)
        have y2 := gxc.out
        rw [← hL] at y2
        rw [y2] at y1
        have j0 : 0 < j := by have := glp.out; omega
        have j1 : ((j : Int) == 0) = false := beq_eq_false_iff_ne.2 (by omega)
        have jx : j < x.size := by omega
        have j2 := gl.out
        rw [← hL] at j2
        by_cases h8 : 8 < a0.size
        · rw [if_pos h8] at j2
          have e1 : ((x.size : Int) - (j : Int) - 1 == 18) = true := beq_iff_eq.2 (by have := gmm.out; omega)
          have e2 : ((x.extract (x.size - 2) x.size).toList == [46, 46]) = true := by rw [gxx.out h8]; decide +kernel
          have xb : x.size ≤ 100 := by have := gmm.out; omega
          have x2 : 2 ≤ x.size := by omega
          clear hL j2 hlt hj
          go_wp2_with fail
          refine (works_any _ (gT.out.below b3.out)).mono ?_
          rintro e W9 ⟨rfl, hB⟩
          go_wp2_with fail
          go_ret
          exact ⟨rfl, bchain b3.out hB⟩
        · rw [if_neg h8] at j2
          have e1 : ((x.size : Int) - (j : Int) - 1 == 2 * (a0.size : Int)) = true := beq_iff_eq.2 (by have := gmm.out; omega)
          have xb : x.size ≤ 100 := by have := gmm.out; omega
          clear hL j2 hlt hj
          go_wp2_with fail
          refine (works_any _ (gT.out.below b3.out)).mono ?_
          rintro e W9 ⟨rfl, hB⟩
          go_wp2_with fail
          go_ret
          exact ⟨rfl, bchain b3.out hB⟩
end Go.Proofs.YtfkkpgklciehoaaDoor
