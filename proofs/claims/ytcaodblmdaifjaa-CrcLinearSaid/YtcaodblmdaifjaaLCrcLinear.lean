/- The walk of CrcLinear: the xor of three checksums. -/
import Derived.Test.YtcaodblmdaifjaaOwn
import Derived.Deep.RegionWith
import Derived.BigRegion
import Derived.Deep.RegionHeld3
namespace Go.Proofs.Ytcaodblmdaifjaa
open Go.RowKit

theorem zip_get {a b : List Nat} {i : Nat} (ha : i < a.length) (hb : i < b.length) : (List.zipWith (· ^^^ ·) a b).getD i 0 = a.getD i 0 ^^^ b.getD i 0 := by
  simp [List.getElem?_zipWith, ha, hb]
theorem list_ext {a b : List Nat} (h : a.length = b.length) (he : ∀ i, i < a.length → a.getD i 0 = b.getD i 0) : a = b := by
  apply List.ext_getElem h
  intro i h1 h2
  have := he i h1
  simpa [h1, h2] using this
/-- The bytes so far. -/
def LinRel (G n : Nat) (X : List Nat) (j : Nat) (wr : World) : Prop := ∃ f : List Nat, OwnB wr G n f ∧ ∀ q, q < j → f.getD q 0 = X.getD q 0

set_option maxRecDepth 100000 in
set_option maxHeartbeats 4000000 in
theorem crcLinear_walk (a0 : Option Addr) (len0 cap0 : Nat) (z0 : List Int) (a1 : Option Addr) (len1 cap1 : Nat) (z1 : List Int) (a2 : Option Addr) (len2 cap2 : Nat) (z2 : List Int) (w : World)
    (w0 : IsRow .u8 w a0 len0 cap0 z0) (w1 : IsRow .u8 w a1 len1 cap1 z1) (w2 : IsRow .u8 w a2 len2 cap2 z2) :
    Calls Try.prog 9 #[.slice a0 len0 cap0, .slice a1 len1 cap1, .slice a2 len2 cap2] w fun e w' => e = .returned (.bool true) ∧ Below w.heap.size w w' := by
  have hn0 := w0.len
  have hn1 := w1.len
  have hn2 := w2.len
  have k0 := Lib.hid w0.none_len
  have k1 := Lib.hid w1.none_len
  have k2 := Lib.hid w2.none_len
  have g0 := Lib.hid w0.bn
  have g1 := Lib.hid w1.bn
  have g2 := Lib.hid w2.bn
  clear w0 w1 w2
  generalize nums len0 z0 = l0 at g0
  generalize nums len1 z1 = l1 at g1
  generalize nums len2 z2 = l2 at g2
  obtain ⟨p, hp⟩ : ∃ p, p = min len1 len2 := ⟨_, rfl⟩
  obtain ⟨n, hn⟩ : ∃ n, n = min len0 p := ⟨_, rfl⟩
  have i1 : (if len2 < len1 then (len2 : Int) else (len1 : Int)) = (p : Int) := by split <;> omega
  have i2 : (if p < len0 then (p : Int) else (len0 : Int)) = (n : Int) := by split <;> omega
  have m0 : n ≤ len0 := by omega
  have m1 : n ≤ len1 := by omega
  have m2 : n ≤ len2 := by omega
  clear hp hn
  by_cases hbig : 500 < n
  · go_enter Try.func9, Try.ntmps9
    go_wp2_with (go_at_call 13; refine (works_any _).mono ?_; rintro e wo ⟨rfl, hBo⟩)
    go_ret
    exact ⟨rfl, hBo⟩
  · have hmk := make_bytes n (by omega)
    obtain ⟨X, hX⟩ : ∃ X, X = List.zipWith (· ^^^ ·) (List.zipWith (· ^^^ ·) (l0.take n) (l1.take n)) (l2.take n) := ⟨_, rfl⟩
    have t0 : (l0.take n).length = n := by rw [List.length_take, g0.out.1]; omega
    have t1 : (l1.take n).length = n := by rw [List.length_take, g1.out.1]; omega
    have t2 : (l2.take n).length = n := by rw [List.length_take, g2.out.1]; omega
    have hd : decide ((500 : Int) < (n : Int)) = false := decide_eq_false (by omega)
    have X1 : X.length = n := by rw [hX, List.length_zipWith, List.length_zipWith, t0, t1, t2]; omega
    have X2 : ∀ q, q < n → X.getD q 0 = l0.getD q 0 ^^^ l1.getD q 0 ^^^ l2.getD q 0 := fun q hq => by
      rw [hX, zip_get (by rw [List.length_zipWith, t0, t1]; omega) (by omega), zip_get (by omega) (by omega)]
      simp [hq]
    have X3 : csum (l0.take n) ^^^ csum (l1.take n) ^^^ csum (l2.take n) = csum X := by rw [hX]; exact csum_three _ _ _ (by omega) (by omega)
    have gX1 := Lib.hid X1
    have gX2 := Lib.hid X2
    have gX3 := Lib.hid X3
    clear hX t0 t1 t2 X1 X2 X3
    go_enter Try.func9, Try.ntmps9
    go_wp2_with fail
    clear hmk i1 i2
    go_loopw [9] (fun i wr => ∃ j : Nat, j ≤ n ∧ i = .int .i64 j ∧ LinRel w.heap.size n X j wr ∧ Below w.heap.size w wr) (fun i _ => n - (intOf i).toNat)
    case atStart => exact ⟨0, by omega, rfl, ⟨_, OwnB.zeros w n, fun q hq => by omega⟩, below_alloc _ _⟩
    case round =>
      obtain ⟨j, hj, rfl, ⟨f, hf, hv⟩, hbl⟩ := hrel
      have gv := Lib.hid hv
      clear hv
      by_cases hlt : j < n
      · obtain ⟨b0, o0, e0, _, c0⟩ := g0.out.cell (by omega)
        obtain ⟨b1, o1, e1, _, c1⟩ := g1.out.cell (by omega)
        obtain ⟨b2, o2, e2, _, c2⟩ := g2.out.cell (by omega)
        subst e0
        subst e1
        subst e2
        have d0 := (hbl.cell (lt_of_cell (c0 j (by omega)))).trans (c0 j (by omega))
        have d1 := (hbl.cell (lt_of_cell (c1 j (by omega)))).trans (c1 j (by omega))
        have d2 := (hbl.cell (lt_of_cell (c2 j (by omega)))).trans (c2 j (by omega))
        clear c0 c1 c2
        obtain ⟨dt, df⟩ := hf.2.2 j hlt
        obtain ⟨x0, hx0⟩ : ∃ x, x = l0.getD j 0 := ⟨_, rfl⟩
        obtain ⟨x1, hx1⟩ : ∃ x, x = l1.getD j 0 := ⟨_, rfl⟩
        obtain ⟨x2, hx2⟩ : ∃ x, x = l2.getD j 0 := ⟨_, rfl⟩
        have y0 : x0 < 256 := by rw [hx0]; exact getD_lt g0.out.2.1 j
        have y1 : x1 < 256 := by rw [hx1]; exact getD_lt g1.out.2.1 j
        have y2 : x2 < 256 := by rw [hx2]; exact getD_lt g2.out.2.1 j
        rw [← hx0] at d0
        rw [← hx1] at d1
        rw [← hx2] at d2
        have y3 : x0 ^^^ x1 < 256 := Nat.xor_lt_two_pow (n := 8) y0 y1
        have y4 : x0 ^^^ x1 ^^^ x2 < 256 := Nat.xor_lt_two_pow (n := 8) y3 y2
        have v1 := u8_xor_nat x0 x1 y0 y1
        have v2 := u8_xor_nat (x0 ^^^ x1) x2 y3 y2
        have hXj : x0 ^^^ x1 ^^^ x2 = X.getD j 0 := by rw [hx0, hx1, hx2, gX2.out j hlt]
        have gXj := Lib.hid hXj
        have gf := Lib.hid hf
        clear hx0 hx1 hx2 hXj hf
        go_wp2_with fail
        go_region
        go_wp2_with fail
        refine ⟨⟨j + 1, by omega, rfl, ⟨_, (gf.out.store hlt y4).drew, fun q hq => ?_⟩, (hbl.setCell (Nat.le_refl _) _).drew⟩, by simp [intOf]; omega⟩
        by_cases hqj : q = j
        · subst hqj
          have hfl : q < f.length := by rw [gf.out.1]; exact hlt
          rw [gXj.out]
          simp [hfl]
        · have := gv.out q (by omega)
          rw [← this]
          simp [show ¬ j = q from fun h => hqj h.symm]
      · obtain rfl : j = n := by omega
        obtain rfl : f = X := list_ext (by rw [hf.1, gX1.out]) fun q hq => gv.out q (by rw [← hf.1]; exact hq)
        have gA0 := Lib.hid ((g0.out.below hbl.drew).take m0)
        have gA1 := Lib.hid ((g1.out.below hbl.drew).take m1)
        have gA2 := Lib.hid ((g2.out.below hbl.drew).take m2)
        have gAX : RowKit.Hid (BN wr.drew (some ⟨w.heap.size, 0, none⟩) j f) := hf.bn
        have s0 := csum_lt gA0.out.2.1
        have s1 := csum_lt gA1.out.2.1
        have s2 := csum_lt gA2.out.2.1
        have x1 := u32_xor_nat _ _ s0 s1
        have x2 := u32_xor_nat _ _ (Nat.xor_lt_two_pow (n := 32) s0 s1) s2
        rw [gX3.out] at x2
        have b0 : (0 : Int) ≤ (j : Int) := by omega
        have b1 : (j : Int) ≤ (cap0 : Int) := by omega
        have b2 : (j : Int) ≤ (cap1 : Int) := by omega
        have b3 : (j : Int) ≤ (cap2 : Int) := by omega
        clear hf
        go_wp2_with fail
        go_region_held3 (fun _ => True) (trivial) (first
          | (go_at_call 15; refine (sum_any a0 _ cap0 _ _ gA0.out (by omega)).mono ?_; rintro e wA ⟨rfl, hA⟩; have gB1 := Lib.hid (gA1.out.below hA); have gB2 := Lib.hid (gA2.out.below hA); have gBX := Lib.hid (gAX.out.below hA))
          | (go_at_call 15; refine (sum_any a1 _ cap1 _ _ gB1.out (by omega)).mono ?_; rintro e wB ⟨rfl, hB⟩; have gC2 := Lib.hid (gB2.out.below hB); have gCX := Lib.hid (gBX.out.below hB))
          | (go_at_call 15; refine (sum_any a2 _ cap2 _ _ gC2.out (by omega)).mono ?_; rintro e wC ⟨rfl, hC⟩; have gDX := Lib.hid (gCX.out.below hC))
          | (go_at_call 15; refine (sum_any _ _ _ _ _ gDX.out (by omega)).mono ?_; rintro e wD ⟨rfl, hD⟩)
          | (go_at_call 13; refine (works_any _).mono ?_; rintro e wE ⟨rfl, hE⟩))
        go_wp2_with fail
        go_ret
        exact ⟨rfl, bchain (bchain (bchain (bchain (bchain hbl.drew hA) hB) hC) hD) hE⟩
end Go.Proofs.Ytcaodblmdaifjaa
