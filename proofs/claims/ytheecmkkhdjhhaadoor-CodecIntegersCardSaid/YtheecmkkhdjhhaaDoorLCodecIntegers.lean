/- The walk of CodecIntegers. -/
import Derived.Test.YtheecmkkhdjhhaaDoorRef
namespace Go.Proofs.YtheecmkkhdjhhaaDoor
open Go.RowKit Go.PlainAid

set_option maxRecDepth 100000 in
set_option maxHeartbeats 2000000 in
theorem codecIntegers_walk (a0 : Option Addr) (len0 cap0 : Nat) (z0 : List Int) (a1 : Int) (a2 : Int) (a3 : Int) (w : World) (wid : Wid w) (w0 : IsRow .u8 w a0 len0 cap0 z0) (w1 : (Lit.int .u64 a1).wf = true) (w2 : (Lit.int .i64 a2).wf = true) (_w3 : (Lit.int .i64 a3).wf = true) :
    Calls Tryd.prog 3 #[.slice a0 len0 cap0, .int .u64 a1, .int .i64 a2, .int .i64 a3] w fun e w' => e = .returned (.bool true) ∧ Below w.heap.size w w' := by
  have b1 := bounds_u64 w1
  have b2 := bounds_i64 w2
  obtain ⟨c1, c2⟩ := b1
  obtain ⟨c3, c4⟩ := b2
  have hl := w0.len
  have hb := w0.bi
  have hnil := Lib.hid w0.nil_
  clear w1 w2 w0
  obtain ⟨l1, l2⟩ := hl
  by_cases hbig : 1000 < len0
  · go_enter Tryd.func3, Tryd.ntmps3
    go_wp2_with fail
    refine (works_any _ wid).mono ?_
    rintro e wF ⟨rfl, hBF⟩
    go_wp2_with fail
    go_ret
    exact ⟨rfl, hBF⟩
  · go_enter Tryd.func3, Tryd.ntmps3
    go_wp2_with fail
    refine (append_any _ _ _ _ _ _ _ wid hb (by omega) c1 (by omega)).mono ?_
    rintro e wA ⟨A1, m1, rfl, hb1, hB1⟩
    have hbA := hb.below hB1
    have widA := wid.below hB1
    go_wp2_with fail
    refine (rappend_any _ _ _ _ _ _ _ hbA hnil.out (by omega) c1 (by omega)).mono ?_
    rintro e wB ⟨A2, m2, cc2, rfl, hb2, hB2⟩
    have hbB := hbA.below hB2
    have hb1B := hb1.below hB2
    have widB := widA.below hB2
    go_wp2_with fail
    refine (uint_any _ _ _ _ _ _ _ widB hbB (by omega) c3 c4).mono ?_
    rintro e _ ⟨rfl, rfl⟩
    go_wp2_with fail
    refine (ruint_any _ _ _ _ _ _ _ hbB (by omega) c3 c4).mono ?_
    rintro e _ ⟨rfl, rfl⟩
    go_wp2_with fail
    refine (equal_any _ _ _ _ _ _ _ _ _ hb1B hb2).mono ?_
    rintro e _ ⟨rfl, rfl⟩
    rw [decide_eq_true (rfl : appL (z0.take len0) a1 a2 = appL (z0.take len0) a1 a2)]
    go_wp2_with fail
    refine (fits_any _ _ _ widB c1 (by omega)).mono ?_
    rintro e _ ⟨rfl, rfl⟩
    go_wp2_with fail
    refine (rfits_any _ _ _ c1 (by omega)).mono ?_
    rintro e _ ⟨rfl, rfl⟩
    go_wp2_with fail
    refine (works_any _ widB).mono ?_
    rintro e wF ⟨rfl, hBF⟩
    go_wp2_with fail
    go_ret
    exact ⟨rfl, bchain (bchain hB1 hB2) hBF⟩
end Go.Proofs.YtheecmkkhdjhhaaDoor
