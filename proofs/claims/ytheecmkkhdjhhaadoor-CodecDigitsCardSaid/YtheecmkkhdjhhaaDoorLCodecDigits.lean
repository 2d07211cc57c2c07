/- The walk of CodecDigits: numerals and their decoding agree with the specification's own. -/
import Derived.Test.YtheecmkkhdjhhaaDoorRefNum
namespace Go.Proofs.YtheecmkkhdjhhaaDoor
open Go.RowKit Go.PlainAid

set_option maxRecDepth 100000 in
set_option maxHeartbeats 2000000 in
theorem codecDigits_walk (a0 : Int) (a1 : ByteArray) (w : World) (wid : Wid w) (pow : Pow w) (w0 : (Lit.int .u64 a0).wf = true) (w1 : a1.size ≤ maxLen) :
    Calls Tryd.prog 5 #[.int .u64 a0, .string a1] w fun e w' => e = .returned (.bool true) ∧ Below w.heap.size w w' := by
  obtain ⟨u0, u1⟩ := bounds_u64 w0
  clear w0
  obtain ⟨u, rfl⟩ := Int.eq_ofNat_of_zero_le u0
  have hu : u < 18446744073709551616 := by omega
  unfold maxLen at w1
  by_cases hbig : 1000 < a1.size
  · go_enter Tryd.func5, Tryd.ntmps5
    go_wp2_with fail
    refine (works_any _ wid).mono ?_
    rintro e wF ⟨rfl, hBF⟩
    go_wp2_with fail
    go_ret
    exact ⟨rfl, hBF⟩
  go_enter Tryd.func5, Tryd.ntmps5
  go_wp2_with fail
  refine (parseDigits_any _ _ (by omega)).mono ?_
  rintro e _ ⟨rfl, rfl⟩
  go_wp2_with fail
  refine (rparseDigits_any _ _ (by omega)).mono ?_
  rintro e _ ⟨rfl, rfl⟩
  go_wp2_with fail
  refine (digits_any _ hu _ pow).mono ?_
  rintro e wA ⟨rfl, hB1⟩
  have widA := wid.below hB1
  go_wp2_with fail
  refine (rdigits_any _ hu _).mono ?_
  rintro e wB ⟨rfl, rfl⟩
  go_wp2_with fail
  refine (works_any _ widA).mono ?_
  rintro e wF ⟨rfl, hBF⟩
  go_wp2_with fail
  go_ret
  exact ⟨rfl, bchain hB1 hBF⟩
end Go.Proofs.YtheecmkkhdjhhaaDoor
