/- The chapter's example: works. -/
import Derived.Test.YtpdipcgchhibeaaHold
import Derived.Deep.Cut
namespace Go.Proofs.Ytpdipcgchhibeaa
open Go.RowKit
theorem s36 : sl 36 = [2, 5] := by decide
theorem s33 : sl 33 = [0, 5] := by decide
theorem s1 : sl 1 = [0] := by decide
set_option maxRecDepth 100000 in
set_option maxHeartbeats 4000000 in
theorem works_any (w : World) : Calls Try.prog 12 #[] w fun e w' => e = .returned (.bool true) ∧ Below w.heap.size w w' := by
  go_enter Try.func12, Try.ntmps12
  go_wp2_with fail
  refine (set_none 8 0 w (by decide) (by decide)).mono ?_
  rintro e w1 ⟨rfl, g1⟩
  obtain ⟨P, hP⟩ : ∃ P, P = w.heap.size := ⟨_, rfl⟩
  have h1 : Hold w P 8 0 w1 := ⟨hP ▸ g1.out.1, by omega, g1.out.2⟩
  rw [← hP]
  clear hP g1
  go_wp2_with fail
  refine (h_add h1 5 (by decide)).mono ?_
  rintro e w2 ⟨rfl, h2, _⟩
  clear h1
  go_wp2_with fail
  refine (h_add h2 2 (by decide)).mono ?_
  rintro e w3 ⟨rfl, h3, _⟩
  clear h2
  go_wp2_with fail
  refine (h_add h3 5 (by decide)).mono ?_
  rintro e w4 ⟨rfl, h4, _⟩
  have h4' : Hold w P 8 36 w4 := h4
  clear h3 h4
  go_wp2_with fail
  refine (add_out h4'.set 8 (.inr (by decide))).mono ?_
  rintro e _ ⟨rfl, rfl⟩
  go_wp2_with fail
  have c1 := Lib.hid (same_two h4'.set s36)
  refine c1.out.mono ?_
  rintro e w5 ⟨rfl, hb⟩
  have h5 := h4'.below hb
  clear h4' hb c1
  go_wp2_with fail
  refine (h_next h5 3).mono ?_
  rintro e w6 ⟨rfl, hb⟩
  have h6 := h5.below hb
  rw [show nxt 36 3 = 5 by decide, show nok 36 3 = true by decide]
  clear h5 hb
  go_wp2_with fail
  refine (h_next h6 6).mono ?_
  rintro e w7 ⟨rfl, hb⟩
  have h7 := h6.below hb
  rw [show nxt 36 6 = 0 by decide, show nok 36 6 = false by decide]
  clear h6 hb
  go_wp2_with fail
  refine (h_lowest h7).mono ?_
  rintro e w8 ⟨rfl, hb⟩
  have h8 := h7.below hb
  rw [show nxt 36 0 = 2 by decide, show nok 36 0 = true by decide]
  clear h7 hb
  go_wp2_with fail
  refine (h_remove h8 2 (by decide)).mono ?_
  rintro e w9 ⟨rfl, h9, _⟩
  have h9' : Hold w P 8 32 w9 := h9
  clear h8 h9
  go_wp2_with fail
  have c2 := Lib.hid (set_two 8 0 5 w9 (by decide) (by decide) (by decide) (by decide))
  refine c2.out.mono ?_
  rintro e w10 ⟨Q, rfl, hQ, hq, hb⟩
  have h10 := h9'.below hb
  have hq' : SOwn w10 Q 8 33 := hq
  clear h9' hb c2 hQ hq
  go_wp2_with fail
  refine (h_union h10 hq').mono ?_
  rintro e w11 ⟨rfl, h11, _⟩
  have h11' : Hold w P 8 33 w11 := h11
  clear h10 h11 hq'
  go_wp2_with fail
  have c3 := Lib.hid (same_two h11'.set s33)
  refine c3.out.mono ?_
  rintro e w12 ⟨rfl, hb⟩
  have h12 := h11'.below hb
  clear h11' hb c3
  go_wp2_with fail
  have c4 := Lib.hid (set_two 8 5 7 w12 (by decide) (by decide) (by decide) (by decide))
  refine c4.out.mono ?_
  rintro e w13 ⟨Q2, rfl, hQ, hq, hb⟩
  have h13 := h12.below hb
  have hq' : SOwn w13 Q2 8 160 := hq
  clear h12 hb c4 hQ hq
  go_wp2_with fail
  refine (h_minus h13 hq').mono ?_
  rintro e w14 ⟨rfl, h14, _⟩
  have h14' : Hold w P 8 1 w14 := h14
  clear h13 h14 hq'
  go_wp2_with fail
  have c5 := Lib.hid (same_one h14'.set s1)
  refine c5.out.mono ?_
  rintro e w15 ⟨rfl, hb⟩
  have h15 := h14'.below hb
  clear h14' hb c5
  go_wp2_with fail
  refine (set_none 9 0 w15 (by decide) (by decide)).mono ?_
  rintro e w16 ⟨rfl, g⟩
  have h16 := h15.below g.out.2
  clear h15
  go_wp2_with fail
  refine (h_union_ne h16 g.out.1 (by decide)).mono ?_
  rintro e w17 ⟨rfl, hb⟩
  have h17 := h16.below hb
  clear h16 hb g
  go_wp2_with fail
  refine (h_size h17).mono ?_
  rintro e _ ⟨rfl, rfl⟩
  have gE := Lib.hid h17.low
  clear h17
  go_wp2_with fail
  go_ret
  exact ⟨rfl, gE.out⟩
end Go.Proofs.Ytpdipcgchhibeaa
