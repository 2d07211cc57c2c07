/- The walk of ValueReads. -/
import Derived.Test.YtfkkpgklciehoaaDoorWorks
import Derived.Test.YtfkkpgklciehoaaDoorBack
namespace Go.Proofs.YtfkkpgklciehoaaDoor
open Go.RowKit Go.PlainAid
set_option maxRecDepth 100000 in
set_option maxHeartbeats 4000000 in
theorem valueReads_walk (a0 : ByteArray) (w : World) (htab : Pow w) (w0 : a0.size ≤ maxLen) :
    Calls Tryd.prog 8 #[.string a0] w fun e w' => e = .returned (.bool true) ∧ Below w.heap.size w w' := by
  unfold maxLen at w0
  by_cases h : 1200 < a0.size
  · go_enter Tryd.func8, Tryd.ntmps8
    go_wp2_with fail
    refine (works_any _ htab).mono ?_
    rintro e W ⟨rfl, hB⟩
    go_wp2_with fail
    go_ret
    exact ⟨rfl, hB⟩
  have hp := parse_any a0 w (by omega)
  rcases prs_three a0 with ⟨e1, e2⟩ | ⟨e1, e2, e3⟩ | ⟨e1, e2, e3, e4⟩
  · rw [e1, e2] at hp
    have gp := Lib.hid hp
    clear e1 e2 hp
    go_enter Tryd.func8, Tryd.ntmps8
    go_wp2_with fail
    refine gp.out.mono ?_
    rintro e W1 ⟨rfl, hB⟩
    have b1 := Lib.hid hB
    clear hB
    go_wp2_with fail
    refine (works_any _ (htab.below b1.out)).mono ?_
    rintro e W9 ⟨rfl, hB⟩
    go_wp2_with fail
    go_ret
    exact ⟨rfl, bchain b1.out hB⟩
  · rw [e1, e2] at hp
    have gp := Lib.hid hp
    clear e1 e2 hp
    go_enter Tryd.func8, Tryd.ntmps8
    go_wp2_with fail
    refine gp.out.mono ?_
    rintro e W1 ⟨rfl, hB⟩
    have b1 := Lib.hid hB
    clear hB
    go_wp2_with fail
    refine (works_any _ (htab.below b1.out)).mono ?_
    rintro e W9 ⟨rfl, hB⟩
    go_wp2_with fail
    go_ret
    exact ⟨rfl, bchain b1.out hB⟩
  · rw [e1] at hp
    have ht := fun w => text_any (prsS a0) w (by omega)
    rw [e2, e3] at ht
    have hc : chkE (prsS a0) 512 = 0 := by unfold chkE; rw [if_neg (by omega), if_neg (by omega)]
    obtain ⟨s, hs⟩ : ∃ s, s = prsS a0 := ⟨_, rfl⟩
    rw [← hs] at hp ht hc
    have gp := Lib.hid hp
    have gt := Lib.hid ht
    have gc := Lib.hid hc
    clear e1 e2 e3 e4 hp ht hc hs
    go_enter Tryd.func8, Tryd.ntmps8
    go_wp2_with fail
    refine gp.out.mono ?_
    rintro e W1 ⟨rfl, hB⟩
    have b1 := Lib.hid hB
    clear hB
    go_wp2_with fail
    refine (gt.out _).mono ?_
    rintro e W2 ⟨rfl, hB⟩
    have b2 := Lib.hid (bchain b1.out hB)
    clear hB
    go_wp2_with fail
    refine (check_is _ 512 0 gc.out _).mono ?_
    rintro e _ ⟨rfl, rfl⟩
    go_wp2_with fail
    refine (works_any _ (htab.below b2.out)).mono ?_
    rintro e W9 ⟨rfl, hB⟩
    go_wp2_with fail
    go_ret
    exact ⟨rfl, bchain b2.out hB⟩
end Go.Proofs.YtfkkpgklciehoaaDoor
