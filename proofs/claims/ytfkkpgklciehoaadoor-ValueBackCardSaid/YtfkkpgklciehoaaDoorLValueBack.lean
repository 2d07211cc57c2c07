/- The walk of ValueBack. -/
import Derived.Test.YtfkkpgklciehoaaDoorWorks
import Derived.Test.YtfkkpgklciehoaaDoorBack
namespace Go.Proofs.YtfkkpgklciehoaaDoor
open Go.RowKit Go.PlainAid
set_option maxRecDepth 100000 in
set_option maxHeartbeats 4000000 in
theorem valueBack_walk (a0 : ByteArray) (w : World) (htab : Pow w) (w0 : a0.size ≤ maxLen) :
    Calls Tryd.prog 7 #[.string a0] w fun e w' => e = .returned (.bool true) ∧ Below w.heap.size w w' := by
  unfold maxLen at w0
  by_cases h : 600 < a0.size
  · go_enter Tryd.func7, Tryd.ntmps7
    go_wp2_with fail
    refine (works_any _ htab).mono ?_
    rintro e W ⟨rfl, hB⟩
    go_wp2_with fail
    go_ret
    exact ⟨rfl, hB⟩
  have gt := Lib.hid (text_any a0 w (by omega))
  by_cases h5 : 512 < a0.size
  · have e1 : txtS a0 = ⟨#[]⟩ := if_pos h5
    have e2 : txtE a0 = 12 := if_pos h5
    rw [e1, e2] at gt
    clear e1 e2
    go_enter Tryd.func7, Tryd.ntmps7
    go_wp2_with fail
    refine gt.out.mono ?_
    rintro e W1 ⟨rfl, hB⟩
    have b1 := Lib.hid hB
    clear hB
    go_wp2_with fail
    refine (works_any _ (htab.below b1.out)).mono ?_
    rintro e W2 ⟨rfl, hB⟩
    go_wp2_with fail
    go_ret
    exact ⟨rfl, bchain b1.out hB⟩
  · have e1 : txtS a0 = form a0 := if_neg h5
    have e2 : txtE a0 = 0 := if_neg h5
    rw [e1, e2] at gt
    have hb := form_back a0 (by omega)
    have hl := form_tail a0
    have hz : ¬ a0.size = 0 → (form a0).size = 2 * a0.size := form_size
    have hn : a0.size = 0 → form a0 = ⟨#[45]⟩ := form_nil
    obtain ⟨t, ht⟩ : ∃ t, t = form a0 := ⟨_, rfl⟩
    rw [← ht] at gt hb hl hz hn
    have hp := fun w => parse_any t w (by by_cases q : a0.size = 0; (rw [hn q]; decide); (rw [hz q]; omega))
    have hq := fun w => parse_any (t.extract 1 t.size) w (by rw [tail_size]; by_cases q : a0.size = 0; (rw [hn q]; decide); (rw [hz q]; omega))
    rw [hb.1, hb.2] at hp
    rw [hl.1, hl.2] at hq
    have h1t : 1 ≤ t.size := by by_cases q : a0.size = 0; (rw [hn q]; decide); (rw [hz q]; omega)
    have gp := Lib.hid hp
    have gq := Lib.hid hq
    clear e1 e2 hb hl hp hq ht
    by_cases h0 : a0.size = 0
    · have hd := hn h0
      clear hn hz h1t
      subst hd
      go_enter Tryd.func7, Tryd.ntmps7
      go_wp2_with fail
      refine gt.out.mono ?_
      rintro e W1 ⟨rfl, hB⟩
      have b1 := Lib.hid hB
      clear hB
      go_wp2_with fail
      refine (gp.out _).mono ?_
      rintro e W2 ⟨rfl, hB⟩
      have b2 := Lib.hid (bchain b1.out hB)
      clear hB
      go_wp2_with fail
      refine (gq.out _).mono ?_
      rintro e W3 ⟨rfl, hB⟩
      have b3 := Lib.hid (bchain b2.out hB)
      clear hB
      go_wp2_with fail
      refine (works_any _ (htab.below b3.out)).mono ?_
      rintro e W4 ⟨rfl, hB⟩
      go_wp2_with fail
      go_ret
      exact ⟨rfl, bchain b3.out hB⟩
    · have hs := hz h0
      have hs2 : ((t.size : Int) != 2 * (a0.size : Int)) = false := by simp [hs]
      have h0p : 0 < a0.size := by omega
      have h0q : ((a0.size : Int) == 0) = false := beq_eq_false_iff_ne.2 (by omega)
      clear hn hz h0 hs
      go_enter Tryd.func7, Tryd.ntmps7
      go_wp2_with fail
      refine gt.out.mono ?_
      rintro e W1 ⟨rfl, hB⟩
      have b1 := Lib.hid hB
      clear hB
      go_wp2_with fail
      refine (gp.out _).mono ?_
      rintro e W2 ⟨rfl, hB⟩
      have b2 := Lib.hid (bchain b1.out hB)
      clear hB
      go_wp2_with fail
      refine (gq.out _).mono ?_
      rintro e W3 ⟨rfl, hB⟩
      have b3 := Lib.hid (bchain b2.out hB)
      clear hB
      go_wp2_with fail
      refine (works_any _ (htab.below b3.out)).mono ?_
      rintro e W4 ⟨rfl, hB⟩
      go_wp2_with fail
      go_ret
      exact ⟨rfl, bchain b3.out hB⟩
end Go.Proofs.YtfkkpgklciehoaaDoor
