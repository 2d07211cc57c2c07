/- The walk of ValueJoins. -/
import Derived.Test.YtfkkpgklciehoaaDoorWorks
import Derived.Test.YtfkkpgklciehoaaDoorBack
namespace Go.Proofs.YtfkkpgklciehoaaDoor
open Go.RowKit Go.PlainAid
set_option maxRecDepth 100000 in
set_option maxHeartbeats 4000000 in
theorem valueJoins_walk (a0 : ByteArray) (a1 : ByteArray) (w : World) (htab : Pow w) (w0 : a0.size ≤ maxLen) (w1 : a1.size ≤ maxLen) :
    Calls Tryd.prog 9 #[.string a0, .string a1] w fun e w' => e = .returned (.bool true) ∧ Below w.heap.size w w' := by
  unfold maxLen at w0 w1
  by_cases h : 300 < a0.size
  · go_enter Tryd.func9, Tryd.ntmps9
    go_wp2_with fail
    refine (works_any _ htab).mono ?_
    rintro e W ⟨rfl, hB⟩
    go_wp2_with fail
    go_ret
    exact ⟨rfl, hB⟩
  by_cases k : 300 < a1.size
  · go_enter Tryd.func9, Tryd.ntmps9
    go_wp2_with fail
    refine (works_any _ htab).mono ?_
    rintro e W ⟨rfl, hB⟩
    go_wp2_with fail
    go_ret
    exact ⟨rfl, hB⟩
  have hx := fun w => text_any a0 w (by omega)
  have hy := fun w => text_any a1 w (by omega)
  have hz := fun w => text_any (a0 ++ a1) w (by rw [ByteArray.size_append]; omega)
  rw [show txtS a0 = form a0 from if_neg (by omega), show txtE a0 = 0 from if_neg (by omega)] at hx
  rw [show txtS a1 = form a1 from if_neg (by omega), show txtE a1 = 0 from if_neg (by omega)] at hy
  have i1 := form_inj (a := a0) (b := a1) (by omega) (by omega)
  rw [← toList_beq, ← toList_beq] at i1
  have z1 : (form a0).size ≤ 600 := by
    by_cases q : a0.size = 0
    · rw [form_nil q]; decide
    · rw [form_size q]; omega
  have z2 : (form a1).size ≤ 600 := by
    by_cases q : a1.size = 0
    · rw [form_nil q]; decide
    · rw [form_size q]; omega
  have f1 := form_join (a := a0) (b := a1)
  obtain ⟨x, hx0⟩ : ∃ x, x = form a0 := ⟨_, rfl⟩
  obtain ⟨y, hy0⟩ : ∃ y, y = form a1 := ⟨_, rfl⟩
  obtain ⟨z, hz0⟩ : ∃ z, z = a0 ++ a1 := ⟨_, rfl⟩
  rw [← hx0, ← hy0] at i1 f1
  rw [← hx0] at hx z1
  rw [← hy0] at hy z2
  rw [← hz0] at hz f1
  have hc := fun w => run_string_add_sum (P := Tryd.prog) w a0 a1 (by omega)
  rw [← hz0] at hc
  have gx := Lib.hid hx
  have gy := Lib.hid hy
  have hzs : z.size = a0.size + a1.size := by rw [hz0, ByteArray.size_append]
  obtain ⟨c, hcv⟩ : ∃ c, c = (a0.toList == a1.toList) := ⟨_, rfl⟩
  rw [← hcv] at i1
  have i2 := hcv.symm
  clear hx hy hcv
  by_cases h5 : 512 < a0.size + a1.size
  · rw [show txtS z = ⟨#[]⟩ from if_pos (by omega), show txtE z = 12 from if_pos (by omega)] at hz
    have gz := Lib.hid hz
    clear hz f1 hx0 hy0 hz0 hzs
    go_enter Tryd.func9, Tryd.ntmps9
    go_wp2_with fail
    refine (gx.out _).mono ?_
    rintro e W1 ⟨rfl, hB⟩
    have b1 := Lib.hid hB
    clear hB
    go_wp2_with fail
    refine (gy.out _).mono ?_
    rintro e W2 ⟨rfl, hB⟩
    have b2 := Lib.hid (bchain b1.out hB)
    clear hB
    go_wp2_with fail
    refine (gz.out _).mono ?_
    rintro e W3 ⟨rfl, hB⟩
    have b3 := Lib.hid (bchain b2.out hB)
    clear hB
    go_wp2_with fail
    refine (works_any _ (htab.below b3.out)).mono ?_
    rintro e W9 ⟨rfl, hB⟩
    go_wp2_with fail
    go_ret
    exact ⟨rfl, bchain b3.out hB⟩
  · rw [show txtS z = form z from if_neg (by omega), show txtE z = 0 from if_neg (by omega)] at hz
    by_cases q1 : a0.size = 0
    · have he := empty_of q1
      have e1 : form z = y := by
        rw [hz0, hy0]
        congr 1
        apply bts_inj
        rw [bts_append, nil_of_size q1]
        rfl
      rw [e1] at hz
      have gz := Lib.hid hz
      clear hz f1 hx0 hy0 hz0 hzs e1
      go_enter Tryd.func9, Tryd.ntmps9
      go_wp2_with fail
      refine (gx.out _).mono ?_
      rintro e W1 ⟨rfl, hB⟩
      have b1 := Lib.hid hB
      clear hB
      go_wp2_with fail
      refine (gy.out _).mono ?_
      rintro e W2 ⟨rfl, hB⟩
      have b2 := Lib.hid (bchain b1.out hB)
      clear hB
      go_wp2_with fail
      refine (gz.out _).mono ?_
      rintro e W3 ⟨rfl, hB⟩
      have b3 := Lib.hid (bchain b2.out hB)
      clear hB
      go_wp2_with fail
      refine (works_any _ (htab.below b3.out)).mono ?_
      rintro e W9 ⟨rfl, hB⟩
      go_wp2_with fail
      go_ret
      exact ⟨rfl, bchain b3.out hB⟩
    · have he := not_empty_of (show 0 < a0.size by omega)
      by_cases q2 : a1.size = 0
      · have hf := empty_of q2
        have e1 : form z = x := by
          rw [hz0, hx0]
          congr 1
          apply bts_inj
          rw [bts_append, nil_of_size q2]
          exact List.append_nil _
        rw [e1] at hz
        have gz := Lib.hid hz
        clear hz f1 hx0 hy0 hz0 hzs e1
        go_enter Tryd.func9, Tryd.ntmps9
        go_wp2_with fail
        refine (gx.out _).mono ?_
        rintro e W1 ⟨rfl, hB⟩
        have b1 := Lib.hid hB
        clear hB
        go_wp2_with fail
        refine (gy.out _).mono ?_
        rintro e W2 ⟨rfl, hB⟩
        have b2 := Lib.hid (bchain b1.out hB)
        clear hB
        go_wp2_with fail
        refine (gz.out _).mono ?_
        rintro e W3 ⟨rfl, hB⟩
        have b3 := Lib.hid (bchain b2.out hB)
        clear hB
        go_wp2_with fail
        refine (works_any _ (htab.below b3.out)).mono ?_
        rintro e W9 ⟨rfl, hB⟩
        go_wp2_with fail
        go_ret
        exact ⟨rfl, bchain b3.out hB⟩
      · have hf := not_empty_of (show 0 < a1.size by omega)
        have e1 := f1 q1 q2
        rw [e1] at hz
        have gz := Lib.hid hz
        clear hz f1 hx0 hy0 hz0 hzs e1
        go_enter Tryd.func9, Tryd.ntmps9
        go_wp2_with fail
        refine (gx.out _).mono ?_
        rintro e W1 ⟨rfl, hB⟩
        have b1 := Lib.hid hB
        clear hB
        go_wp2_with fail
        refine (gy.out _).mono ?_
        rintro e W2 ⟨rfl, hB⟩
        have b2 := Lib.hid (bchain b1.out hB)
        clear hB
        go_wp2_with fail
        refine (gz.out _).mono ?_
        rintro e W3 ⟨rfl, hB⟩
        have b3 := Lib.hid (bchain b2.out hB)
        clear hB
        go_wp2_with fail
        refine (works_any _ (htab.below b3.out)).mono ?_
        rintro e W9 ⟨rfl, hB⟩
        go_wp2_with fail
        go_ret
        exact ⟨rfl, bchain b3.out hB⟩
end Go.Proofs.YtfkkpgklciehoaaDoor
