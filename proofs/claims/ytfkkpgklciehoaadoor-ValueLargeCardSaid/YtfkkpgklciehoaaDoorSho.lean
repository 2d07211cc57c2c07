/- Contract of package value's Short. Condition: the library's table of powers of ten. -/
import Derived.Test.YtfkkpgklciehoaaDoorRep
import Derived.Test.YtfkkpgklciehoaaDoorDig
namespace Go.Proofs.YtfkkpgklciehoaaDoor
open Go.RowKit Go.PlainAid

/-- What Short returns, as numbers. -/
def shoL (s : ByteArray) : List Int := decN s.size ++ [58] ++ hexL ((bts s).take 8) ++ (if 8 < s.size then [46, 46] else [])
theorem take_bd (s : ByteArray) (n : Nat) : ∀ z ∈ (bts s).take n, 0 ≤ z ∧ z ≤ 255 := fun z hz => bts_bd s z (List.mem_of_mem_take hz)
theorem bts_pre (s : ByteArray) (n : Nat) : bts (s.extract 0 n) = (bts s).take n := by rw [bts_extract]; rfl
theorem pre_size (s : ByteArray) (m : Nat) (h : m ≤ s.size) : (s.extract 0 m).size = m := by rw [← bts_length, bts_pre, List.length_take, bts_length]; omega
theorem shoL_bd (s : ByteArray) : ∀ z ∈ shoL s, 0 ≤ z ∧ z ≤ 255 := by
  intro z hz
  unfold shoL at hz
  rcases List.mem_append.1 hz with hz | hz
  · rcases List.mem_append.1 hz with hz | hz
    · rcases List.mem_append.1 hz with hz | hz
      · have := decN_bd _ z hz; omega
      · simp at hz; omega
    · exact hexL_bd _ (take_bd s 8) z hz
  · split at hz
    · simp at hz; omega
    · cases hz

set_option maxHeartbeats 2000000 in
theorem short_any (s : ByteArray) (w : World) (hs : s.size ≤ 1000000) (htab : Pow w) : Calls Tryd.prog 22 #[.string s] w fun e w' => e = .returned (.string (strOfNums (shoL s))) ∧ Below w.heap.size w w' := by
  obtain ⟨m, hm⟩ : ∃ m, m = min s.size 8 := ⟨_, rfl⟩
  have hmi : min (s.size : Int) 8 = (m : Int) := by omega
  have hms : m ≤ s.size := by omega
  have ht8 : (bts s).take m = (bts s).take 8 := by
    by_cases h : 8 ≤ s.size
    · rw [show m = 8 by omega]
    · rw [List.take_of_length_le (by rw [bts_length]; omega), List.take_of_length_le (by rw [bts_length]; omega)]
  have g8 := Lib.hid ht8
  have gm := Lib.hid (show m ≤ 8 by omega)
  clear hm ht8
  have hq : IntKind.u64.wrap (s.size : Int) = s.size := by rw [IntKind.wrap_u64]; omega
  have gN := Lib.hid (bld_new w)
  have gA := Lib.hid ((Below.refl w.heap.size w).alloc (Nat.le_refl _) (.cells #[.pointer none, .slice none 0 0] 37))
  have gT := Lib.hid (htab.below gA.out)
  clear htab
  go_enter Tryd.func22, Tryd.ntmps22
  go_wp2_with fail
  go_at_call 32
  refine (digits_any s.size (by omega) _ gT.out).mono ?_
  rintro e w1 ⟨rfl, b1⟩
  have g1 := Lib.hid (gN.out.kept b1)
  have gb := Lib.hid (gA.out.trans (b1.mono (by simp)))
  clear b1
  go_wp2_with fail
  go_at_call 24
  refine (writeString_any _ _ _ _ g1.out (by have := decS_le s.size (by omega); simp; omega)).mono ?_
  rintro e w2 ⟨rfl, h2, b2⟩
  rw [List.nil_append, decS_eq, bts_str _ (fun z hz => by have := decN_bd _ z hz; omega)] at h2
  have g2 := Lib.hid h2
  have gb2 := Lib.hid (gb.out.trans b2)
  clear h2 b2
  have gl := Lib.hid (show (decN s.size).length ≤ 20 by have := decS_le s.size (by omega); rw [decS_size] at this; rw [decN_len]; exact this)
  go_wp2_with fail
  go_at_call 24
  refine (writeString_any _ _ _ _ g2.out (by have := gl.out; show _ + 1 ≤ _; omega)).mono ?_
  rintro e w3 ⟨rfl, h3, b3⟩
  have g3 := Lib.hid h3
  have gb3 := Lib.hid (gb2.out.trans b3)
  clear h3 b3
  obtain ⟨c, W, hcv, hBI, hbW⟩ := conv_str (s.extract 0 m) w3
  have hpz := pre_size s m hms
  have gI := Lib.hid hBI
  have gW := Lib.hid (g3.out.kept hbW)
  have gbW := Lib.hid (gb3.out.trans (hbW.mono (by have := gb3.out.size; omega)))
  clear hBI hbW
  go_wp2_with fail
  go_at_call 25
  rw [hpz] at gI
  refine (hex_any _ _ _ _ _ gI.out (by have := gm.out; omega)).mono ?_
  rintro e w4 ⟨rfl, b4⟩
  have g4 := Lib.hid (gW.out.kept b4)
  have gb4 := Lib.hid (gbW.out.trans (b4.mono (by have := gbW.out.size; omega)))
  clear b4
  rw [bts_pre, g8.out]
  go_wp2_with fail
  go_at_call 24
  refine (writeString_any _ _ _ _ g4.out (by rw [strOfNums_size, hexL_length, List.length_append, List.length_take]; have := gl.out; have : (bts ⟨#[58]⟩).length = 1 := rfl; omega)).mono ?_
  rintro e w5 ⟨rfl, h5, b5⟩
  rw [bts_str _ (hexL_bd _ (take_bd s 8))] at h5
  have g5 := Lib.hid h5
  have gb5 := Lib.hid (gb4.out.trans b5)
  clear h5 b5
  have e58 : bts ⟨#[58]⟩ = [58] := rfl
  by_cases h8 : 8 < s.size
  · have hL := Lib.hid (show shoL s = decN s.size ++ bts ⟨#[58]⟩ ++ hexL ((bts s).take 8) ++ bts ⟨#[46, 46]⟩ by unfold shoL; rw [if_pos h8]; rfl)
    clear e58
    go_wp2_with fail
    go_at_call 24
    refine (writeString_any _ _ _ _ g5.out (by rw [List.length_append, List.length_append, hexL_length, List.length_take]; have := gl.out; have : (bts ⟨#[58]⟩).length = 1 := rfl; show _ + 2 ≤ _; omega)).mono ?_
    rintro e w6 ⟨rfl, h6, b6⟩
    rw [← hL.out] at h6
    have g6 := Lib.hid h6
    have gb6 := Lib.hid (gb5.out.trans b6)
    clear h6 b6
    go_wp2_with fail
    go_at_call 26
    refine (string_any _ _ _ g6.out (shoL_bd s)).mono ?_
    rintro e w7 ⟨rfl, b7⟩
    have gb7 := Lib.hid (gb6.out.trans b7)
    clear b7
    go_wp2_with fail
    go_ret
    exact ⟨rfl, gb7.out⟩
  · have hL := Lib.hid (show shoL s = decN s.size ++ bts ⟨#[58]⟩ ++ hexL ((bts s).take 8) by unfold shoL; rw [if_neg h8, List.append_nil]; rfl)
    clear e58
    have h6 := g5.out
    rw [← hL.out] at h6
    have g6 := Lib.hid h6
    clear h6
    go_wp2_with fail
    go_at_call 26
    refine (string_any _ _ _ g6.out (shoL_bd s)).mono ?_
    rintro e w7 ⟨rfl, b7⟩
    have gb7 := Lib.hid (gb5.out.trans b7)
    clear b7
    go_wp2_with fail
    go_ret
    exact ⟨rfl, gb7.out⟩
end Go.Proofs.YtfkkpgklciehoaaDoor
