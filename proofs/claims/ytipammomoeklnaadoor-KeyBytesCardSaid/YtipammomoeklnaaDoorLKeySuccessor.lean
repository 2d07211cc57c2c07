/- The walk of KeySuccessor: no key is between a key and the next one. -/
import Derived.Test.YtipammomoeklnaaDoorMade
import Derived.Test.YtipammomoeklnaaDoorFrame
namespace Go.Proofs.YtipammomoeklnaaDoor
open Go.RowKit Go.PlainAid
theorem BI.take {w : World} {A : Option Addr} {n : Nat} {zs : List Int} (h : BI w A n zs) (m : Nat) (hm : m ≤ n) : BI w A m (zs.take m) := by
  refine ⟨by rw [List.length_take, h.1]; omega, fun z hz => h.2.1 z (List.mem_of_mem_take hz), fun hp => ?_⟩
  obtain ⟨b, o, rfl, hc⟩ := h.2.2 (by omega)
  refine ⟨b, o, rfl, fun i hi => ?_⟩
  rw [hc i (by omega), List.getD, List.getD, List.getElem?_take, if_pos hi]
theorem made_row {A : Option Addr} {len cap : Nat} {zs : List Int} {w w' : World} (w0 : IsRow .u8 w A len cap zs) (hb : Below w.heap.size w w') : Calls Tryd.prog 24 #[.slice A len cap] w' (MadeK w') := by
  have hl := w0.len
  by_cases h : len ≤ 32
  · exact made_core A len cap _ w' (w0.bi.below hb) len (Nat.le_refl _) hl.1 hl.2 (by omega)
  · exact made_core A 32 cap _ w' ((w0.bi.take 32 (by omega)).below hb) len (by omega) hl.1 hl.2 (by omega)
theorem bts_key {L : List Int} (h : chkE L = 0) : bts (strOfNums L) = L := bts_str _ fun z hz => by have := kch_bd ((chkE_ok h).2.2 z hz); omega

set_option maxRecDepth 100000 in
set_option maxHeartbeats 4000000 in
theorem keySuccessor_walk (a0 : Option Addr) (len0 cap0 : Nat) (z0 : List Int) (a1 : Option Addr) (len1 cap1 : Nat) (z1 : List Int) (w : World) (htab : Pow w) (w0 : IsRow .u8 w a0 len0 cap0 z0) (w1 : IsRow .u8 w a1 len1 cap1 z1) :
    Calls Tryd.prog 6 #[.slice a0 len0 cap0, .slice a1 len1 cap1] w fun e w' => e = .returned (.bool true) ∧ Below w.heap.size w w' := by
  have G0 := Lib.hid (made_row w0 (Below.refl _ _))
  have G1 := Lib.hid (fun w' hb => made_row (w' := w') w1 hb)
  clear w0 w1
  go_enter Tryd.func6, Tryd.ntmps6
  go_wp2_with fail
  refine G0.out.mono ?_
  rintro e W1 ⟨s, rfl, hs, hB⟩
  have g1 := Lib.hid hB
  have gs := Lib.hid hs
  clear hB hs
  go_wp2_with fail
  refine (G1.out _ g1.out).mono ?_
  rintro e W2 ⟨t, rfl, ht, hB⟩
  have g2 := Lib.hid (bchain g1.out hB)
  have gt := Lib.hid ht
  clear hB ht
  have ss := Lib.hid (show s.size ≤ 32 by rw [← bts_length]; exact (chkE_ok gs.out).2.1)
  cases hn : nxt (bts s) with
  | none =>
    have hz := (nxt_top gs.out).1 hn
    have hr := Lib.hid (show ∀ w, Calls Tryd.prog 25 #[.string ⟨#[122]⟩, .int .i64 32] w fun e w' => e = .returned (.string s) ∧ Below w.heap.size w w' from fun w => by
      rw [show s = rep 122 32 from bts_inj (hz.trans (bts_rep 122 32 (by omega)).symm)]; exact repeat_any 122 32 (by omega) w)
    have c1 := Lib.hid (fun w => next_is s _ _ (by have := ss.out; omega) (nxs_none hn).1 (nxs_none hn).2 w)
    have c2 := Lib.hid (fun w => order_any t s w)
    have hle := nxt_last gs.out hn gt.out
    generalize cmp (bts t) (bts s) = v at *
    clear hn hz
    go_wp2_with fail
    refine (c1.out _).mono ?_
    rintro e W3 ⟨rfl, hB⟩
    have g3 := Lib.hid (bchain g2.out hB)
    clear hB
    go_wp2_with fail
    refine (hr.out _).mono ?_
    rintro e W4 ⟨rfl, hB⟩
    have g4 := Lib.hid (bchain g3.out hB)
    clear hB
    go_wp2_with fail
    refine (c2.out _).mono ?_
    rintro e _ ⟨rfl, rfl⟩
    go_wp2_with fail
    refine (works_any _ (htab.below g4.out)).mono ?_
    rintro e W5 ⟨rfl, hB⟩
    go_wp2_with fail
    go_ret
    exact ⟨rfl, bchain g4.out hB⟩
  | some nl =>
    have hg := nxt_good hn
    have hbt := nxt_between hn gt.out
    obtain ⟨n, hnn⟩ : ∃ n, n = strOfNums nl := ⟨_, rfl⟩
    have hbn : bts n = nl := by rw [hnn]; exact bts_key hg.2
    have hr := Lib.hid (show ∀ w, Calls Tryd.prog 25 #[.string ⟨#[122]⟩, .int .i64 32] w fun e w' => e = .returned (.string (rep 122 32)) ∧ Below w.heap.size w w' from fun w => repeat_any 122 32 (by omega) w)
    have hne : (s.toList == (rep 122 32).toList) = false := by
      rw [toList_beq]
      refine decide_eq_false (fun e => ?_)
      have := (nxt_top gs.out).2 (by rw [e, bts_rep _ _ (by omega)])
      rw [hn] at this; cases this
    have hne2 : (s.toList != (rep 122 32).toList) = true := by rw [bne, hne]; rfl
    have c1 := Lib.hid (fun w => next_is s n true (by have := ss.out; omega) (by rw [(nxs_some hn).1, hnn]) (nxs_some hn).2 w)
    have hsn : n.size ≤ 32 := by rw [← bts_length, hbn]; exact (chkE_ok hg.2).2.1
    have c2 := Lib.hid (fun w => check_is n 0 (by omega) (by rw [hbn]; exact hg.2) w)
    have c3 := Lib.hid (fun w => order_is s n (-1) (by rw [hbn]; exact hg.1) w)
    have c4 := Lib.hid (fun w => order_is n s 1 (by rw [hbn, cmp_neg, hg.1]; rfl) w)
    have c5 := Lib.hid (fun w => order_any t s w)
    have c6 := Lib.hid (fun w => order_any n t w)
    rw [← hbn] at hbt
    generalize cmp (bts t) (bts s) = x at *
    generalize cmp (bts n) (bts t) = y at *
    generalize rep 122 32 = zz at *
    clear hn hg hnn hbn hsn
    by_cases hx : x ≤ 0
    · clear hbt
      go_wp2_with fail
      refine (c1.out _).mono ?_
      rintro e W3 ⟨rfl, hB⟩
      have g3 := Lib.hid (bchain g2.out hB)
      clear hB
      go_wp2_with fail
      refine (hr.out _).mono ?_
      rintro e W4 ⟨rfl, hB⟩
      have g4 := Lib.hid (bchain g3.out hB)
      clear hB
      go_wp2_with fail
      refine (c2.out _).mono ?_
      rintro e W5 ⟨rfl, hB⟩
      have g5 := Lib.hid (bchain g4.out hB)
      clear hB
      go_wp2_with fail
      refine (c3.out _).mono ?_
      rintro e _ ⟨rfl, rfl⟩
      go_wp2_with fail
      refine (c4.out _).mono ?_
      rintro e _ ⟨rfl, rfl⟩
      go_wp2_with fail
      refine (c5.out _).mono ?_
      rintro e _ ⟨rfl, rfl⟩
      go_wp2_with fail
      refine (works_any _ (htab.below g5.out)).mono ?_
      rintro e W6 ⟨rfl, hB⟩
      go_wp2_with fail
      go_ret
      exact ⟨rfl, bchain g5.out hB⟩
    · have hy : y ≤ 0 := hbt.resolve_left hx
      have hx2 : decide (x ≤ 0) = false := decide_eq_false hx
      clear hbt hx
      go_wp2_with fail
      refine (c1.out _).mono ?_
      rintro e W3 ⟨rfl, hB⟩
      have g3 := Lib.hid (bchain g2.out hB)
      clear hB
      go_wp2_with fail
      refine (hr.out _).mono ?_
      rintro e W4 ⟨rfl, hB⟩
      have g4 := Lib.hid (bchain g3.out hB)
      clear hB
      go_wp2_with fail
      refine (c2.out _).mono ?_
      rintro e W5 ⟨rfl, hB⟩
      have g5 := Lib.hid (bchain g4.out hB)
      clear hB
      go_wp2_with fail
      refine (c3.out _).mono ?_
      rintro e _ ⟨rfl, rfl⟩
      go_wp2_with fail
      refine (c4.out _).mono ?_
      rintro e _ ⟨rfl, rfl⟩
      go_wp2_with fail
      refine (c5.out _).mono ?_
      rintro e _ ⟨rfl, rfl⟩
      go_wp2_with fail
      refine (c6.out _).mono ?_
      rintro e _ ⟨rfl, rfl⟩
      go_wp2_with fail
      refine (works_any _ (htab.below g5.out)).mono ?_
      rintro e W6 ⟨rfl, hB⟩
      go_wp2_with fail
      go_ret
      exact ⟨rfl, bchain g5.out hB⟩
end Go.Proofs.YtipammomoeklnaaDoor
