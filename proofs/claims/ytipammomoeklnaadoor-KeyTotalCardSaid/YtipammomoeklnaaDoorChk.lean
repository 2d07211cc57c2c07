/- Contracts of Check and Fits, the program's and the specification's. -/
import Derived.Test.YtipammomoeklnaaDoorRune
import Derived.Lib.OthersKept
namespace Go.Proofs.YtipammomoeklnaaDoor
open Go.RowKit Go.PlainAid

theorem plc_chr (j : Int) (h0 : 0 ≤ j) (h1 : j < 39) : plc (chr j) = j := by unfold plc chr; repeat' split <;> omega
theorem chr_plc (c : Int) (h : 0 ≤ plc c) : chr (plc c) = c := by unfold plc at h ⊢; unfold chr; repeat' split at h <;> (repeat' split) <;> omega
theorem plc_none (c : Int) (h : ∀ j : Nat, j < 39 → chr j ≠ c) : plc c = -1 := by
  have h1 := plc_bd c
  by_cases h2 : 0 ≤ plc c
  · have := chr_plc c h2
    exact absurd (by rw [show ((plc c).toNat : Int) = plc c by omega]; exact this) (h (plc c).toNat (by omega))
  · omega

theorem letters_any (w : World) : Calls Tryd.prog 32 #[] w fun e w' => e = .returned (.string lets) ∧ w = w' := by
  go_enter Tryd.func32, Tryd.ntmps32
  go_wp2
  go_ret
  exact ⟨rfl, rfl⟩

set_option maxHeartbeats 400000 in
theorem place_any (c : Int) (w : World) : Calls Tryd.prog 29 #[.int .u8 c] w fun e w' => e = .returned (.int .i64 (plc c)) ∧ w = w' := by
  have hls := get_bt lets
  have hz := lets_size
  go_enter Tryd.func29, Tryd.ntmps29
  go_wp2
  go_loop [3] (fun i => ∃ j : Nat, j ≤ 39 ∧ i = .int .i64 j ∧ Hid (∀ m : Nat, m < j → chr m ≠ c)) (fun i => 39 - (intOf i).toNat)
  case atStart => exact ⟨0, by omega, rfl, fun m hm => absurd hm (Nat.not_lt_zero m)⟩
  case round =>
    obtain ⟨j, hj, rfl, gP⟩ := hrel
    by_cases hlt : j < 39
    · have b1 := bt_lets j hlt
      by_cases he : chr (j : Int) = c
      · have h1 : (chr (j : Int) == c) = true := beq_iff_eq.2 he
        have h2 := Lib.hid (show plc c = j by rw [← he]; exact plc_chr j (by omega) (by omega))
        clear he
        go_wp2_with (go_at_call 32; refine (letters_any _).mono ?_; rintro e w' ⟨rfl, rfl⟩)
        go_ret
        exact ⟨by rw [h2.out]; rfl, rfl⟩
      · have h1 : (chr (j : Int) == c) = false := beq_eq_false_iff_ne.2 he
        have gQ := Lib.hid (show ∀ m : Nat, m < j + 1 → chr m ≠ c from fun m hm => by
          rcases (show m < j ∨ m = j by omega) with h | rfl
          · exact gP.out m h
          · exact he)
        clear he
        go_wp2_with (go_at_call 32; refine (letters_any _).mono ?_; rintro e w' ⟨rfl, rfl⟩)
        go_round
        case rel => exact ⟨j + 1, by omega, by go_num, gQ.out⟩
        case measure => simp [intOf]; omega
    · obtain rfl : j = 39 := by omega
      have h2 := Lib.hid (plc_none c gP.out)
      go_wp2_with (go_at_call 32; refine (letters_any _).mono ?_; rintro e w' ⟨rfl, rfl⟩)
      go_ret
      exact ⟨by rw [h2.out]; rfl, rfl⟩

theorem chkE_empty {s : ByteArray} (h : s.size = 0) : chkE (bts s) = 2 := by unfold chkE; rw [bts_length, if_pos h]
theorem chkE_bad {s : ByteArray} {i : Nat} (hi : i < s.size) (h : kch (bt s i) = false) : chkE (bts s) = 2 := by
  unfold chkE
  rw [bts_length, if_neg (by omega), if_neg ?_]
  rw [List.all_eq_true]
  intro hall
  have := hall ((bts s).getD i 0) (by
    rw [List.getD, List.getElem?_eq_getElem (by rw [bts_length]; exact hi)]
    exact List.getElem_mem _)
  rw [bts_getD, h] at this
  cases this
theorem chkE_all {s : ByteArray} (h0 : 0 < s.size) (h : ∀ i, i < s.size → kch (bt s i) = true) : chkE (bts s) = if 32 < s.size then 12 else 0 := by
  unfold chkE
  rw [bts_length, if_neg (by omega), if_pos ?_]
  rw [List.all_eq_true]
  intro z hz
  obtain ⟨i, hi, rfl⟩ := List.getElem_of_mem hz
  have := h i (by rw [← bts_length]; exact hi)
  rw [← bts_getD, List.getD, List.getElem?_eq_getElem hi] at this
  exact this

/-- The rune at a place: a key character's is itself; any other byte's is none. -/
theorem dec_facts (s : ByteArray) (p : Nat) (h : p < s.size) : ∃ r d : Nat, (Utf8.decode s p).1 = r ∧ (Utf8.decode s p).2 = d ∧ 1 ≤ d ∧ kch (r : Int) = kch (bt s p) ∧ (kch (bt s p) = true → d = 1) := by
  have hb := get_bt s p h
  by_cases ha : (s[p]'h).toNat < 128
  · refine ⟨(s[p]'h).toNat, 1, by rw [decode_ascii s p h ha], by rw [decode_ascii s p h ha], Nat.le_refl _, by rw [hb], fun _ => rfl⟩
  · have hd := decode_high s p h (by omega)
    have k1 : kch ((Utf8.decode s p).1 : Int) = false := by unfold kch; simp; omega
    have k2 : kch (bt s p) = false := by unfold kch; simp; omega
    exact ⟨_, _, rfl, rfl, hd.2, by rw [k1, k2], fun e => by rw [k2] at e; cases e⟩

set_option maxHeartbeats 1000000 in
theorem check_any (s : ByteArray) (w : World) (hs : s.size ≤ 140737488355328) : Calls Tryd.prog 12 #[.string s] w fun e w' => e = .returned (.int .i64 (chkE (bts s))) ∧ Below w.heap.size w w' := by
  by_cases h0 : s.size = 0
  · have he := empty_of h0
    rw [chkE_empty h0]
    clear h0
    go_enter Tryd.func12, Tryd.ntmps12
    go_wp2
    go_ret
    exact ⟨rfl, Below.refl _ _⟩
  · have he := not_empty_of (show 0 < s.size by omega)
    obtain ⟨k, hk⟩ : ∃ k, k = w.heap.size := ⟨_, rfl⟩
    obtain ⟨v, hv⟩ : ∃ v, v = chkE (bts s) := ⟨_, rfl⟩
    have gB : Hid (Below k w (w.iter s 0) ∧ (w.iter s 0).heap[k]? = some (.stringIter s 0)) := ⟨by rw [hk]; exact below_iter w s 0, by rw [hk]; exact World.iter_heap w s 0⟩
    have gk := Lib.hid hk
    have gv := Lib.hid hv
    rw [← hk, ← hv]
    go_enter Tryd.func12, Tryd.ntmps12
    go_wp2_with fail
    rw [← hk]
    clear hk hv
    go_loopw [] (fun wr => ∃ p : Nat, p ≤ s.size ∧ Hid (Below k w wr ∧ wr.heap[k]? = some (.stringIter s p) ∧ ∀ i, i < p → kch (bt s i) = true)) (fun wr => s.size - wr.iterPos k)
    case atStart => exact ⟨0, Nat.zero_le _, gB.out.1, gB.out.2, fun i hi => absurd hi (Nat.not_lt_zero i)⟩
    case round =>
      obtain ⟨p, hp, gI⟩ := hrel
      have hm : wr.iterPos k = p := by unfold World.iterPos; rw [gI.out.2.1]
      have gm := Lib.hid hm
      clear hm gB
      by_cases hlt : p < s.size
      · obtain ⟨r, d, hr, hd, hd1, k1, k2⟩ := dec_facts s p hlt
        have hnx := fun ty => Lib.run_next_any_at (P := Tryd.prog) wr k s p ty gI.out.2.1 hlt
        rw [hr, hd] at hnx
        have gW := Lib.hid (Lib.iterAt_heap wr k s p (p + d) gI.out.2.1)
        have gL := Lib.hid (Lib.below_iterAt gI.out.1 (Nat.le_refl _) s (p + d))
        obtain ⟨W, hW⟩ : ∃ W, W = wr.iterAt k s (p + d) := ⟨_, rfl⟩
        rw [← hW] at hnx gW gL
        clear hr hd hW
        cases hk : kch (bt s p) with
        | true =>
          obtain rfl := k2 hk
          rw [hk] at k1
          have gk := Lib.hid hk
          have gk1 := Lib.hid k1
          clear k1 k2 hk
          go_wp2_with fail
          refine (contains_any _ (by omega) _).mono ?_
          rintro e W' ⟨rfl, hB⟩
          rw [gk1.out]
          have gB := Lib.hid hB
          clear hB
          go_wp2_with fail
          have hk3 : W'.heap[k]? = some (.stringIter s (p + 1)) := (gB.out.block k (Array.getElem?_eq_some_iff.1 gW.out).1).trans gW.out
          go_roundw
          case rel => exact ⟨p + 1, by omega, gL.out.trans (gB.out.mono (by have := (Array.getElem?_eq_some_iff.1 gW.out).1; omega)), hk3, fun i hi => by
            rcases (show i < p ∨ i = p by omega) with h | rfl
            · exact gI.out.2.2 i h
            · exact gk.out⟩
          case measure =>
            have : W'.iterPos k = p + 1 := by unfold World.iterPos; rw [hk3]
            rw [this, gm.out]; omega
        | false =>
          rw [hk] at k1
          have gk1 := Lib.hid k1
          have g2 := Lib.hid (chkE_bad hlt hk)
          clear k1 k2 hk
          go_wp2_with fail
          refine (contains_any _ (by omega) _).mono ?_
          rintro e W' ⟨rfl, hB⟩
          rw [gk1.out]
          have gB := Lib.hid hB
          clear hB
          go_wp2_with fail
          go_ret
          exact ⟨ret_int (by rw [gv.out, g2.out]), gL.out.trans (gB.out.mono (by have := (Array.getElem?_eq_some_iff.1 gW.out).1; omega))⟩
      · obtain rfl : p = s.size := by omega
        have g2 := Lib.hid (chkE_all (by omega) gI.out.2.2)
        have hnx := fun ty => Lib.run_next_end_at (P := Tryd.prog) wr k s s.size ty gI.out.2.1 hlt
        by_cases h32 : 32 < s.size
        · go_wp2_with fail
          go_ret
          exact ⟨ret_int (by rw [gv.out, g2.out, if_pos h32]), gI.out.1⟩
        · go_wp2_with fail
          go_ret
          exact ⟨ret_int (by rw [gv.out, g2.out, if_neg h32]), gI.out.1⟩
end Go.Proofs.YtipammomoeklnaaDoor
