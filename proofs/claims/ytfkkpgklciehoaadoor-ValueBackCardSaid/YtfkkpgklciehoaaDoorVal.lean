/- Contracts of package value: Check, Text, Parse, Repeat, Short. Condition (Short): the library's table of powers of ten. -/
import Derived.Test.YtfkkpgklciehoaaDoorBuild
import Derived.Test.YtfkkpgklciehoaaDoorHex
import Derived.Test.YtfkkpgklciehoaaDoorFmt
import Derived.Lib.ConvBytes
namespace Go.Proofs.YtfkkpgklciehoaaDoor
open Go.RowKit Go.PlainAid

theorem Bld.kept {b : Nat} {L : List Int} {w w' : World} (h : Bld b L w) (hb : Below w.heap.size w w') : Bld b L w' := by
  have go : ∀ p, Lib.BuilderAt 37 5 b b p (L.map (Value.int .u8)) w → Lib.BuilderAt 37 5 b b p (L.map (Value.int .u8)) w' := by
    rintro p ⟨hB, v, hbk, hown, hne⟩
    have hlt : b < w.heap.size := Lib.BuilderAt.lt ⟨hB, v, hbk, hown, hne⟩
    refine ⟨hB, v, (hb.block b hlt).trans hbk, ⟨hown.1, ?_⟩, hne⟩
    rcases hown.2 with h | ⟨g, cap, cur, hv, hg, hc, hr⟩
    · exact .inl h
    · have hgl : g < w.heap.size := by
        rcases Nat.lt_or_ge g w.heap.size with h' | h'
        · exact h'
        · simp [Array.getElem?_eq_none h'] at hc
      exact .inr ⟨g, cap, cur, hv, hg, (hb.block g hgl).trans hc, hr⟩
  rcases h with h | h
  · exact .inl (go _ h)
  · exact .inr (go _ h)

/-- A string turned to bytes: one new row. -/
theorem conv_str (s : ByteArray) (w : World) : ∃ c W, (convert 9 35 (.string s)).run Tryd.prog w = .ok (.slice (some ⟨w.heap.size, 0, none⟩) s.size c) W ∧ BI W (some ⟨w.heap.size, 0, none⟩) s.size (bts s) ∧ Below w.heap.size w W := by
  refine ⟨_, _, Lib.run_convert_string_bytes w 9 35 5 s Tryd.underlying9 Tryd.underlying35 Tryd.underlying5, ⟨bts_length s, bts_bd s, fun _ => ⟨_, _, rfl, fun i hi => ?_⟩⟩, ?_⟩
  · rw [Nat.zero_add, Lib.bytesWorld_cell w 5 s i hi]
    congr 2
    unfold bts
    have hl : i < s.data.toList.length := by rw [Array.length_toList]; exact hi
    rw [List.getD, List.getD, List.getElem?_map, List.getElem?_eq_getElem hl]
    rfl
  · have h1 : Below w.heap.size w w.drew := (Below.refl _ _).drew
    exact Lib.below_freeze (h1.alloc (Nat.le_refl _) _) (Nat.le_refl _) _

set_option maxHeartbeats 1000000 in
theorem check_val (s : ByteArray) (m : Int) (w : World) : Calls Tryd.prog 14 #[.string s, .int .i64 m] w fun e w' => e = .returned (.int .i64 (chkE s m)) ∧ w = w' := by
  obtain ⟨v, hv⟩ : ∃ v, v = chkE s m := ⟨_, rfl⟩
  rw [← hv]
  unfold chkE at hv
  have gv := Lib.hid hv
  clear hv
  by_cases h1 : m < 0
  · go_enter Tryd.func14, Tryd.ntmps14
    go_wp2
    go_ret
    exact ⟨ret_int (by rw [gv.out, if_pos (.inl h1)]), rfl⟩
  · by_cases h2 : 512 < m
    · go_enter Tryd.func14, Tryd.ntmps14
      go_wp2
      go_ret
      exact ⟨ret_int (by rw [gv.out, if_pos (.inr h2)]), rfl⟩
    · by_cases h3 : m < s.size
      · go_enter Tryd.func14, Tryd.ntmps14
        go_wp2
        go_ret
        exact ⟨ret_int (by rw [gv.out, if_neg (by omega), if_pos h3]), rfl⟩
      · go_enter Tryd.func14, Tryd.ntmps14
        go_wp2
        go_ret
        exact ⟨ret_int (by rw [gv.out, if_neg (by omega), if_neg (by omega)]), rfl⟩

set_option maxHeartbeats 1000000 in
theorem text_any (s : ByteArray) (w : World) (hs : s.size ≤ 1000000) : Calls Tryd.prog 16 #[.string s] w fun e w' => e = .returned (.tuple #[.string (txtS s), .int .i64 (txtE s)]) ∧ Below w.heap.size w w' := by
  by_cases h : 512 < s.size
  · have e1 : txtS s = ⟨#[]⟩ := if_pos h
    have e2 : txtE s = 12 := if_pos h
    have hl : chkE s 512 = 12 := by unfold chkE; rw [if_neg (by omega), if_pos (by omega)]
    rw [e1, e2]
    clear e1 e2
    go_enter Tryd.func16, Tryd.ntmps16
    go_wp2_with (go_at_call 14; refine (check_val _ _ _).mono ?_; rintro e w' ⟨rfl, rfl⟩; rw [hl])
    go_ret2
    exact ⟨rfl, Below.refl _ _⟩
  · have e1 : txtS s = form s := if_neg h
    have e2 : txtE s = 0 := if_neg h
    have hl : chkE s 512 = 0 := by unfold chkE; rw [if_neg (by omega), if_neg (by omega)]
    rw [e1, e2]
    clear e1 e2
    have gw := Lib.hid (Below.refl w.heap.size w |>.alloc (Nat.le_refl _) (.cells #[.pointer none, .slice none 0 0] 37))
    have gB := Lib.hid (bld_new w)
    by_cases h0 : s.size = 0
    · have e1 : form s = ⟨#[45]⟩ := if_pos h0
      rw [e1]
      have he := empty_of h0
      clear e1
      go_enter Tryd.func16, Tryd.ntmps16
      go_wp2_with (go_at_call 14; refine (check_val _ _ _).mono ?_; rintro e w' ⟨rfl, rfl⟩; rw [hl])
      go_at_call 24
      refine (writeString_any _ _ _ _ gB.out (by decide)).mono ?_
      rintro e w1 ⟨rfl, h1, b1⟩
      have g1 := Lib.hid h1
      have gb := Lib.hid (gw.out.trans b1)
      clear h1 b1
      go_wp2_with fail
      go_at_call 26
      refine (string_any _ _ _ g1.out (by intro z hz; simp [bts] at hz; omega)).mono ?_
      rintro e w2 ⟨rfl, b2⟩
      have gc := Lib.hid (gb.out.trans b2)
      clear b2
      go_wp2_with fail
      go_ret2
      exact ⟨by simp only [str_bts]; rfl, gc.out⟩
    · have e1 : form s = strOfNums (hexL (bts s)) := if_neg h0
      rw [e1]
      have he := not_empty_of (show 0 < s.size by omega)
      clear e1
      obtain ⟨c, W, hcv, hBI, hbW⟩ := conv_str s (w.alloc (.cells #[.pointer none, .slice none 0 0] 37))
      have hz1 : (w.alloc (.cells #[.pointer none, .slice none 0 0] 37)).heap.size = w.heap.size + 1 := by simp
      rw [hz1] at hcv hBI hbW
      have hz2 := hbW.size
      have gI := Lib.hid hBI
      have gV := Lib.hid hbW
      clear hBI hbW
      go_enter Tryd.func16, Tryd.ntmps16
      go_wp2_with (go_at_call 14; refine (check_val _ _ _).mono ?_; rintro e w' ⟨rfl, rfl⟩; rw [hl])
      go_at_call 25
      refine (hex_any _ _ _ _ _ gI.out (by omega)).mono ?_
      rintro e w1 ⟨rfl, b1⟩
      have g1 := Lib.hid b1
      clear b1
      go_wp2_with fail
      go_at_call 24
      refine (writeString_any _ _ _ _ ((gB.out.kept (by rw [hz1]; exact gV.out)).kept g1.out) (by rw [strOfNums_size, hexL_length, bts_length]; simp; omega)).mono ?_
      rintro e w2 ⟨rfl, h2, b2⟩
      have g2 := Lib.hid h2
      have gb := Lib.hid ((gw.out.trans (gV.out.mono (by omega))).trans ((g1.out.mono (by omega)).trans b2))
      clear h2 b2
      go_wp2_with fail
      go_at_call 26
      refine (string_any _ _ _ g2.out (by rw [List.nil_append]; exact bts_bd _)).mono ?_
      rintro e w3 ⟨rfl, b3⟩
      have gc := Lib.hid (gb.out.trans b3)
      clear b3
      go_wp2_with fail
      go_ret2
      exact ⟨by simp only [str_bts]; rfl, gc.out⟩

theorem dash_eq (s : ByteArray) : (s.toList == [45]) = decide (s = ⟨#[45]⟩) := by
  have h := toList_beq s ⟨#[45]⟩
  rwa [show (⟨#[45]⟩ : ByteArray).toList = [45] from by decide +kernel] at h
theorem hex_yes {s : ByteArray} {w w' : World} {e : Ending} (h : HexParsed s w e w') (k : hexOkS s = true) : ∃ A : Option Addr, e = .returned (.tuple #[.slice A (s.size / 2) (s.size / 2), .int .i64 0]) ∧ BI w' A (s.size / 2) (hexS s (s.size / 2)) ∧ Below w.heap.size w w' := by
  obtain ⟨A, m, rfl, hb, hB⟩ := h
  rw [k] at hb ⊢
  have : m = s.size / 2 := by have := hb.1; rw [if_pos rfl, hexS_length] at this; exact this.symm
  subst this
  exact ⟨A, rfl, hb, hB⟩

set_option maxHeartbeats 1000000 in
theorem parse_any (s : ByteArray) (w : World) (hs : s.size ≤ 1000000) : Calls Tryd.prog 18 #[.string s] w fun e w' => e = .returned (.tuple #[.string (prsS s), .int .i64 (prsE s)]) ∧ Below w.heap.size w w' := by
  by_cases hd : s = ⟨#[45]⟩
  · have e1 : prsS s = ⟨#[]⟩ := if_pos hd
    have e2 : prsE s = 0 := if_pos hd
    have ht : (s.toList == [45]) = true := by rw [dash_eq, decide_eq_true hd]
    rw [e1, e2]
    clear e1 e2 hd
    go_enter Tryd.func18, Tryd.ntmps18
    go_wp2_with fail
    go_ret2
    exact ⟨rfl, Below.refl _ _⟩
  · have ht : (s.toList == [45]) = false := by rw [dash_eq, decide_eq_false hd]
    have bad : ∀ v : Int, v ≠ 0 → prsE s = v → prsS s = ⟨#[]⟩ := fun v hv h => by unfold prsS; rw [if_neg hd, if_neg (by omega)]
    by_cases h0 : s.size = 0
    · have e2 : prsE s = 8 := by unfold prsE; rw [if_neg hd, if_pos h0]
      have e1 := bad 8 (by decide) e2
      have he := empty_of h0
      rw [e1, e2]
      clear e1 e2 hd bad
      go_enter Tryd.func18, Tryd.ntmps18
      go_wp2_with fail
      go_ret2
      exact ⟨rfl, Below.refl _ _⟩
    · have he := not_empty_of (show 0 < s.size by omega)
      cases hk : hexOkS s with
      | false =>
        have e2 : prsE s = 8 := by unfold prsE; rw [if_neg hd, if_neg h0, hk]; rfl
        have e1 := bad 8 (by decide) e2
        rw [e1, e2]
        clear e1 e2 hd bad
        go_enter Tryd.func18, Tryd.ntmps18
        go_wp2_with fail
        refine (parseHex_any s _ (by omega)).mono ?_
        intro e w1 h1
        obtain ⟨A, m, rfl, _, hB⟩ := h1
        rw [hk]
        have gB := Lib.hid hB
        clear hB
        go_wp2_with fail
        go_ret2
        exact ⟨rfl, gB.out⟩
      | true =>
        obtain ⟨h2, _⟩ := yes_parts hk
        by_cases h3 : 512 < s.size / 2
        · have e2 : prsE s = 12 := by unfold prsE; rw [if_neg hd, if_neg h0, hk, if_pos rfl, if_pos h3]
          have e1 := bad 12 (by decide) e2
          rw [e1, e2]
          clear e1 e2 hd bad
          have gk := Lib.hid hk
          obtain ⟨m, hm⟩ : ∃ m, m = s.size / 2 := ⟨_, rfl⟩
          have h4 : 512 < m := by omega
          have gm := Lib.hid hm
          clear hm h3 hk
          go_enter Tryd.func18, Tryd.ntmps18
          go_wp2_with fail
          refine (parseHex_any s _ (by omega)).mono ?_
          intro e w1 h1
          obtain ⟨A, rfl, _, hB⟩ := hex_yes h1 gk.out
          rw [← gm.out]
          have gB := Lib.hid hB
          clear hB h1
          go_wp2_with fail
          go_ret2
          exact ⟨rfl, gB.out⟩
        · have e2 : prsE s = 0 := by unfold prsE; rw [if_neg hd, if_neg h0, hk, if_pos rfl, if_neg h3]
          have e1 : prsS s = strOfNums (hexS s (s.size / 2)) := by unfold prsS; rw [if_neg hd, if_pos e2]
          rw [e1, e2]
          clear e1 e2 hd bad
          have gk := Lib.hid hk
          have gl := hexS_length s (s.size / 2)
          have gd := Lib.hid (hexS_bd s (s.size / 2))
          obtain ⟨m, hm⟩ : ∃ m, m = s.size / 2 := ⟨_, rfl⟩
          have h4 : ¬ 512 < m := by omega
          have h5 : 0 < m := by omega
          rw [← hm] at gl gd ⊢
          have gm := Lib.hid hm
          clear hm h3 hk
          obtain ⟨zs, hzs⟩ : ∃ zs, zs = hexS s m := ⟨_, rfl⟩
          rw [← hzs] at gl gd ⊢
          have gz := Lib.hid hzs
          clear hzs
          go_enter Tryd.func18, Tryd.ntmps18
          go_wp2_with fail
          refine (parseHex_any s _ (by omega)).mono ?_
          intro e w1 h1
          obtain ⟨A, rfl, hI, hB⟩ := hex_yes h1 gk.out
          rw [← gm.out] at hI ⊢
          rw [← gz.out] at hI
          have gI := Lib.hid hI
          have gB := Lib.hid hB
          have gN := Lib.hid (bld_new w1)
          have gA := Lib.hid ((Below.refl w1.heap.size w1).alloc (Nat.le_refl _) (.cells #[.pointer none, .slice none 0 0] 37))
          have hw1 := hB.size
          clear hB h1 hI
          go_wp2_with fail
          go_at_call 29
          refine (write_any _ _ _ _ _ zs _ gN.out (fun W hW => gI.out.below (gA.out.trans hW)) h5 (by simp; omega)).mono ?_
          rintro e w2 ⟨rfl, h2, b2⟩
          have g2 := Lib.hid h2
          have gc := Lib.hid (gB.out.trans ((gA.out.trans b2).mono hw1))
          clear h2 b2
          go_wp2_with fail
          go_at_call 26
          refine (string_any _ _ _ g2.out (by rw [List.nil_append]; exact gd.out)).mono ?_
          rintro e w3 ⟨rfl, b3⟩
          have ge := Lib.hid (gc.out.trans (b3.mono hw1))
          clear b3
          go_wp2_with fail
          go_ret2
          exact ⟨rfl, ge.out⟩
end Go.Proofs.YtfkkpgklciehoaaDoor
