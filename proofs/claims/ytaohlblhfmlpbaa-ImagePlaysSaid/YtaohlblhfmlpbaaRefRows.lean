/- The reference's image: Append, Crash, Read, Copy. -/
import Derived.Test.YtaohlblhfmlpbaaRef
namespace Go.Proofs.Ytaohlblhfmlpbaa
open Go.RowKit
section
variable {w : World} {B Q sz d : Nat} {v : Value} {l : List E}
set_option maxRecDepth 100000 in
set_option maxHeartbeats 1000000 in
theorem rappend_any (h : ROwn w B Q sz d v l) {A : Option Addr} {n c : Nat} {xs : List E} (hs : SB w A n xs) (hA : A = none → c = 0) (hn : l.length + n ≤ sz) :
    Calls Try.prog 14 #[.pointer (some ⟨Q, 0, none⟩), .slice A n c] w fun e w' => e = .returned (.int .i64 0) ∧ RLeft w B Q sz d v (l ++ xs) w' := by
  obtain ⟨l2, hl2⟩ : ∃ l2, l2 = l ++ xs := ⟨_, rfl⟩
  rw [← hl2]
  have gl2 := Lib.hid hl2
  clear hl2
  obtain ⟨A0, c', rfl, hnil0, _, _, hs0, _⟩ := owns_sl h.row
  have gh := Lib.hid h
  have gs := Lib.hid hs
  have gs0 := Lib.hid hs0
  have gp := Lib.hid h.pos
  have c2 := h.c2
  obtain ⟨r, hr⟩ : ∃ r, r = sz - l.length := ⟨_, rfl⟩
  have gr := Lib.hid hr
  have e1 : ¬ (r : Int) < (n : Int) := by omega
  obtain ⟨m, hm⟩ : ∃ m, m = l.length := ⟨_, rfl⟩
  have gm := Lib.hid hm
  have gN := Lib.hid (show m + n ≤ sz ∧ sz ≤ 8192 from ⟨by omega, h.sz_le⟩)
  rw [← hm] at gs0 hnil0
  have gnil0 := Lib.hid hnil0
  have gnil := Lib.hid (show A = none → n = 0 ∧ c = 0 from fun e => by
    refine ⟨?_, hA e⟩
    rcases Nat.eq_zero_or_pos n with h0 | h0
    · exact h0
    · obtain ⟨a, ha, _⟩ := hs.2 h0
      rw [e] at ha
      cases ha)
  clear h hs hs0 hr hm hn hA hnil0
  go_enter Try.func14, Try.ntmps14
  go_wp2_with (go_at_call 35; refine (rvalid_any Q sz _ c2 gp).mono ?_; rintro e w' ⟨rfl, rfl⟩)
  refine (rroom_any gh.out).mono ?_
  rintro e W ⟨rfl, hb⟩
  rw [← gr.out]
  have gBW := Lib.hid hb
  have hb1 := hb.alloc hb.size (.cells #[] 5)
  have d0 := (gh.out.below hb1).c0
  rw [← gm.out] at d0
  have gb := Lib.hid hb1
  have gs1 := Lib.hid (gs0.out.below hb1)
  clear c2 hb hb1 gs0
  go_wp2_with (first
    | (at_builtin
       refine list_app _ rfl (.tmp 14) (.tmp 18) rfl w.heap.size _ 0 [] rfl (empty_owns W gBW.out.size) A0 m c' l rfl gm.out.symm gs1.out.news gnil0.out (by have := gN.out; omega) gb.out.size ?_
       intro v1 w1 hown1 hg1 hat1
       have gB1 := Lib.hid (own_grown gb.out hg1 gBW.out.size)
       have gs3 := Lib.hid (gs.out.below gB1.out)
       have go1 := Lib.hid hown1
       clear hown1 hg1 hat1)
    | (at_builtin
       refine list_app _ rfl (.tmp 19) (.tmp 20) rfl w.heap.size _ (0 + m) ([] ++ l) rfl go1.out A n c xs rfl gs3.out.1 gs3.out.news gnil.out (by have := gN.out; omega) gB1.out.size ?_
       intro v2 w2 hown2 hg2 hat2
       have hB2 := gB1.out.grown hg2 gB1.out.size (fun k hk => (go1.out.lt k hk).1)
       have gE := Lib.hid (gh.out.put hB2 (l' := l2) (n := 0 + m + n) (by rw [gl2.out, List.length_append, ← gm.out, gs3.out.1]; omega) (by rw [gl2.out]; exact hown2) (by rw [gl2.out, List.length_append, ← gm.out, gs3.out.1]; exact gN.out.1) (by rw [gl2.out, List.length_append]; have := gh.out.dle; omega))
       have hblk := (hB2.block Q gh.out.lt).trans gh.out.blk
       have k4 := frozen_of_row w2 Q 0 _ _ hblk
       have k5 := (cell_of_row w2 Q 0 _ _ (0, 0) hblk).trans (show _ = some (.slice A0 l.length c') from rfl)
       obtain ⟨A3, p3, rfl, -⟩ := owns_sl gE.out.1.row
       clear hown2 hg2 hat2 hB2 hblk))
  go_ret
  exact ⟨rfl, _, gE.out⟩
set_option maxRecDepth 100000 in
set_option maxHeartbeats 1000000 in
theorem rcopy_any (h : ROwn w B Q sz d v l) : Calls Try.prog 22 #[.pointer (some ⟨Q, 0, none⟩)] w fun e w' => ∃ R, e = .returned (.pointer (some ⟨R, 0, none⟩)) ∧ Hid (∃ v', ROwn w' w.heap.size R sz d v' l ∧ Below w.heap.size w w') := by
  obtain ⟨A, c, rfl, hnil, _, _, hs, _⟩ := owns_sl h.row
  have hb1 := ((Below.refl w.heap.size w).alloc (Nat.le_refl _) (.cells #[] 5)).drew
  have gh := Lib.hid h
  have gs := Lib.hid (hs.below hb1)
  have gb := Lib.hid hb1
  have c0 := h.c0
  have c1 := h.c1
  have c2 := h.c2
  have gp := Lib.hid h.pos
  have hlim : l.length ≤ 8192 := Nat.le_trans h.le h.sz_le
  obtain ⟨m, hm⟩ : ∃ m, m = l.length := ⟨_, rfl⟩
  have gm := Lib.hid hm
  rw [← hm] at c0 gs hnil hlim
  have gnil := Lib.hid hnil
  have e1 := Lib.hid (empty_owns w (Nat.le_refl _)).drew
  clear h hs hnil hm hb1
  go_enter Try.func22, Try.ntmps22
  go_wp2_with (go_at_call 35; refine (rvalid_any Q sz _ c2 gp).mono ?_; rintro e w' ⟨rfl, rfl⟩)
  go_region_held3 (fun w' => w'.cell? ⟨Q, 0, none⟩ = some (.slice A m c) ∧ w'.cell? ⟨Q, 1, none⟩ = some (.int .i64 (d : Nat)) ∧ w'.cell? ⟨Q, 2, none⟩ = some (.int .i64 (sz : Nat))) (first | go_keep | exact ⟨c0, c1, c2⟩ | exact ⟨k1, k2, k3⟩)
    (first
    | (refine step_app _ rfl (.tmp 6) (.tmp 10) rfl w.heap.size _ 0 [] rfl e1.out A m c l rfl gm.out.symm gs.out.news gnil.out (by omega) gb.out.size ?_
       intro v2 w2 hown2 hg2 hat2
       have gE := Lib.hid (show w2.ownsRow w.heap.size 5 1 v2 l.length (vs l) ∧ Below w.heap.size w w2 from ⟨by rw [← gm.out]; simpa using hown2, own_grown gb.out hg2 (Nat.le_refl _)⟩)
       have k1 := (gE.out.2.cell (lt_of_cell c0)).trans c0
       have k2 := (gE.out.2.cell (lt_of_cell c1)).trans c1
       have k3 := (gE.out.2.cell (lt_of_cell c2)).trans c2
       obtain ⟨A3, p3, rfl, -⟩ := owns_sl gE.out.1
       clear hown2 hg2 hat2))
  all_goals go_wp2_with fail
  all_goals go_ret
  all_goals exact ⟨_, rfl, _, ⟨gE.out.2.size, World.alloc_heap_new _ _, gE.out.1.alloc _, gh.out.dle, gh.out.le, gh.out.pos, gh.out.sz_le⟩, gE.out.2.alloc gE.out.2.size _⟩
theorem rread_out (h : ROwn w B Q sz d v l) (i j : Int) (hj2 : j < 9223372036854775808) (hij : i < 0 ∨ j < 0 ∨ (l.length : Int) < i + j) : Calls Try.prog 38 #[.pointer (some ⟨Q, 0, none⟩), .int .i64 i, .int .i64 j] w fun e w' => e = .returned (.tuple #[.slice none 0 0, .int .i64 3]) ∧ w = w' := by
  obtain ⟨A, c, rfl, _⟩ := owns_sl h.row
  have c0 := h.c0
  have c2 := h.c2
  have gp := Lib.hid h.pos
  have hl := h.le
  have hl2 := h.sz_le
  obtain ⟨m, hm⟩ : ∃ m, m = l.length := ⟨_, rfl⟩
  rw [← hm] at c0 hij hl
  clear h hm
  by_cases h0 : i < 0
  · clear hij
    go_enter Try.func38, Try.ntmps38
    go_wp2_with (go_at_call 35; refine (rvalid_any Q sz _ c2 gp).mono ?_; rintro e w' ⟨rfl, rfl⟩)
    go_ret2
    exact ⟨rfl, rfl⟩
  · by_cases k0 : j < 0
    · clear hij
      go_enter Try.func38, Try.ntmps38
      go_wp2_with (go_at_call 35; refine (rvalid_any Q sz _ c2 gp).mono ?_; rintro e w' ⟨rfl, rfl⟩)
      go_ret2
      exact ⟨rfl, rfl⟩
    · by_cases k3 : (m : Int) < j
      · clear hij
        go_enter Try.func38, Try.ntmps38
        go_wp2_with (go_at_call 35; refine (rvalid_any Q sz _ c2 gp).mono ?_; rintro e w' ⟨rfl, rfl⟩)
        go_ret2
        exact ⟨rfl, rfl⟩
      · have k4 : (m : Int) - j < i := by omega
        clear hij
        go_enter Try.func38, Try.ntmps38
        go_wp2_with (go_at_call 35; refine (rvalid_any Q sz _ c2 gp).mono ?_; rintro e w' ⟨rfl, rfl⟩)
        go_ret2
        exact ⟨rfl, rfl⟩
set_option maxRecDepth 100000 in
set_option maxHeartbeats 1000000 in
theorem rread_any (h : ROwn w B Q sz d v l) (i j : Nat) (hij : i + j ≤ l.length) : Calls Try.prog 38 #[.pointer (some ⟨Q, 0, none⟩), .int .i64 (i : Nat), .int .i64 (j : Nat)] w fun e w' => ∃ A2 c2, e = .returned (.tuple #[.slice A2 j c2, .int .i64 0]) ∧
    Hid (SB w' A2 j ((l.drop i).take j) ∧ Below w.heap.size w w') := by
  obtain ⟨A, c, rfl, hA, hc, hcm, hs, hAb⟩ := owns_sl h.row
  have hb1 := lit_b w (.cells #[] 5)
  have c0 := h.c0
  have d0 := (h.below hb1).c0
  have c2 := h.c2
  have gp := Lib.hid h.pos
  have hl := h.le
  have hl2 := h.sz_le
  obtain ⟨m, hm⟩ : ∃ m, m = l.length := ⟨_, rfl⟩
  have gm := Lib.hid hm
  rw [← hm] at c0 d0 hij hl hc hA
  have elen : ((l.drop i).take j).length = j := by rw [List.length_take, List.length_drop]; omega
  have h1 : ¬ (i : Int) < 0 := by omega
  have k1 : ¬ (j : Int) < 0 := by omega
  have k2 : ¬ (m : Int) < (j : Int) := by omega
  have k3 : ¬ (m : Int) - (j : Int) < (i : Int) := by omega
  have i1 : (i : Int) + (j : Int) ≤ (c : Int) := by omega
  have i2 : (0 : Int) ≤ (i : Int) + (j : Int) := by omega
  have j2 : i ≤ i + j := by omega
  have j3 : ((i : Int) + (j : Int)).toNat = i + j := by omega
  obtain ⟨X, cx, hX, hnews, hnil⟩ : ∃ X cx, (∀ w' : World, (Instr.slice 23 (.slice A m c) (some (.int .i64 (i : Int))) (some (.int .i64 ((i : Int) + (j : Int)))) none).run Try.prog w' = .ok (.slice X j cx) w') ∧
      News (w.alloc (.cells #[] 5)) X ((l.drop i).take j) ∧ (X = none → j = 0 ∧ cx = 0) := by
    refine ⟨if c = i then A else Option.map (fun x => x.add i) A, c - i, fun w' => ?_, fun ad e q u hq => ?_, fun e => ?_⟩
    · have i3 : ¬ (c : Int) < (i : Int) + (j : Int) := by omega
      simp [Instr.slice, run_underlying Try.underlying23, Instr.sliceBounds, Instr.sliceBound, asIntOf, i2, i3, j2, j3, Try.sizeOf5]
    · obtain ⟨x, hx, rfl⟩ := vs_at hq
      rw [List.getElem?_take] at hx
      split at hx
      · rw [if_neg (by omega)] at e
        obtain ⟨a, rfl, hc2⟩ := hs.2 (by omega)
        obtain ⟨g, hg, _, _⟩ := hAb a rfl
        subst hg
        rw [Option.map_some, add_plain, Nat.zero_add] at e
        cases e
        rw [List.getElem?_drop] at hx
        have := hc2 (i + q) x hx
        rw [add_plain, Nat.zero_add] at this
        rw [add_plain]
        exact (hb1.cell (lt_of_cell this)).trans this
      · cases hx
    · have hA' : A = none := by
        split at e
        · exact e
        · simpa using e
      have := hA hA'
      omega
  have gnews := Lib.hid hnews
  have gnil := Lib.hid hnil
  have glen := Lib.hid elen
  have gb := Lib.hid hb1
  have gj := Lib.hid (show j ≤ 8192 by omega)
  clear h hm hA hs hAb hnews hnil elen hl hl2 hij hb1
  go_enter Try.func38, Try.ntmps38
  go_wp2_with (first
    | (go_at_call 35; refine (rvalid_any Q sz _ c2 gp).mono ?_; rintro e w' ⟨rfl, rfl⟩)
    | (at_builtin
       refine list_app _ rfl (.tmp 37) (.tmp 46) rfl w.heap.size _ 0 [] rfl (empty_owns w (Nat.le_refl _)) X j cx ((l.drop i).take j) rfl glen.out gnews.out gnil.out (by have := gj.out; omega) gb.out.size ?_
       intro v2 w2 hown2 hg2 hat2
       rw [Nat.zero_add, List.nil_append] at hown2
       obtain ⟨A3, p3, rfl⟩ := ownsRow_shape hown2
       have gE := Lib.hid (show SB w2 A3 j ((l.drop i).take j) ∧ Below w.heap.size w w2 from ⟨sb_of hown2, own_grown gb.out hg2 (Nat.le_refl _)⟩)
       clear hown2 hg2 hat2))
  go_ret2
  exact ⟨_, _, rfl, gE⟩
end
end Go.Proofs.Ytaohlblhfmlpbaa
