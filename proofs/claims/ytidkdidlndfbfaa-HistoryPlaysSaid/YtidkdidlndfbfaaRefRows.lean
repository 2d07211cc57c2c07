/- The reference's list of strings: Add, Cut, Since, Copy. -/
import Derived.Test.YtidkdidlndfbfaaRefOps
namespace Go.Proofs.Ytidkdidlndfbfaa.HS
open Go.RowKit
def RLeft (w : World) (B Q lim mk : Nat) (v : Value) (l : List E) (w' : World) : Prop := ∃ v', ROwn w' B Q lim mk v' l ∧ Turn (Foot Q v) (Foot Q v') w w'
/-- A world that an append onto a new row has left. -/
theorem own_grown {w w0 w1 : World} {b : Nat} (hb : Below w.heap.size w w0) (hg : w0.grownBy w1 (some b)) (hl : w.heap.size ≤ b) : Below w.heap.size w w1 :=
  hb.grown hg hb.size (fun k hk => by have e := Option.some.inj hk; omega)
section
variable {w : World} {B Q lim mk : Nat} {v : Value} {l : List E}
set_option maxRecDepth 100000 in
set_option maxHeartbeats 1000000 in
theorem radd_any (h : ROwn w B Q lim mk v l) (hl : l.length < lim) (x : E) : Calls Try.prog 14 #[.pointer (some ⟨Q, 0, none⟩), .string x] w fun e w' => e = .returned (.int .i64 0) ∧ RLeft w B Q lim mk v (l ++ [x]) w' := by
  obtain ⟨l2, hl2⟩ : ∃ l2, l2 = l ++ [x] := ⟨_, rfl⟩
  rw [← hl2]
  have gl2 := Lib.hid hl2
  clear hl2
  obtain ⟨A, c, rfl, hnil, _, _, hs, _⟩ := owns_sl h.row
  have gh := Lib.hid h
  have gs := Lib.hid hs
  have gnil := Lib.hid hnil
  have c0 := h.c0
  have c1 := h.c1
  have c3 := h.c3
  have hlim := h.lim_le
  obtain ⟨m, hm⟩ : ∃ m, m = l.length := ⟨_, rfl⟩
  have gm := Lib.hid hm
  rw [← hm] at c1 gs gnil hl
  have i1 : (m : Int) < (lim : Int) := by omega
  clear h hs hnil hm
  go_enter Try.func14, Try.ntmps14
  go_wp2_with (go_at_call 46; refine (rvalid_any Q _ c0).mono ?_; rintro e w' ⟨rfl, rfl⟩)
  go_region
  obtain ⟨W, hW⟩ : ∃ W, W = w.drew := ⟨_, rfl⟩
  have hBW : Below w.heap.size w W := by rw [hW]; exact (Below.refl _ _).drew
  rw [← hW]
  have hb1 := hBW.alloc hBW.size (.cells #[] 9)
  have d1 := (gh.out.below hb1).c1
  rw [← gm.out] at d1
  have gBW := Lib.hid hBW
  have gb := Lib.hid hb1
  have gs1 := Lib.hid (gs.out.below hb1)
  clear c0 c1 c3 hBW hb1 hW gs
  go_wp2_with (first
    | (at_builtin
       refine list_app _ rfl (.tmp 19) (.tmp 23) rfl w.heap.size _ 0 (vs []) rfl (empty_owns W gBW.out.size) A m c l rfl gm.out.symm gs1.out.news gnil.out (by omega) gb.out.size ?_
       intro v1 w1 hown1 hg1 hat1
       have gB1 := Lib.hid (own_grown gb.out hg1 gBW.out.size)
       have go1 := Lib.hid hown1
       clear hown1 hg1 hat1)
    | (at_builtin
       refine list_app _ rfl (.tmp 24) (.tmp 26) rfl w.heap.size _ (0 + m) (vs [] ++ vs l) rfl (go1.out.alloc _) (some ⟨w1.heap.size, 0, none⟩) 1 1 [x] rfl rfl (fun ad e => by cases e; exact src_one w1 x) (fun e => by cases e) (by omega) (gB1.out.alloc gB1.out.size (.cells #[.string x] 9)).size ?_
       intro v2 w2 hown2 hg2 hat2
       have hB2 := (gB1.out.alloc gB1.out.size (.cells #[.string x] 9)).grown hg2 (gB1.out.alloc gB1.out.size (.cells #[.string x] 9)).size (fun k hk => (go1.out.lt k hk).1)
       have gE := Lib.hid (gh.out.put hB2 (l' := l2) (n := 0 + m + 1) (by rw [gl2.out, List.length_append, ← gm.out]; simp) (by rw [gl2.out]; simpa [vs] using hown2) (by rw [gl2.out, List.length_append, ← gm.out]; simp; omega) (by rw [gl2.out, List.length_append]; have := gh.out.mkle; omega))
       have hblk := (hB2.block Q gh.out.lt).trans gh.out.blk
       have k4 := frozen_of_row w2 Q 1 _ _ hblk
       have k5 := (cell_of_row w2 Q 1 _ _ (0, 0) hblk).trans (show _ = some (.slice A l.length c) from rfl)
       obtain ⟨A3, p3, rfl, -⟩ := owns_sl gE.out.1.row
       clear hown2 hg2 hat2 hB2 hblk))
  go_ret
  exact ⟨rfl, _, gE.out⟩
set_option maxRecDepth 100000 in
set_option maxHeartbeats 1000000 in
theorem rcut_any (h : ROwn w B Q lim mk v l) (n : Nat) (h1 : mk ≤ n) (h2 : n ≤ l.length) : Calls Try.prog 18 #[.pointer (some ⟨Q, 0, none⟩), .int .i64 (n : Nat)] w fun e w' => e = .returned (.int .i64 0) ∧ RLeft w B Q lim mk v (l.take n) w' := by
  obtain ⟨l2, hl2⟩ : ∃ l2, l2 = l.take n := ⟨_, rfl⟩
  rw [← hl2]
  have gl2 := Lib.hid hl2
  clear hl2
  obtain ⟨A, c, rfl, hnil, hc, _, hs, _⟩ := owns_sl h.row
  have hb1 := (Below.refl w.heap.size w).alloc (Nat.le_refl _) (.cells #[] 9)
  have gh := Lib.hid h
  have gs := Lib.hid (hs.below hb1)
  have gb := Lib.hid hb1
  have c0 := h.c0
  have c1 := h.c1
  have d1 := (h.below hb1).c1
  have c2 := h.c2
  have hlim : l.length ≤ 100000 := Nat.le_trans h.le h.lim_le
  obtain ⟨m, hm⟩ : ∃ m, m = l.length := ⟨_, rfl⟩
  have gm := Lib.hid hm
  rw [← hm] at c1 d1 gs hnil h2 hc hlim
  have gnil := Lib.hid (show A = none → n = 0 ∧ c = 0 from fun e => by have := hnil e; omega)
  have gmk := Lib.hid h1
  have gh2 := Lib.hid h2
  have i0 : (mk : Int) ≤ (n : Int) := by omega
  have i1 : (n : Int) ≤ (m : Int) := by omega
  have j1 : n ≤ c := by omega
  have hs2 : ∀ w' : World, (Instr.slice 39 (.slice A m c) none (some (.int .i64 (n : Int))) none).run Try.prog w' = .ok (.slice A n c) w' := by
    intro w'
    cases A <;> simp [Instr.slice, run_underlying Try.underlying39, Instr.sliceBounds, Instr.sliceBound, asIntOf, j1, Addr.add]
  clear h hs hnil hm hc hb1
  go_enter Try.func18, Try.ntmps18
  go_wp2_with (first
    | (go_at_call 46; refine (rvalid_any Q _ c0).mono ?_; rintro e w' ⟨rfl, rfl⟩)
    | (at_builtin
       refine list_app _ rfl (.tmp 24) (.tmp 30) rfl w.heap.size _ 0 (vs []) rfl (empty_owns w (Nat.le_refl _)) A n c (l.take n) rfl (by rw [List.length_take, ← gm.out]; omega) (gs.out.take gh2.out).news gnil.out (by omega) gb.out.size ?_
       intro v2 w2 hown2 hg2 hat2
       have hB2 := own_grown gb.out hg2 (Nat.le_refl _)
       have gE := Lib.hid (gh.out.put hB2 (l' := l2) (n := 0 + n) (by rw [gl2.out, List.length_take, ← gm.out]; omega) (by rw [gl2.out]; simpa [vs] using hown2) (by rw [gl2.out, List.length_take]; have := gh.out.le; omega) (by rw [gl2.out, List.length_take, ← gm.out]; omega))
       have hblk := (hB2.block Q gh.out.lt).trans gh.out.blk
       have k4 := frozen_of_row w2 Q 1 _ _ hblk
       have k5 := (cell_of_row w2 Q 1 _ _ (0, 0) hblk).trans (show _ = some (.slice A l.length c) from rfl)
       obtain ⟨A3, p3, rfl, -⟩ := owns_sl gE.out.1.row
       clear hown2 hg2 hat2 hB2 hblk))
  go_ret
  exact ⟨rfl, _, gE.out⟩
set_option maxRecDepth 100000 in
set_option maxHeartbeats 1000000 in
theorem rsince_any (h : ROwn w B Q lim mk v l) : Calls Try.prog 51 #[.pointer (some ⟨Q, 0, none⟩)] w fun e w' => ∃ v', e = .returned v' ∧ Hid (w'.ownsRow w.heap.size 9 1 v' (l.drop mk).length (vs (l.drop mk)) ∧ Below w.heap.size w w') := by
  obtain ⟨A, c, rfl, hnil, hc, _, hs, _⟩ := owns_sl h.row
  have hb1 := ((Below.refl w.heap.size w).alloc (Nat.le_refl _) (.cells #[] 9)).drew
  have gh := Lib.hid h
  have gs := Lib.hid (hs.below hb1)
  have gb := Lib.hid hb1
  have c0 := h.c0
  have c1 := h.c1
  have c2 := h.c2
  have hlim : l.length ≤ 100000 := Nat.le_trans h.le h.lim_le
  have h2 := h.mkle
  obtain ⟨m, hm⟩ : ∃ m, m = l.length := ⟨_, rfl⟩
  have gm := Lib.hid hm
  rw [← hm] at c1 gs hnil h2 hc hlim
  have i1 : (mk : Int) ≤ (m : Int) := by omega
  have hs1 : ∀ w' : World, (Instr.slice 39 (.slice A m c) (some (.int .i64 (mk : Int))) none none).run Try.prog w' = .ok (.slice (if c = mk then A else Option.map (fun x => x.add mk) A) (m - mk) (c - mk)) w' := by
    intro w'
    simp [Instr.slice, run_underlying Try.underlying39, Instr.sliceBounds, Instr.sliceBound, asIntOf, h2, Try.sizeOf9]
  obtain ⟨X, hX⟩ : ∃ X, X = (if c = mk then A else Option.map (fun x => x.add mk) A) := ⟨_, rfl⟩
  have gnil := Lib.hid (show X = none → m - mk = 0 ∧ c - mk = 0 from fun e => by
    rw [hX] at e
    have hA : A = none := by
      split at e
      · exact e
      · simpa using e
    have := hnil hA
    omega)
  have gnews := Lib.hid (show ∀ ad, X = some ad → ∀ (j : Nat) u, (vs (l.drop mk))[j]? = some u → (w.alloc (.cells #[] 9)).drew.cell? (ad.add j) = some u from fun ad e => by
    rw [hX] at e
    exact gs.out.news_drop h2 hc ad e)
  rw [← hX] at hs1
  have e1 := Lib.hid (empty_owns w (Nat.le_refl _)).drew
  obtain ⟨q, hq⟩ : ∃ q, q = m - mk := ⟨_, rfl⟩
  obtain ⟨p, hp⟩ : ∃ p, p = c - mk := ⟨_, rfl⟩
  have gq := Lib.hid hq
  rw [← hq, ← hp] at hs1 gnil
  have hq6 : q ≤ 100000 := by omega
  clear h hs hnil hm hc hb1 hX h2 i1 hq hp
  go_enter Try.func51, Try.ntmps51
  go_wp2_with (go_at_call 46; refine (rvalid_any Q _ c0).mono ?_; rintro e w' ⟨rfl, rfl⟩)
  go_region_held3 (fun w' => w'.cell? ⟨Q, 1, none⟩ = some (.slice A m c) ∧ w'.cell? ⟨Q, 2, none⟩ = some (.int .i64 (mk : Nat))) (first | go_keep | exact ⟨c1, c2⟩)
    (first
    | (refine step_app _ rfl (.tmp 6) (.tmp 15) rfl w.heap.size _ 0 (vs []) rfl e1.out X q p (l.drop mk) rfl (by rw [List.length_drop, ← gm.out, gq.out]) gnews.out gnil.out (by omega) gb.out.size ?_
       intro v2 w2 hown2 hg2 hat2
       have gE := Lib.hid (show w2.ownsRow w.heap.size 9 1 v2 (l.drop mk).length (vs (l.drop mk)) ∧ Below w.heap.size w w2 from ⟨by rw [List.length_drop, ← gm.out, ← gq.out]; simpa [vs] using hown2, own_grown gb.out hg2 (Nat.le_refl _)⟩)
       have k1 := (gE.out.2.cell (lt_of_cell c1)).trans c1
       have k2 := (gE.out.2.cell (lt_of_cell c2)).trans c2
       clear hown2 hg2 hat2))
  all_goals go_wp2_with fail
  all_goals go_ret
  all_goals exact ⟨_, rfl, gE.out⟩
set_option maxRecDepth 100000 in
set_option maxHeartbeats 1000000 in
theorem rcopy_any (h : ROwn w B Q lim mk v l) : Calls Try.prog 22 #[.pointer (some ⟨Q, 0, none⟩)] w fun e w' => ∃ R, e = .returned (.pointer (some ⟨R, 0, none⟩)) ∧ Hid (∃ v', ROwn w' w.heap.size R lim mk v' l ∧ Below w.heap.size w w') := by
  obtain ⟨A, c, rfl, hnil, _, _, hs, _⟩ := owns_sl h.row
  have hb1 := ((Below.refl w.heap.size w).alloc (Nat.le_refl _) (.cells #[] 9)).drew
  have gh := Lib.hid h
  have gs := Lib.hid (hs.below hb1)
  have gb := Lib.hid hb1
  have c0 := h.c0
  have c1 := h.c1
  have c2 := h.c2
  have c3 := h.c3
  have hlim : l.length ≤ 100000 := Nat.le_trans h.le h.lim_le
  obtain ⟨m, hm⟩ : ∃ m, m = l.length := ⟨_, rfl⟩
  have gm := Lib.hid hm
  rw [← hm] at c1 gs hnil hlim
  have gnil := Lib.hid hnil
  have e1 := Lib.hid (empty_owns w (Nat.le_refl _)).drew
  clear h hs hnil hm hb1
  go_enter Try.func22, Try.ntmps22
  go_wp2_with (go_at_call 46; refine (rvalid_any Q _ c0).mono ?_; rintro e w' ⟨rfl, rfl⟩)
  go_region_held3 (fun w' => w'.cell? ⟨Q, 1, none⟩ = some (.slice A m c) ∧ w'.cell? ⟨Q, 2, none⟩ = some (.int .i64 (mk : Nat)) ∧ w'.cell? ⟨Q, 3, none⟩ = some (.int .i64 (lim : Nat))) (first | go_keep | exact ⟨c1, c2, c3⟩ | exact ⟨k1, k2, k3⟩)
    (first
    | (refine step_app _ rfl (.tmp 6) (.tmp 10) rfl w.heap.size _ 0 (vs []) rfl e1.out A m c l rfl gm.out.symm gs.out.news gnil.out (by omega) gb.out.size ?_
       intro v2 w2 hown2 hg2 hat2
       have gE := Lib.hid (show w2.ownsRow w.heap.size 9 1 v2 l.length (vs l) ∧ Below w.heap.size w w2 from ⟨by rw [← gm.out]; simpa [vs] using hown2, own_grown gb.out hg2 (Nat.le_refl _)⟩)
       have k1 := (gE.out.2.cell (lt_of_cell c1)).trans c1
       have k2 := (gE.out.2.cell (lt_of_cell c2)).trans c2
       have k3 := (gE.out.2.cell (lt_of_cell c3)).trans c3
       obtain ⟨A3, p3, rfl, -⟩ := owns_sl gE.out.1
       clear hown2 hg2 hat2))
  all_goals go_wp2_with fail
  all_goals go_ret
  all_goals exact ⟨_, rfl, _, ⟨gE.out.2.size, World.alloc_heap_new _ _, gE.out.1.alloc _, gh.out.mkle, gh.out.le, gh.out.lim_le⟩, gE.out.2.alloc gE.out.2.size _⟩
end
end Go.Proofs.Ytidkdidlndfbfaa.HS
