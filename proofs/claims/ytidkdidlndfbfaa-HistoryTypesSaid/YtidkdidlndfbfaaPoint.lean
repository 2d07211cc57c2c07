/- Lists of points: New, Add, At. -/
import Derived.Test.YtidkdidlndfbfaaBase
import Derived.Deep.AppendLies
import Derived.Deep.RegionLaw
import Derived.RangeFuncBox
namespace Go.Proofs.Ytidkdidlndfbfaa.HP
open Go.RowKit
abbrev E : Type := Int × Int
def fl (l : List E) : List Value := l.flatMap fun x => [Value.int .i64 x.1, .int .i64 x.2]
theorem length_fl (l : List E) : (fl l).length = l.length * 2 := by
  induction l with
  | nil => rfl
  | cons x l ih => simp only [fl, List.flatMap_cons, List.length_append, List.length_cons, List.length_nil] at *; omega
theorem fl_append (a b : List E) : fl (a ++ b) = fl a ++ fl b := by simp [fl]
theorem fl_get : ∀ (l : List E) (i : Nat) (x : E), l[i]? = some x → (fl l)[i * 2]? = some (.int .i64 x.1) ∧ (fl l)[i * 2 + 1]? = some (.int .i64 x.2)
  | [], i, x, h => by simp at h
  | y :: l, 0, x, h => by
    obtain rfl : y = x := by simpa using h
    simp [fl]
  | y :: l, i + 1, x, h => by
    have ih := fl_get l i x (by simpa using h)
    have e : fl (y :: l) = (.int .i64 y.1 :: [.int .i64 y.2]) ++ fl l := by simp [fl]
    have e1 : (i + 1) * 2 = 2 + i * 2 := by omega
    have e2 : (i + 1) * 2 + 1 = 2 + (i * 2 + 1) := by omega
    rw [e, e2, e1, List.getElem?_append_right (by simp), List.getElem?_append_right (by simp)]
    simp only [List.length_cons, List.length_nil]
    rw [show 2 + i * 2 - (0 + 1 + 1) = i * 2 by omega, show 2 + (i * 2 + 1) - (0 + 1 + 1) = i * 2 + 1 by omega]
    exact ih
theorem infoE : (Try.prog.info? 72).map (fun i => (i.zero, i.size, i.bytes)) = some (some (.agg #[.int .i64 0, .int .i64 0]), 2, 16) := by kernel_rfl
theorem infoL : ∃ i0, Try.prog.info? 96 = some i0 := Option.isSome_iff_exists.1 (by kernel_rfl)
def lcells (P lim mk : Nat) (v : Value) : Array Value := #[.pointer (some ⟨P, 0, none⟩), .int .i64 (lim : Nat), .int .i64 (mk : Nat), v]
structure HOwn (w : World) (B P lim : Nat) (v : Value) (l : List E) : Prop where
  hP : B ≤ P
  blk : w.heap[P]? = some (.cells (lcells P lim 0 v) 96 (0, 0))
  row : w.ownsRow B 72 2 v l.length (fl l)
  le : l.length ≤ lim
  lim_le : lim ≤ 100000
section
variable {w : World} {B P lim : Nat} {v : Value} {l : List E}
theorem HOwn.c0 (h : HOwn w B P lim v l) : w.cell? ⟨P, 0, none⟩ = some (.pointer (some ⟨P, 0, none⟩)) := (cell_of_row w P 0 _ _ (0, 0) h.blk).trans rfl
theorem HOwn.c1 (h : HOwn w B P lim v l) : w.cell? ⟨P, 1, none⟩ = some (.int .i64 (lim : Nat)) := (cell_of_row w P 1 _ _ (0, 0) h.blk).trans rfl
theorem HOwn.c3 (h : HOwn w B P lim v l) : w.cell? ⟨P, 3, none⟩ = some v := (cell_of_row w P 3 _ _ (0, 0) h.blk).trans rfl
theorem HOwn.lt (h : HOwn w B P lim v l) : P < w.heap.size := lt_of_heap h.blk
theorem HOwn.below {w' : World} (h : HOwn w B P lim v l) (hb : Below w.heap.size w w') : HOwn w' B P lim v l :=
  ⟨h.hP, (hb.block P h.lt).trans h.blk, owns_below h.row hb, h.le, h.lim_le⟩
theorem HOwn.ne (h : HOwn w B P lim v l) : v.ownBlock ≠ some P := by
  intro he
  rcases h.row.2 with ⟨h0, _⟩ | ⟨g, cap, cur, hv, _, hh, _⟩
  · rw [h0] at he; cases he
  · rw [hv] at he
    obtain rfl : g = P := by simpa [Value.ownBlock] using he
    rw [h.blk] at hh
    cases hh
theorem HOwn.foot_le (h : HOwn w B P lim v l) : ∀ b, Foot P v b → B ≤ b := fun b hb => by
  rcases hb with rfl | hb
  · exact h.hP
  · exact (h.row.lt b hb).1
theorem owns_slice (h : w.ownsRow B 72 2 v l.length (fl l)) : ∃ A c, v = .slice A l.length c ∧ l.length ≤ c ∧ c ≤ 9223372036854775807 ∧ (∀ i x, l[i]? = some x → ∃ g, A = some ⟨g, 0, none⟩ ∧ w.cell? ⟨g, i * 2, none⟩ = some (.int .i64 x.1) ∧ w.cell? ⟨g, i * 2 + 1, none⟩ = some (.int .i64 x.2)) := by
  have h0 := h
  rcases h.2 with ⟨rfl, e⟩ | ⟨g, cap, cur, rfl, hg, hh, hc, hm, _⟩
  · obtain rfl : l = [] := List.eq_nil_of_length_eq_zero e
    exact ⟨none, 0, rfl, Nat.le_refl _, by omega, fun i x hx => by simp at hx⟩
  · refine ⟨_, cap, rfl, hc, by unfold maxLen at hm; omega, fun i x hx => ⟨g, rfl, ?_⟩⟩
    obtain ⟨h1, h2⟩ := fl_get l i x hx
    have e1 := h0.cells (g := g) rfl _ _ h1
    have e2 := h0.cells (g := g) rfl _ _ h2
    rw [add_plain, Nat.zero_add] at e1 e2
    exact ⟨e1, e2⟩
end
theorem eql_self (a : Addr) (w : World) : (binOp .eql 68 (.pointer (some a)) (.pointer (some a))).run Try.prog w = .ok (.bool true) w := by
  obtain ⟨i0, hi⟩ := infoL
  exact run_eql_ptr_same w a Try.underlying68 hi
theorem valid_any (P : Nat) (w : World) (h : w.cell? ⟨P, 0, none⟩ = some (.pointer (some ⟨P, 0, none⟩))) : Calls Try.prog 59 #[.pointer (some ⟨P, 0, none⟩)] w fun e w' => e = .returned (.bool true) ∧ w = w' := by
  have hq := eql_self ⟨P, 0, none⟩
  go_enter Try.func59, Try.ntmps59
  go_wp2
  go_ret
  exact ⟨rfl, rfl⟩
theorem new_bad (n : Int) (w : World) (h : n < 0 ∨ 100000 < n) : Calls Try.prog 37 #[.int .i64 n] w fun e w' => e = .returned (.tuple #[.pointer none, .int .i64 2]) ∧ w = w' := by
  rcases h with h | h
  · go_enter Try.func37, Try.ntmps37
    go_wp2
    go_ret2
    exact ⟨rfl, rfl⟩
  · have h2 : ¬ (n < 0) := by omega
    go_enter Try.func37, Try.ntmps37
    go_wp2
    go_ret2
    exact ⟨rfl, rfl⟩
theorem new_any (n : Nat) (w : World) (h : n ≤ 100000) : Calls Try.prog 37 #[.int .i64 (n : Nat)] w fun e w' => e = .returned (.tuple #[.pointer (some ⟨w.heap.size, 0, none⟩), .int .i64 0]) ∧ Hid (HOwn w' w.heap.size w.heap.size n (.slice none 0 0) [] ∧ Below w.heap.size w w') := by
  have i1 : (0 : Int) ≤ (n : Int) := by omega
  have i2 : (n : Int) ≤ 100000 := by omega
  go_enter Try.func37, Try.ntmps37
  go_wp2_with fail
  go_ret2
  exact ⟨rfl, ⟨Nat.le_refl _, World.alloc_heap_new _ _, World.ownsRow_nil _ _ _ _, Nat.zero_le _, h⟩, (Below.refl _ w).alloc (Nat.le_refl _) _⟩
section
variable {w : World} {B P lim : Nat} {v : Value} {l : List E}
theorem add_full (h : HOwn w B P lim v l) (hl : l.length = lim) (x : E) : Calls Try.prog 38 #[.pointer (some ⟨P, 0, none⟩), .agg #[.int .i64 x.1, .int .i64 x.2]] w fun e w' => e = .returned (.int .i64 4) ∧ Below w.heap.size w w' := by
  have hb := (Below.refl w.heap.size w).alloc (Nat.le_refl _) (.cells #[.int .i64 x.1, .int .i64 x.2] 72)
  have h' := h.below hb
  obtain ⟨A, c, rfl, _⟩ := owns_slice h.row
  have c0 := h'.c0
  have c1 := h'.c1
  have c3 := h'.c3
  rw [hl] at c3
  have gb := Lib.hid hb
  clear h h' hl hb
  go_enter Try.func38, Try.ntmps38
  go_wp2_with (go_at_call 59; refine (valid_any _ _ c0).mono ?_; rintro e w' ⟨rfl, rfl⟩)
  go_region
  go_wp2_with fail
  go_ret
  exact ⟨rfl, gb.out.drew⟩
/-- The row has a further element. -/
theorem grow_ends {w1 w2 : World} (h : HOwn w B P lim v l) (hl : l.length < lim) (hB : Below w.heap.size w w1) {v' : Value} {x : E} (hr : w2.ownsRow B 72 2 v' (l.length + 1) (fl l ++ [.int .i64 x.1, .int .i64 x.2])) (hg : w1.grownBy w2 v.ownBlock)
    (hat : v.ownBlock = v'.ownBlock ∨ v'.ownBlock = some w1.heap.size) :
    HOwn (w2.setCell ⟨P, 3, none⟩ v') B P lim v' (l ++ [x]) ∧ Turn (Foot P v) (Foot P v') w (w2.setCell ⟨P, 3, none⟩ v') := by
  have h1 := h.below hB
  have hb2 : w2.heap[P]? = w.heap[P]? := (hg.block P h1.lt (fun e => h.ne e.symm)).trans (hB.block P h.lt)
  have hne : v'.ownBlock ≠ some P := by
    intro hg'
    rcases hat with h2 | h2
    · exact h.ne (h2 ▸ hg')
    · rw [hg'] at h2
      have := Option.some.inj h2
      have := h1.lt
      omega
  have hlen : (l ++ [x]).length = l.length + 1 := by simp
  refine ⟨⟨h.hP, ?_, ?_, by omega, h.lim_le⟩, ?_, fun b hb => ?_⟩
  · rw [heap_setCell_same w2 P 3 _ _ _ (hb2.trans h.blk)]
    rfl
  · rw [hlen, fl_append]
    exact owns_of_block hr fun g hg => Below.heap_setCell w2 _ _ g (fun e => hne (by rw [← show g = P from e]; exact hg))
  · exact ((But.of_below (F := Foot P v) hB).grown hg (fun g hg => .inl (.inr hg))).setCell (.inl (.inl rfl)) _
  · rcases hb with rfl | hb
    · exact .inl (.inl rfl)
    · rcases hat with h2 | h2
      · exact .inl (.inr (h2 ▸ hb))
      · rw [hb] at h2
        have := Option.some.inj h2
        have := hB.size
        exact .inr (by omega)
theorem grow_block {w1 w2 : World} (h : HOwn w B P lim v l) (hB : Below w.heap.size w w1) (hg : w1.grownBy w2 v.ownBlock) : w2.heap[P]? = some (.cells (lcells P lim 0 v) 96 (0, 0)) :=
  ((hg.block P (h.below hB).lt (fun e => h.ne e.symm)).trans (hB.block P h.lt)).trans h.blk
def Left (w : World) (B P lim : Nat) (v : Value) (l : List E) (w' : World) : Prop := ∃ v', HOwn w' B P lim v' l ∧ Turn (Foot P v) (Foot P v') w w'
set_option maxRecDepth 100000 in
set_option maxHeartbeats 1000000 in
theorem add_any (h : HOwn w B P lim v l) (hl : l.length < lim) (x : E) : Calls Try.prog 38 #[.pointer (some ⟨P, 0, none⟩), .agg #[.int .i64 x.1, .int .i64 x.2]] w fun e w' => e = .returned (.int .i64 0) ∧ Left w B P lim v (l ++ [x]) w' := by
  have gO := Lib.hid h
  obtain ⟨i0, hinf, hz0, hz1, hz2⟩ := info_parts infoE
  have hb := (Below.refl w.heap.size w).alloc (Nat.le_refl _) (.cells #[.int .i64 x.1, .int .i64 x.2] 72)
  have h' := h.below hb
  obtain ⟨A, c, rfl, hc, hcm, _⟩ := owns_slice h.row
  have hB : B ≤ w.heap.size := by have := h.hP; have := h.lt; omega
  have c0 := h'.c0
  have c1 := h'.c1
  have c3 := h'.c3
  have hlim := h.lim_le
  have hPw := h.lt
  obtain ⟨m, hm⟩ : ∃ m, m = l.length := ⟨_, rfl⟩
  have gm := Lib.hid hm
  have gbx := Lib.hid (World.alloc_heap_new w (.cells #[.int .i64 x.1, .int .i64 x.2] 72))
  have x0 := (cell_of_row _ w.heap.size 0 _ _ (0, 0) gbx.out).trans rfl
  have x1 := (cell_of_row _ w.heap.size 1 _ _ (0, 0) gbx.out).trans rfl
  rw [← hm] at c3 hc hl
  have hne : ((m : Int) == (lim : Int)) = false := by simp; omega
  have hne2 : (decide ((m : Int) = (lim : Int))) = false := by simp; omega
  have hrow : (w.alloc (.cells #[.int .i64 x.1, .int .i64 x.2] 72)).ownsRow B 72 2 (.slice A m c) m (fl l) := by rw [hm]; exact h'.row
  have gb := Lib.hid hb
  clear h h' hm hb
  go_enter Try.func38, Try.ntmps38
  go_wp2_with (go_at_call 59; refine (valid_any _ _ c0).mono ?_; rintro e w' ⟨rfl, rfl⟩)
  go_region
  go_wp2_with fail
  obtain ⟨W, hW⟩ : ∃ W, W = (w.alloc (.cells #[.int .i64 x.1, .int .i64 x.2] 72)).drew := ⟨_, rfl⟩
  have hBW : Below w.heap.size w W := by rw [hW]; exact gb.out.drew
  have hrow2 : W.ownsRow B 72 2 (.slice A m c) m (fl l) := by rw [hW]; exact hrow
  have hWs : W.heap.size = w.heap.size + 1 := by rw [hW]; simp [World.drew]
  have y3 : W.cell? ⟨P, 3, none⟩ = some (.slice A m c) := by rw [hW]; exact c3
  have y0 : W.cell? ⟨w.heap.size, 0, none⟩ = some (.int .i64 x.1) := by rw [hW]; exact x0
  have y1 : W.cell? ⟨w.heap.size, 1, none⟩ = some (.int .i64 x.2) := by rw [hW]; exact x1
  have z3 : (W.alloc (.cells #[.int .i64 x.1, .int .i64 x.2] 72)).cell? ⟨P, 3, none⟩ = some (.slice A m c) := (World.cell?_alloc_lt W _ ⟨P, 3, none⟩ (by show P < W.heap.size; omega)).trans y3
  rw [← hW]
  have gBW := Lib.hid hBW
  have gWs := Lib.hid hWs
  have gbw := Lib.hid hBW.size
  have hml : m + 1 ≤ 100000 := by omega
  have gml := Lib.hid hl
  have gPw := Lib.hid hPw
  have gB' := Lib.hid (Nat.le_trans hB hBW.size)
  clear hrow c0 c1 c3 x0 x1 hW hBW hWs gbx hne hne2 hl hlim hc hcm hB hPw
  go_region_law (
    (refine step_append_lies _ (by rfl) _ _ _ (by rfl) B 72 i0 _ 2 16 Try.underlying94 hinf hz0 hz1 hz2 rfl (by omega) (.slice A m c) m (fl l) (by rfl) ((hrow2.alloc _).drew) ⟨W.heap.size, 0, none⟩ 1 1 [.int .i64 x.1, .int .i64 x.2] (by rfl) (by rfl) (World.news_of_block (cs := #[.int .i64 x.1, .int .i64 x.2]) (t := 72) (fr := (0, 0)) (heap_alloc_new W _)) (by simp [Value.oneCell']) (by omega) (by unfold maxLen; omega) (by omega) (by have := gB'.out; simp [World.drew]; omega) (W.heap.size + 1) (by simp [World.drew]) ?_
     intro gg cap w2 hr2 hg2 hat hlt2
     have hBw : Below w.heap.size w (W.alloc (.cells #[.int .i64 x.1, .int .i64 x.2] 72)).drew := (gBW.out.alloc gBW.out.size _).drew
     have b2 := grow_block gO.out hBw (by rw [← gm.out]; exact hg2)
     have k4 := frozen_of_row w2 P 3 _ _ b2
     have k5 := (cell_of_row w2 P 3 _ _ (0, 0) b2).trans (show _ = some (.slice A l.length c) from rfl)
     have gE := Lib.hid (grow_ends (x := x) gO.out (by rw [← gm.out]; exact gml.out) hBw (by rw [← gm.out]; exact hr2) (by rw [← gm.out]; exact hg2) (hat.imp (fun h => by rw [← gm.out]; exact h) (fun h => by rw [h]; simp [Value.ownBlock, World.drew])))
     clear hr2 hg2 hat hlt2 hBw b2))
  all_goals go_wp2_with fail
  all_goals go_ret
  all_goals exact ⟨rfl, _, gE.out⟩
end
end Go.Proofs.Ytidkdidlndfbfaa.HP
