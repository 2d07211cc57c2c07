/- Add, Clear, Cut. -/
import Derived.Test.YtidkdidlndfbfaaHSList
namespace Go.Proofs.Ytidkdidlndfbfaa.HS
open Go.RowKit
section
variable {w : World} {B P lim mk : Nat} {v : Value} {l : List E}
theorem add_full (h : HOwn w B P lim mk v l) (hl : l.length = lim) (x : E) : Calls Try.prog 13 #[.pointer (some ⟨P, 0, none⟩), (.string (x))] w fun e w' => e = .returned (.int .i64 4) ∧ Below w.heap.size w w' := by
  obtain ⟨A, c, rfl, _⟩ := owns_sl h.row
  have c0 := h.c0
  have c1 := h.c1
  have c3 := h.c3
  rw [hl] at c3
  clear h hl
  go_enter Try.func13, Try.ntmps13
  go_wp2_with (go_at_call 45; refine (valid_any _ _ c0).mono ?_; rintro e w' ⟨rfl, rfl⟩)
  go_region
  go_wp2_with fail
  go_ret
  exact ⟨rfl, (Below.refl _ w).drew⟩
theorem src_one (W : World) (x : E) : ∀ j u, (vs [x])[j]? = some u → (W.alloc (.cells #[(.string (x))] 9)).cell? ((⟨W.heap.size, 0, none⟩ : Addr).add j) = some u := by
  intro j u hj
  rw [add_plain, Nat.zero_add]
  refine (cell_of_row _ W.heap.size j _ _ (0, 0) (World.alloc_heap_new W (.cells #[(.string (x))] 9))).trans ?_
  rw [← hj]
  simp [vs, ev]
/-- A store into the fourth cell. -/
theorem store3 {w1 : World} (h : HOwn w B P lim mk v l) {v' : Value} {l' : List E} (hb : w1.heap[P]? = w.heap[P]?) (hr : w1.ownsRow B 9 1 v' l'.length (vs l')) (hm : mk ≤ l'.length) (hle : l'.length ≤ lim)
    (hne : v'.ownBlock ≠ some P) : HOwn (w1.setCell ⟨P, 3, none⟩ v') B P lim mk v' l' := by
  refine ⟨h.hP, ?_, owns_of_block hr fun g hg => Below.heap_setCell w1 _ _ g (fun e => hne (by rw [← show g = P from e]; exact hg)), hm, hle, h.lim_le⟩
  rw [heap_setCell_same w1 P 3 _ _ _ (hb.trans h.blk)]
  rfl
/-- The row has a further element. -/
theorem grow_ends {w1 w2 : World} (h : HOwn w B P lim mk v l) (hl : l.length < lim) (hB : Below w.heap.size w w1) {v' : Value} {x : E} (hr : w2.ownsRow B 9 1 v' (l.length + 1) (vs l ++ vs [x])) (hg : w1.grownBy w2 v.ownBlock)
    (hat : v'.ownBlock = v.ownBlock ∨ v'.ownBlock = some w1.heap.size) :
    HOwn (w2.setCell ⟨P, 3, none⟩ v') B P lim mk v' (l ++ [x]) ∧ Turn (Foot P v) (Foot P v') w (w2.setCell ⟨P, 3, none⟩ v') := by
  have h1 := h.below hB
  have hb2 : w2.heap[P]? = w.heap[P]? := (hg.block P h1.lt (fun e => h.ne e.symm)).trans (hB.block P h.lt)
  have hne : v'.ownBlock ≠ some P := by
    intro hg'
    rcases hat with h2 | h2
    · exact h.ne (h2 ▸ hg')
    · rw [hg'] at h2
      have := Option.some.inj h2
      have := h1.lt
      omega
  have hlen : (l ++ [x]).length = l.length + 1 := by simp
  refine ⟨store3 h hb2 (by rw [hlen, vs_append]; exact hr) (by rw [hlen]; have := h.mkle; omega) (by omega) hne, ?_, fun b hb => ?_⟩
  · exact ((But.of_below (F := Foot P v) hB).grown hg (fun g hg => .inl (.inr hg))).setCell (.inl (.inl rfl)) _
  · rcases hb with rfl | hb
    · exact .inl (.inl rfl)
    · rcases hat with h2 | h2
      · exact .inl (.inr (h2 ▸ hb))
      · rw [hb] at h2
        have := Option.some.inj h2
        have := hB.size
        exact .inr (by omega)
/-- The block behind an append. -/
theorem grow_block {w1 w2 : World} (h : HOwn w B P lim mk v l) (hB : Below w.heap.size w w1) (hg : w1.grownBy w2 v.ownBlock) : w2.heap[P]? = some (.cells (lcells P lim mk v) 41 (0, 0)) :=
  ((hg.block P (h.below hB).lt (fun e => h.ne e.symm)).trans (hB.block P h.lt)).trans h.blk
/-- What an operation leaves: a list, perhaps in another row. -/
def Left (w : World) (B P lim mk : Nat) (v : Value) (l : List E) (w' : World) : Prop := ∃ v', HOwn w' B P lim mk v' l ∧ Turn (Foot P v) (Foot P v') w w'
set_option maxHeartbeats 1000000 in
theorem add_any (h : HOwn w B P lim mk v l) (hl : l.length < lim) (x : E) : Calls Try.prog 13 #[.pointer (some ⟨P, 0, none⟩), (.string (x))] w fun e w' => e = .returned (.int .i64 0) ∧ Left w B P lim mk v (l ++ [x]) w' := by
  obtain ⟨A, c, rfl, _, hc, hcm, _⟩ := owns_sl h.row
  obtain ⟨i0, hinf, hz0, hz1, hz2⟩ := info_parts infoE
  have gO := Lib.hid h
  have hB : B ≤ w.heap.size := by have := h.hP; have := h.lt; omega
  have c0 := h.c0
  have c1 := h.c1
  have c3 := h.c3
  have hlim := h.lim_le
  obtain ⟨m, hm⟩ : ∃ m, m = l.length := ⟨_, rfl⟩
  have gm := Lib.hid hm
  rw [← hm] at c3 hc hl
  have hne : ((m : Int) == (lim : Int)) = false := by simp; omega
  have hne2 : (decide ((m : Int) = (lim : Int))) = false := by simp; omega
  have hrow : w.ownsRow B 9 1 (.slice A m c) m (vs l) := by rw [hm]; exact h.row
  clear h hm
  go_enter Try.func13, Try.ntmps13
  go_wp2_with (go_at_call 45; refine (valid_any _ _ c0).mono ?_; rintro e w' ⟨rfl, rfl⟩)
  go_region
  have hrow2 : w.drew.ownsRow B 9 1 (.slice A m c) m (vs l) := hrow
  clear hrow
  go_wp2_with (
      (at_builtin; refine wpList_append_own_at _ rfl _ _ 39 rfl B 9 i0 _ 1 16 Try.underlying39 hinf hz0 hz1 hz2 rfl (by decide) _ _ _ rfl (hrow2.alloc _) ⟨w.heap.size, 0, none⟩ 1 1 (vs [x]) rfl rfl (src_one w.drew x) (vs_one _) (by unfold maxLen; omega) (by omega) (by simp; omega) ?_
       intro v2 w2 hr2 hg2 _ hat2
       obtain ⟨g2, cap2, rfl⟩ := ownsRow_succ hr2
       have hBw := ((Below.refl w.heap.size w).drew).alloc (Nat.le_refl _) (.cells #[(.string (x))] 9)
       have b2 := grow_block gO.out hBw (by rw [← gm.out]; exact hg2)
       have k4 := frozen_of_row w2 P 3 _ _ b2
       have k5 := (cell_of_row w2 P 3 _ _ (0, 0) b2).trans (show _ = some (.slice A l.length c) from rfl)
       have gE := Lib.hid (grow_ends gO.out (by rw [← gm.out]; exact hl) hBw (by rw [← gm.out]; exact hr2) (by rw [← gm.out]; exact hg2) (by rw [← gm.out]; exact hat2))
       clear hr2 hg2 hat2 hBw b2))
  go_ret
  exact ⟨rfl, _, gE.out⟩
theorem clear_any (h : HOwn w B P lim mk v l) : Calls Try.prog 19 #[.pointer (some ⟨P, 0, none⟩)] w fun e w' => e = .returned (.tuple #[]) ∧ Hid (HOwn w' B P lim 0 (.slice none 0 0) [] ∧ Turn (Foot P v) (Foot P (.slice none 0 0)) w w') := by
  have c0 := h.c0
  have c2 := h.c2
  have c3 := h.c3
  have f2 := h.fz 2
  have f3 := h.fz 3
  have hb1 : (w.setCell ⟨P, 2, none⟩ (.int .i64 ((0 : Nat) : Int))).heap[P]? = some (.cells (lcells P lim 0 v) 41 (0, 0)) := (h.remark 0 (Nat.zero_le _)).1.blk
  have k3 := (cell_of_row _ P 3 _ _ (0, 0) hb1).trans (show _ = some v from rfl)
  have k4 := frozen_of_row _ P 3 _ _ hb1
  have gE := Lib.hid (show HOwn ((w.setCell ⟨P, 2, none⟩ (.int .i64 ((0 : Nat) : Int))).setCell ⟨P, 3, none⟩ (.slice none 0 0)) B P lim 0 (.slice none 0 0) [] ∧ Turn (Foot P v) (Foot P (.slice none 0 0)) w ((w.setCell ⟨P, 2, none⟩ (.int .i64 ((0 : Nat) : Int))).setCell ⟨P, 3, none⟩ (.slice none 0 0)) from by
    refine ⟨store3 (h.remark 0 (Nat.zero_le _)).1 rfl (World.ownsRow_nil _ _ _ _) (Nat.le_refl _) (Nat.zero_le _) (by simp [Value.ownBlock]), ((But.refl _ w).setCell (.inl (.inl rfl)) _).setCell (.inl (.inl rfl)) _, fun b hb => ?_⟩
    rcases hb with rfl | hb
    · exact .inl (.inl rfl)
    · simp [Value.ownBlock] at hb)
  clear h hb1
  go_enter Try.func19, Try.ntmps19
  go_wp2_with (go_at_call 45; refine (valid_any _ _ c0).mono ?_; rintro e w' ⟨rfl, rfl⟩)
  go_end0
  exact ⟨rfl, gE.out⟩
end
/-- A row some of whose cells are written. -/
theorem setCells_row {g : Nat} {t : TypeId} : ∀ (ys : List Value) (o : Nat) (w : World) (cur : Array Value), w.heap[g]? = some (.cells cur t (0, 0)) → ∃ cur', (w.setCells g o ys).heap[g]? = some (.cells cur' t (0, 0)) ∧ cur'.size = cur.size ∧ cur'.toList.take o = cur.toList.take o
  | [], _, _, cur, h => ⟨cur, h, rfl, rfl⟩
  | y :: ys, o, w, cur, h => by
    obtain ⟨cur', h1, h2, h3⟩ := setCells_row ys (o + 1) _ _ (heap_setCell_same w g o cur t y h)
    refine ⟨cur', h1, by simpa using h2, ?_⟩
    have e := congrArg (List.take o) h3
    rw [List.take_take, List.take_take, Nat.min_eq_left (by omega), Array.toList_setIfInBounds] at e
    rw [e]
    exact List.take_set_of_le (Nat.le_refl _)
theorem setCells_but {F : Nat → Prop} {g : Nat} (hF : F g) : ∀ (ys : List Value) (o : Nat) (a w : World), But F a w → But F a (w.setCells g o ys)
  | [], _, _, _, h => h
  | y :: ys, o, a, _, h => setCells_but hF ys (o + 1) a _ (h.setCell (.inl hF) y)
theorem zeroE (w : World) : (zeroValue 9).run Try.prog w = .ok (.string (⟨#[]⟩)) w := by
  exact Try.zeroValue9 w
/-- What 'clear(s[n:])' leaves of a row. -/
theorem clear_run {w : World} {B n m c : Nat} {A : Option Addr} {l : List E} (h : w.ownsRow B 9 1 (.slice A m c) m (vs l)) (hn : n ≤ m) : ∃ w2, (∀ ty, (Builtin.clear_ #[39] ty #[.slice (if c = n then A else Option.map (fun x => x.add n) A) (m - n) (c - n)]).run Try.prog w = .ok (.tuple #[]) w2) ∧
    w2.ownsRow B 9 1 (.slice A n c) n (vs (l.take n)) ∧ But (fun b => (Value.slice A m c).ownBlock = some b) w w2 := by
  have hlen : l.length = m := by have := h.1; rw [length_vs] at this; omega
  rcases h.2 with ⟨hv, h0⟩ | ⟨g, cap, cur, hv, hg, hh, hc, hm, hs, ht⟩
  · cases hv
    obtain rfl : n = 0 := by omega
    refine ⟨w, fun ty => ?_, ?_, But.refl _ _⟩
    · simp [Builtin.clear_, run_underlying Try.underlying39]
    · exact World.ownsRow_nil _ _ _ _
  · injection hv with e1 _ e3
    subst e1 e3
    rcases Nat.lt_or_ge n m with hlt | hge
    · have hrun := fun ty => Lib.run_clear_slice (P := Try.prog) w 39 9 ty (.string (⟨#[]⟩)) Try.underlying39 zeroE rfl rfl g n (m - n) (c - n) (by omega) (fun j hj => by rw [cell_of_row w g _ _ _ (0, 0) hh]; simp; omega) (fun j _ => frozen_of_row w g _ _ _ hh)
      refine ⟨_, fun ty => ?_, ⟨by rw [length_vs, List.length_take]; omega, ?_⟩, setCells_but (F := fun b => (Value.slice (some ⟨g, 0, none⟩) m c).ownBlock = some b) (g := g) rfl (List.replicate (m - n) (.string (⟨#[]⟩))) n _ _ (But.refl _ w)⟩
      · rw [if_neg (by omega)]
        simp only [Option.map_some, add_plain, Nat.zero_add]
        exact hrun ty
      · obtain ⟨cur', h1, h2, h3⟩ := setCells_row (List.replicate (m - n) (.string (⟨#[]⟩))) n w cur hh
        refine .inr ⟨g, c, cur', rfl, hg, h1, by omega, hm, by omega, ?_⟩
        rw [Nat.mul_one] at ht ⊢
        rw [h3]
        have e := congrArg (List.take n) ht
        rw [List.take_take, Nat.min_eq_left (by omega)] at e
        rw [e]
        simp [vs, List.map_take]
    · obtain rfl : n = m := by omega
      refine ⟨w, fun ty => ?_, ?_, But.refl _ _⟩
      · rw [Nat.sub_self]
        split <;> simp [Builtin.clear_, run_underlying Try.underlying39]
      · rw [List.take_of_length_le (by omega)]
        exact h
section
variable {w : World} {B P lim mk : Nat} {v : Value} {l : List E}
set_option maxHeartbeats 1000000 in
theorem cut_any (h : HOwn w B P lim mk v l) (n : Nat) (h1 : mk ≤ n) (h2 : n ≤ l.length) : Calls Try.prog 17 #[.pointer (some ⟨P, 0, none⟩), .int .i64 (n : Nat)] w fun e w' => e = .returned (.int .i64 0) ∧ Left w B P lim mk v (l.take n) w' := by
  obtain ⟨A, c, rfl, _, hc, hcm, _⟩ := owns_sl h.row
  have c0 := h.c0
  have c2 := h.c2
  have c3 := h.c3
  obtain ⟨m, hm⟩ : ∃ m, m = l.length := ⟨_, rfl⟩
  have gm := Lib.hid hm
  have hrow : w.ownsRow B 9 1 (.slice A m c) m (vs l) := by rw [hm]; exact h.row
  rw [← hm] at c3 hc h2
  obtain ⟨w2, hrun, hr2, hb2⟩ := clear_run hrow h2
  have hP2 : w2.heap[P]? = w.heap[P]? := hb2.block P h.lt (fun e => h.ne (by rw [← hm]; exact e))
  have k3 := (cell_of_row w2 P 3 _ _ (0, 0) (hP2.trans h.blk)).trans (show _ = some (.slice A l.length c) from rfl)
  rw [← hm] at k3
  have k4 := frozen_of_row w2 P 3 _ _ (hP2.trans h.blk)
  have gE := Lib.hid (show Left w B P lim mk (.slice A m c) (l.take n) (w2.setCell ⟨P, 3, none⟩ (.slice A n c)) from by
    have e1 : (l.take n).length = n := by rw [List.length_take]; omega
    refine ⟨.slice A n c, store3 h hP2 (by rw [e1]; exact hr2) (by omega) (by have := h.le; omega) (fun e => h.ne (by cases A <;> exact e)), (hb2.mono' ?_).setCell (.inl (.inl rfl)) _, fun b hb => .inl ?_⟩
    · exact fun b hb => .inr hb
    · rcases hb with rfl | hb
      · exact .inl rfl
      · exact .inr (by cases A <;> exact hb))
  have i0 : (mk : Int) ≤ (n : Int) := by omega
  have i1 : (n : Int) ≤ (m : Int) := by omega
  have i2 : (n : Int) ≤ (c : Int) := by omega
  have i3 : (0 : Int) ≤ (n : Int) := by omega
  have j1 : n ≤ c := by omega
  have hs1 : ∀ w' : World, (Instr.slice 39 (.slice A m c) (some (.int .i64 (n : Int))) none none).run Try.prog w' = .ok (.slice (if c = n then A else Option.map (fun x => x.add n) A) (m - n) (c - n)) w' := by
    intro w'
    simp [Instr.slice, run_underlying Try.underlying39, Instr.sliceBounds, Instr.sliceBound, asIntOf, h2, Try.sizeOf9]
  have hs2 : ∀ w' : World, (Instr.slice 39 (.slice A m c) none (some (.int .i64 (n : Int))) none).run Try.prog w' = .ok (.slice A n c) w' := by
    intro w'
    cases A <;> simp [Instr.slice, run_underlying Try.underlying39, Instr.sliceBounds, Instr.sliceBound, asIntOf, j1, Addr.add]
  obtain ⟨X, hX⟩ : ∃ X, X = (if c = n then A else Option.map (fun x => x.add n) A) := ⟨_, rfl⟩
  rw [← hX] at hs1 hrun
  clear h hm hX hrow hr2 hb2 hP2
  go_enter Try.func17, Try.ntmps17
  go_wp2_with (go_at_call 45; refine (valid_any _ _ c0).mono ?_; rintro e w' ⟨rfl, rfl⟩)
  go_ret
  refine ⟨rfl, ?_⟩
  rw [← gm.out]
  exact gE.out
end
end Go.Proofs.Ytidkdidlndfbfaa.HS
