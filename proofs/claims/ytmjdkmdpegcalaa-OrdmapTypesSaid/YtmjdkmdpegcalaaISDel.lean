/- slices.Delete of one item, at structs of 2 cells; Delete. -/
import Derived.Test.YtmjdkmdpegcalaaISSet
namespace Go.Proofs.Ytmjdkmdpegcalaa.IS
open Go.RowKit Go.Shelf Go.Lib

theorem step_append_runI {P : Program} {ops : Array Oper} {o : Oper} {a : Act} {w : World} {K : Act → World → Prop} {Q : Exit → Act → World → Prop} {E : Prop}
    (hg : o.guard = none) (d x : Operand) (dT sT : TypeId) (hop : o.op = Op.call { callee := Callee.builtin Builtin.append, args := #[d, x], argTypes := #[dT, sT] })
    (v u : Value) (hd : a.eval d = v) (hx : a.eval x = u) {v' : Value} {w' : World} (hr : (Builtin.append_ #[dT, sT] o.type #[v, u]).run P w = .ok v' w') (hK : K (a.put o.dst v') w') :
    if Region.wanted o (yielded ops a.tmps) = true then Oper.wp P o a w K Q else E := by
  have hw : Region.wanted o (yielded ops a.tmps) = true := by simp [Region.wanted, hg]
  rw [if_pos hw]
  unfold Oper.wp
  simp [execOp, hop, resolve, invoke, builtin, hd, hx, hr, Result.andThen]
  exact hK
theorem run_clear_one (w : World) (g o c : Nat) (cur : Array Value) (t : TypeId) (hg : w.heap[g]? = some (.cells cur t (0, 0))) (hfit : o + 2 ≤ cur.size) (ty : TypeId) :
    (Builtin.clear_ #[173] ty #[.slice (some ⟨g, o, none⟩) 1 c]).run Try.prog w = .ok (.tuple #[]) (w.setRow g (cur.toList.take o ++ flat [z0] ++ cur.toList.drop (o + 2)).toArray) := by
  have hst := run_storeCells_at Try.prog g o t (flat [z0]) 0 cur w hg (by rw [length_flat]; simpa using hfit) (flat_one _)
  have hz : (Builtin.zeroCells (Value.agg #[(.int .i64 (0)), (.string (⟨#[]⟩))]).cells 1).toList = flat [z0] := by
    simp [Builtin.zeroCells, flat, z0, Value.cells]
    try rfl
  simp only [Nat.add_zero] at hst
  simp [Builtin.clear_, run_underlying Try.underlying173, Try.zeroValue177, hz, hst]
  rfl
/-- What slices.Delete leaves. -/
def CutOf (w : World) (B r g m cap : Nat) (l : List (K × V)) (e : Ending) (w' : World) : Prop :=
  e = .returned (.slice (some ⟨g, 0, none⟩) m cap) ∧ Hid (w'.ownsRow B 177 2 (.slice (some ⟨g, 0, none⟩) m cap) m (flat (l.take r ++ l.drop (r + 1))) ∧ w.grownBy w' (some g))

set_option maxRecDepth 100000 in
set_option maxHeartbeats 4000000 in
theorem cut_any (B r g m cap : Nat) (l : List (K × V)) (w : World) (h : w.ownsRow B 177 2 (.slice (some ⟨g, 0, none⟩) l.length cap) l.length (flat l)) (hm : l.length = m + 1) (hr : r ≤ m) (hlen : l.length ≤ 1000000) :
    Calls Try.prog 130 #[.slice (some ⟨g, 0, none⟩) (m + 1) cap, .int .i64 (r : Nat), .int .i64 ((r : Int) + 1)] w (CutOf w B r g m cap l) := by
  rcases h.2 with ⟨h0, _⟩ | ⟨g', cap', cur, hv, hgB, hh, h1, h2, h3, h4⟩
  · cases h0
  injection hv with e1 _ e3
  injection e1 with e1
  injection e1 with e1
  subst e1 e3
  obtain ⟨i0, hi, hz0, hz1, hz2⟩ := info_parts infoI
  obtain ⟨D, hD⟩ : ∃ D, D = flat (l.drop (r + 1)) := ⟨_, rfl⟩
  have hDl : D.length = (m - r) * 2 := by rw [hD, length_flat, List.length_drop, hm]; omega
  have hL : cur.toList.take (r * 2) = flat (l.take r) := by
    have e : flat l = flat (l.take r) ++ flat (l.drop r) := by rw [← flat_append, List.take_append_drop]
    have h2 : (flat l).take (r * 2) = flat (l.take r) := by
      rw [e, List.take_append_of_le_length (by rw [length_flat, List.length_take]; omega), List.take_of_length_le (by rw [length_flat, List.length_take]; omega)]
    rw [← h2, ← h4, List.take_take, Nat.min_eq_left (by omega)]
  have hDs : ∀ j v, D[j]? = some v → w.drew.cell? ((⟨g, (r + 1) * 2, none⟩ : Addr).add j) = some v := by
    intro j v hj
    rw [add_plain]
    show w.cell? _ = _
    rw [cell_of_row w g _ _ _ (0, 0) hh]
    have e : flat l = flat (l.take (r + 1)) ++ D := by rw [hD, ← flat_append, List.take_append_drop]
    have e2 : (flat l)[(r + 1) * 2 + j]? = some v := by
      rw [e, List.getElem?_append_right (by rw [length_flat, List.length_take]; omega), length_flat, List.length_take, Nat.min_eq_left (by omega), Nat.add_sub_cancel_left]; exact hj
    rw [← h4, List.getElem?_take] at e2
    split at e2
    · simpa using e2
    · cases e2
  obtain ⟨Ad, hAd, hsrc⟩ : ∃ Ad : Addr, (if cap = r + 1 then (⟨g, 0, none⟩ : Addr) else ⟨g, (r + 1) * 2, none⟩) = Ad ∧ ∀ j v, D[j]? = some v → w.drew.cell? (Ad.add j) = some v := by
    refine ⟨_, rfl, fun j v hj => ?_⟩
    split
    · have : j < D.length := (List.getElem?_eq_some_iff.1 hj).1
      rw [hDl] at this
      have : m = r := by omega
      subst this
      omega
    · exact hDs j v hj
  have hap := fun (ty : TypeId) (sc : Nat) => run_append_room (P := Try.prog) w.drew 173 ty 177 i0 Try.underlying173 hi g r cap cur hh Ad (m - r) sc D (by rw [hDl, hz1]) hsrc (by rw [hD]; exact flat_one _) (by omega) (by rw [hDl, hz1]; omega)
  rw [hz1] at hap
  rw [show r + (m - r) = m by omega] at hap
  obtain ⟨C1, hC1⟩ : ∃ C1, C1 = (cur.toList.take (r * 2) ++ D ++ cur.toList.drop (r * 2 + D.length)).toArray := ⟨_, rfl⟩
  rw [← hC1] at hap
  have hC1l : C1.size = cur.size := by rw [hC1]; simp [hDl]; omega
  obtain ⟨W1, hW1⟩ : ∃ W1, W1 = w.drew.setRow g C1 := ⟨_, rfl⟩
  rw [← hW1] at hap
  have hg1 : W1.heap[g]? = some (.cells C1 177 (0, 0)) := by rw [hW1]; exact setRow_heap w.drew g cur C1 _ (0, 0) hh
  have hcl := fun (ty : TypeId) (sc : Nat) => run_clear_one W1 g (m * 2) sc C1 177 hg1 (by rw [hC1l]; omega) ty
  obtain ⟨C2, hC2⟩ : ∃ C2, C2 = (C1.toList.take (m * 2) ++ flat [z0] ++ C1.toList.drop (m * 2 + 2)).toArray := ⟨_, rfl⟩
  rw [← hC2] at hcl
  have hfin : CutOf w B r g m cap l (.returned (.slice (some ⟨g, 0, none⟩) m cap)) (W1.setRow g C2) := by
    have e0 : (l.take r ++ l.drop (r + 1)).length = m := by simp [hm]; omega
    refine ⟨rfl, ⟨by rw [length_flat, e0], .inr ⟨g, cap, C2, rfl, hgB, setRow_heap W1 g C1 C2 _ (0, 0) hg1, by omega, h2, ?_, ?_⟩⟩, ?_⟩
    · have : C2.size = C1.size := by rw [hC2]; simp [length_flat]; omega
      omega
    · have hLl : (flat (l.take r)).length = r * 2 := by rw [length_flat, List.length_take, Nat.min_eq_left (by omega)]
      rw [hC2]
      simp only [List.append_assoc]
      rw [List.take_append_of_le_length (by rw [List.length_take]; simp; omega), List.take_take, Nat.min_self, hC1, hL]
      simp only [List.append_assoc]
      rw [← List.append_assoc, List.take_append_of_le_length (by rw [List.length_append, hLl, hDl]; omega), List.take_of_length_le (by rw [List.length_append, hLl, hDl]; omega), hD, ← flat_append]
    · rw [hW1]
      exact grown_trans (grown_trans (grown_drew w (some g)) (setRow_grown _ g _)) (setRow_grown _ g _)
  have hWD : m - r = 0 → W1 = w.drew := fun h0 => by
    have hD0 : D = [] := List.eq_nil_of_length_eq_zero (by rw [hDl, h0, Nat.zero_mul])
    have e : C1 = cur := by rw [hC1, hD0]; simp
    rw [hW1, e]
    exact setRow_self w.drew g cur _ (0, 0) hh
  have gf := Lib.hid hfin
  clear hfin hC1 hC2 hL hD hDl hDs hC1l hg1 hh h4 h3 hi hz0 hz1 hz2 hW1 h hsrc
  have h5 : m + 1 ≤ cap := by omega
  have h6 : m + 1 ≤ 1000000 := by omega
  clear hm hlen h1
  unfold maxLen at h2
  have i1 : (r : Int) ≤ (r : Int) + 1 := by omega
  have i2 : (r : Int) + 1 ≤ (m : Int) + 1 := by omega
  have i3 : (0 : Int) ≤ (r : Int) + 1 := by omega
  have i4 : (m : Int) + 1 ≤ (cap : Int) := by omega
  have i5 : ((r : Int) + 1).toNat = r + 1 := by omega
  have i6 : ¬ ((r : Int) = (r : Int) + 1) := by omega
  have i7 : (r : Int) ≤ (cap : Int) := by omega
  have i8 : ¬ cap = m := by omega
  by_cases hcr : cap = r + 1
  · obtain rfl : m = r := by omega
    subst hcr
    clear hap hAd
    have gW := Lib.hid (hWD (by omega))
    clear hWD
    rw [gW.out] at hcl gf
    clear gW
    go_enter Try.func130, Try.ntmps130
    go_wp2
    go_region
    go_wp2
    go_ret
    exact gf.out
  · rw [if_neg hcr] at hAd
    subst hAd
    clear hWD
    go_enter Try.func130, Try.ntmps130
    go_wp2
    go_region_law (refine step_append_runI rfl (.tmp 22) (.tmp 25) 173 173 rfl (.slice (some ⟨g, 0, none⟩) r cap) (.slice (some ⟨g, (r + 1) * 2, none⟩) (m - r) (cap - (r + 1))) (by simp [Act.eval, Act.put]) (by simp [Act.eval, Act.put]) (hap _ _) ?_)
    go_wp2
    go_ret
    exact gf.out

/-- What Delete leaves. -/
def DelOf (w : World) (B P : Nat) (v : Value) (l : List (K × V)) (k : K) (e : Ending) (w' : World) : Prop :=
  ∃ v', e = .returned (.tuple #[(.string (getL lt l k z0)), .bool (hasB lt (keysOf l) k)]) ∧ Own w' B P v' (delL lt l k) ∧ Chg w w' P v v'
theorem del_len {l : List (K × V)} {k : K} (h : hasB lt (keysOf l) k = true) : (delL lt l k).length + 1 = l.length := by
  have := has_lt h
  unfold delL
  rw [h]
  simp
  omega
set_option maxHeartbeats 1000000 in
/-- Delete where the key is not there, of a map that is not valid too. -/
theorem del_none (p : Option Addr) (A : Option Addr) (c : Nat) (l : List (K × V)) (k : K) (w : World) (h : Has w p A c l) (hh : hasB lt (keysOf l) k = false) :
    Calls Try.prog 58 #[.pointer p, (.int .i64 (k))] w fun e w' => e = .returned (.tuple #[(.string (⟨#[]⟩)), .bool false]) ∧ Below w.heap.size w w' := by
  have g0 := Lib.hid h
  have gh := Lib.hid hh
  clear h hh
  obtain ⟨r, hr⟩ : ∃ r, r = rkB lt (keysOf l) k := ⟨_, rfl⟩
  have gr := Lib.hid hr
  clear hr
  go_enter Try.func58, Try.ntmps58
  go_wp2_with (go_at_call 121; refine (find_any _ _ c l k _ g0.out).mono ?_; rintro e w' ⟨rfl, hB⟩; rw [← gr.out, gh.out])
  go_ret2
  exact ⟨rfl, hB⟩
theorem del_ends {w w1 w2 : World} {B P g m cap : Nat} {l : List (K × V)} {k : K} (h : Own w B P (.slice (some ⟨g, 0, none⟩) l.length cap) l) (hB : Below w.heap.size w w1) (hh : hasB lt (keysOf l) k = true) (hm : l.length = m + 1)
    (ho : w2.ownsRow B 177 2 (.slice (some ⟨g, 0, none⟩) m cap) m (flat (l.take (rkB lt (keysOf l) k) ++ l.drop (rkB lt (keysOf l) k + 1)))) (hg : w1.grownBy w2 (some g)) :
    DelOf w B P (.slice (some ⟨g, 0, none⟩) l.length cap) l k (.returned (.tuple #[(.string ((l.getD (rkB lt (keysOf l) k) z0).2)), .bool true])) (w2.setCell ⟨P, 1, none⟩ (.slice (some ⟨g, 0, none⟩) m cap)) := by
  have h1 := h.below hB
  have hgP : g ≠ P := fun e => own_ne h (by rw [e]; rfl)
  have b2 : w2.heap[P]? = some (.cells #[.pointer (some ⟨P, 0, none⟩), .slice (some ⟨g, 0, none⟩) l.length cap] 175 (0, 0)) := (hg.block P (lt_of_heap h1.blk) (fun e => hgP (by injection e with e; exact e.symm))).trans h1.blk
  have e : delL lt l k = l.take (rkB lt (keysOf l) k) ++ l.drop (rkB lt (keysOf l) k + 1) := by unfold delL; rw [hh]; rfl
  have hl : (delL lt l k).length = m := by have := del_len (k := k) hh; omega
  refine ⟨.slice (some ⟨g, 0, none⟩) m cap, ?_, ⟨h.hP, ?_, ?_, asc_del h.asc k, ?_⟩, ⟨?_, fun g' hg' => Or.inl hg'⟩⟩
  · rw [hh]; unfold getL; rw [hh]; rfl
  · rw [heap_setCell_same w2 P 1 _ _ _ b2]; rfl
  · rw [hl, e]
    exact owns_of_block ho fun g' hg' => Below.heap_setCell w2 _ _ g' (by obtain rfl : g = g' := by simpa [Value.ownBlock] using hg'
                                                                          exact hgP)
  · have := h.len; omega
  · exact ((But.of_below (F := fun b => b = P ∨ (Value.slice (some ⟨g, 0, none⟩) l.length cap).ownBlock = some b) hB).trans (But.of_grown hg (fun b hb => Or.inr hb))).setCell (Or.inl (Or.inl rfl)) _
set_option maxRecDepth 100000 in
set_option maxHeartbeats 4000000 in
theorem del_has (B P : Nat) (v : Value) (l : List (K × V)) (k : K) (w : World) (h : Own w B P v l) (hh : hasB lt (keysOf l) k = true) :
    Calls Try.prog 58 #[.pointer (some ⟨P, 0, none⟩), (.int .i64 (k))] w (DelOf w B P v l k) := by
  have hlt := has_lt hh
  obtain ⟨g, c, rfl⟩ : ∃ g c, v = .slice (some ⟨g, 0, none⟩) l.length c := by
    rcases h.own.2 with ⟨_, h0⟩ | ⟨g, c, cur, hv, _⟩
    · omega
    · exact ⟨g, c, hv⟩
  obtain ⟨A, c', e, hHas⟩ := h.has
  injection e with e1 _ e3
  subst e1 e3
  have g0 := Lib.hid hHas
  have gO := Lib.hid h
  have gh := Lib.hid hh
  have hc := hHas.cap
  have hv0 : w.cell? ⟨P, 0, none⟩ = some (.pointer (some ⟨P, 0, none⟩)) := (cell_of_row w P 0 _ _ (0, 0) h.blk).trans rfl
  have hv1 : w.cell? ⟨P, 1, none⟩ = some (.slice (some ⟨g, 0, none⟩) l.length c) := (cell_of_row w P 1 _ _ (0, 0) h.blk).trans rfl
  obtain ⟨b, o, eA, hbw, _, h1⟩ := hHas.it.at hlt
  obtain ⟨rfl, rfl⟩ : g = b ∧ 0 = o := by simpa using eA
  rw [Nat.zero_add] at h1
  obtain ⟨y, hy⟩ : ∃ y, y = (l.getD (rkB lt (keysOf l) k) z0).2 := ⟨_, rfl⟩
  have gy := Lib.hid hy
  rw [← hy] at h1
  have hPw := lt_of_cell hv0
  obtain ⟨r, hr⟩ : ∃ r, r = rkB lt (keysOf l) k := ⟨_, rfl⟩
  have gr := Lib.hid hr
  rw [← hr] at hlt h1
  obtain ⟨m, hm⟩ : ∃ m, l.length = m + 1 := ⟨l.length - 1, by omega⟩
  have gm := Lib.hid hm
  have hrm : r ≤ m := by omega
  rw [hm] at hlt hc hv1
  have hlen := Lib.hid h.len
  have hgP : g ≠ P := fun e => own_ne h (by rw [e]; rfl)
  clear h hh hHas eA hy hr hm
  have i0 : (0 : Int) ≤ (r : Int) := by omega
  have i1 : (r : Int) < (m : Int) + 1 := by omega
  go_enter Try.func58, Try.ntmps58
  go_wp2_with (first
    | (go_at_call 121; refine (find_any _ _ c l k _ g0.out).mono ?_; rintro e w1 ⟨rfl, hB⟩; rw [← gr.out, gh.out]
       have gB := Lib.hid hB
       have k1 := (hB.cell hbw).trans h1
       have k2 := (hB.cell hPw).trans hv1
       clear hB)
    | (go_at_call 130; refine (cut_any B r g m c l _ (gO.out.below gB.out).own gm.out hrm hlen.out).mono ?_; rintro e w2 ⟨rfl, gg⟩
       have b2 := Lib.hid ((gg.out.2.block P (lt_of_heap (gO.out.below gB.out).blk) (fun e => hgP (by injection e with e; exact e.symm))).trans (gO.out.below gB.out).blk)
       have k3 : w2.cell? ⟨P, 1, none⟩ = some (.slice (some ⟨g, 0, none⟩) (m + 1) c) := by rw [← gm.out]; exact (cell_of_row w2 P 1 _ _ (0, 0) b2.out).trans rfl
       have k4 := frozen_of_row w2 P 1 _ _ b2.out))
  go_ret2
  obtain rfl := gr.out
  obtain rfl := gy.out
  exact del_ends gO.out gB.out gh.out gm.out gg.out.1 gg.out.2
theorem del_any (B P : Nat) (v : Value) (l : List (K × V)) (k : K) (w : World) (h : Own w B P v l) :
    Calls Try.prog 58 #[.pointer (some ⟨P, 0, none⟩), (.int .i64 (k))] w (DelOf w B P v l k) := by
  cases hh : hasB lt (keysOf l) k with
  | true => exact del_has B P v l k w h hh
  | false =>
    obtain ⟨A, c, rfl, hHas⟩ := h.has
    refine (del_none _ A c l k w hHas hh).mono ?_
    rintro e w' ⟨rfl, hB⟩
    refine ⟨_, ?_, ?_, ⟨But.of_below hB, fun g hg => Or.inl hg⟩⟩
    · rw [hh]; unfold getL; rw [hh]; rfl
    · have e : delL lt l k = l := by unfold delL; rw [hh]; rfl
      rw [e]; exact h.below hB
end Go.Proofs.Ytmjdkmdpegcalaa.IS
