/- slices.Insert of one item, at structs of 2 cells. -/
import Derived.Test.YtmjdkmdpegcalaaBQBase
import Derived.Laws.IdiomCopy
import Derived.Shelf.Spec.SlicesInsert
import Derived.Laws.Externs
import Derived.Lib.Overlaps
import Derived.Lib.AppendZerosOnto
import Derived.Lib.SliceRun
import Derived.Lib.Walk
import Derived.Deep.RegionLaw
import Derived.Laws.NewBlocks
import Derived.Laws.CopyOwn
import Derived.Lib.JoinLaws
namespace Go.Proofs.Ytmjdkmdpegcalaa.BQ
open Go.RowKit Go.Lib

theorem run_copy_rowK {P : Program} (w : World) (dT sT ty elem : TypeId) (size : Nat) (g o dLen dCap : Nat) (a : Addr) (sLen sCap : Nat) (cur : Array Value) (t : TypeId) (cs : List Value)
    (hu : P.underlying dT = some (.slice elem)) (hs : (P.info? elem).map (·.size) = some size)
    (hg : w.heap[g]? = some (.cells cur t (0, 0))) (hn : cs.length = Nat.min sLen dLen * size)
    (hsrc : ∀ j v, cs[j]? = some v → w.cell? (a.add j) = some v) (hfit : o + cs.length ≤ cur.size) (h1 : ∀ v ∈ cs, v.oneCell' = true) :
    (Builtin.copy_ #[dT, sT] ty #[.slice (some ⟨g, o, none⟩) dLen dCap, .slice (some a) sLen sCap]).run P w =
      .ok (goInt (Nat.min sLen dLen)) (w.setRow g (cur.toList.take o ++ cs ++ cur.toList.drop (o + cs.length)).toArray) := by
  have hl := run_loadCells_list (P := P) w a cs hsrc
  have hst := run_storeCells_at P g o t cs 0 cur w hg (by simpa using hfit) h1
  cases hq : P.info? elem with
  | none => simp [hq] at hs
  | some i =>
    have hi : i.size = size := by simpa [hq] using hs
    rw [hn] at hl
    simp [Builtin.copy_, run_underlying hu, Builtin.lenOf, Builtin.firstCells, sizeOf, typeInfo, hq, hi, hl, hst]

theorem infoI : (Try.prog.info? 167).map (fun i => (i.zero, i.size, i.bytes)) = some (some (.agg #[(.int .u8 (0)), (.pointer (none))]), 2, 16) := by kernel_rfl

/-- One item that a slice of one holds, in a block of its own. -/
def One (w : World) (bx : Nat) (x : K × V) : Prop := w.heap[bx]? = some (.cells (flat [x]).toArray 167 (0, 0))
/-- What Insert leaves. -/
def InsOf (w : World) (B r : Nat) (v : Value) (l : List (K × V)) (x : K × V) (e : Ending) (w' : World) : Prop :=
  ∃ v', e = .returned v' ∧ w'.ownsRow B 167 2 v' (l.length + 1) (flat (l.take r ++ x :: l.drop r)) ∧ w.grownBy w' v.ownBlock ∧ (v'.ownBlock = v.ownBlock ∨ v'.ownBlock = some w.heap.size)
theorem One.src {w : World} {bx : Nat} {x : K × V} (h : One w bx x) : ∀ j v, (flat [x])[j]? = some v → w.cell? ((⟨bx, 0, none⟩ : Addr).add j) = some v := by
  intro j v hj
  rw [add_plain, Nat.zero_add, cell_of_row w bx j _ _ (0, 0) h]
  simpa using hj

set_option maxRecDepth 100000 in
set_option maxHeartbeats 4000000 in
/-- At the end. -/
theorem ins_end (B bx : Nat) (v : Value) (l : List (K × V)) (x : K × V) (w : World) (h : w.ownsRow B 167 2 v l.length (flat l)) (hB : B ≤ w.heap.size) (hx : One w bx x) (hlen : l.length ≤ 1000000) :
    Calls Try.prog 114 #[v, .int .i64 (l.length : Nat), .slice (some ⟨bx, 0, none⟩) 1 1] w (InsOf w B l.length v l x) := by
  obtain ⟨i0, hi, hz0, hz1, hz2⟩ := info_parts infoI
  obtain ⟨A, c, rfl, hn, h1, h2, _, _⟩ := owns_it rfl h
  obtain ⟨v', w1, hr, ho, hg, _, hat⟩ := run_append_own_at (P := Try.prog) w B 159 159 167 i0 _ 2 _ Try.underlying159 hi hz0 hz1 hz2 rfl (by decide) _ _ _ h ⟨bx, 0, none⟩ 1 1 (flat [x]) (by rw [length_flat]; rfl) hx.src (flat_one _) (by unfold maxLen; omega) (by omega) hB
  have gl := Lib.hid hlen
  have go := Lib.hid ho
  have gg := Lib.hid hg
  have ga := Lib.hid hat
  clear h hx hlen ho hg hat hi hz0 hz1 hz2
  obtain ⟨n, hn'⟩ : ∃ n, n = l.length := ⟨_, rfl⟩
  rw [← hn'] at hr h1 ⊢
  have gn := Lib.hid hn'
  clear hn' hn
  have i0 : (n : Int) ≤ (n : Int) := by omega
  have i1 : (0 : Int) ≤ (n : Int) := by omega
  rcases Nat.lt_or_ge n c with hcn | hcn
  · have hcn' : ¬ c = n := by omega
    go_enter Try.func114, Try.ntmps114
    go_wp2_with (at_builtin; refine Lib.wpList_append_run _ rfl _ _ _ _ rfl _ _ rfl rfl _ _ hr ?_)
    go_ret
    obtain rfl := gn.out
    refine ⟨v', rfl, ?_, gg.out, ga.out⟩
    rw [List.take_length, List.drop_length, flat_append]
    exact go.out
  obtain rfl : c = n := by omega
  go_enter Try.func114, Try.ntmps114
  go_wp2_with (at_builtin; refine Lib.wpList_append_run _ rfl _ _ _ _ rfl _ _ rfl rfl _ _ hr ?_)
  all_goals go_ret
  all_goals
    obtain rfl := gn.out
    refine ⟨v', rfl, ?_, gg.out, ga.out⟩
    rw [List.take_length, List.drop_length, flat_append]
    exact go.out

theorem setRow_grown (w : World) (g : Nat) (cs : Array Value) : w.grownBy (w.setRow g cs) (some g) := ⟨rfl, rfl, rfl, by simp [World.setRow], fun k _ hk => setRow_other w g k cs (fun e => hk (by rw [e]))⟩
theorem grown_trans {a b c : World} {row : Option Nat} (h : a.grownBy b row) (k : b.grownBy c row) : a.grownBy c row :=
  ⟨k.os.trans h.os, k.tape.trans h.tape, k.output.trans h.output, Nat.le_trans h.size k.size, fun i hi hr => (k.block i (Nat.lt_of_lt_of_le hi h.size) hr).trans (h.block i hi hr)⟩
theorem grown_drew (w : World) (row : Option Nat) : w.grownBy w.drew row := ⟨rfl, rfl, rfl, Nat.le_refl _, fun _ _ _ => rfl⟩
/-- The cells of a row behind the two copies. -/
theorem ins_cells {cur L D X : List Value} {m k : Nat} (hL : cur.take m = L) (hk : X.length = k) (hlen : m + k + D.length ≤ cur.length) :
    (((cur.take (m + k) ++ D ++ cur.drop (m + k + D.length)).take m ++ X ++ (cur.take (m + k) ++ D ++ cur.drop (m + k + D.length)).drop (m + X.length)).take (m + k + D.length)) = L ++ X ++ D := by
  have hm : L.length = m := by rw [← hL, List.length_take]; omega
  have e1 : (cur.take (m + k) ++ D ++ cur.drop (m + k + D.length)).take m = L := by
    rw [List.append_assoc, List.take_append_of_le_length (by rw [List.length_take]; omega), List.take_take, Nat.min_eq_left (by omega), hL]
  have e2 : (cur.take (m + k) ++ D ++ cur.drop (m + k + D.length)).drop (m + X.length) = D ++ cur.drop (m + k + D.length) := by
    rw [hk, List.append_assoc, List.drop_append, List.length_take, Nat.min_eq_left (by omega), List.drop_eq_nil_of_le (by rw [List.length_take]; omega)]
    simp
  rw [e1, e2, ← List.append_assoc, List.take_append_of_le_length (by simp; omega), List.take_of_length_le (by simp; omega)]
set_option maxHeartbeats 4000000 in
/-- Within, and there is room. -/
theorem ins_shift (B bx r g cap : Nat) (cur : Array Value) (l : List (K × V)) (x : K × V) (w : World) (hg : w.heap[g]? = some (.cells cur 167 (0, 0))) (hB : B ≤ g) (hcap : cap ≤ maxLen) (hsz : cur.size = cap * 2) (htk : cur.toList.take (l.length * 2) = flat l)
    (hr : r < l.length) (hroom : l.length + 1 ≤ cap) (hx : One w bx x) (hne : bx ≠ g) (hlen : l.length ≤ 1000000) :
    Calls Try.prog 114 #[.slice (some ⟨g, 0, none⟩) l.length cap, .int .i64 (r : Nat), .slice (some ⟨bx, 0, none⟩) 1 1] w (InsOf w B r (.slice (some ⟨g, 0, none⟩) l.length cap) l x) := by
  obtain ⟨i0, hi, hz0, hz1, hz2⟩ := info_parts infoI
  have hs : (Try.prog.info? 167).map (·.size) = some 2 := by rw [hi]; simp [hz1]
  have hov : ∀ lb cb, (callFunc 155 #[.slice (some ⟨bx, 0, none⟩) 1 1, .slice (some ⟨g, (r + 1) * 2, none⟩) lb cb]).run Try.prog w = .ok (.value (.bool false)) w := fun lb cb => by
    rw [run_callFunc_extern Try.func155 (by kernel_rfl) (by kernel_rfl) (by kernel_rfl) (e := Extern.SlicesOverlaps.overlaps #[159, 159] #[4]) (by kernel_rfl),
      Lib.run_overlaps_apart w 159 4 167 Try.underlying159 2 Try.sizeOf167 ⟨bx, 0, none⟩ ⟨g, (r + 1) * 2, none⟩ 1 1 lb cb hne 167 167 (flat [x]).length cur.size (by have := hx; unfold One at this; simp [World.shape?, this]) (by simp [World.shape?, hg]) (by omega) (by have := hx; unfold One at this; simp [World.frozen?, this]) (by have := hx; unfold One at this; simp [World.frozen?, this])]
    rfl
  obtain ⟨n, hn⟩ : ∃ n, n = l.length := ⟨_, rfl⟩
  have hL : cur.toList.take (r * 2) = flat (l.take r) := by
    have e : flat l = flat (l.take r) ++ flat (l.drop r) := by rw [← flat_append, List.take_append_drop]
    have h2 : (flat l).take (r * 2) = flat (l.take r) := by
      rw [e, List.take_append_of_le_length (by rw [length_flat, List.length_take]; omega), List.take_of_length_le (by rw [length_flat, List.length_take]; omega)]
    rw [← h2, ← htk, List.take_take, Nat.min_eq_left (by omega)]
  obtain ⟨D, hD⟩ : ∃ D, D = flat (l.drop r) := ⟨_, rfl⟩
  have hDl : D.length = (n - r) * 2 := by rw [hD, length_flat, List.length_drop, hn]
  have hDs : ∀ j v, D[j]? = some v → w.drew.cell? ((⟨g, r * 2, none⟩ : Addr).add j) = some v := by
    intro j v hj
    have hj' : j < D.length := (List.getElem?_eq_some_iff.1 hj).1
    rw [add_plain]
    show w.cell? _ = _
    rw [cell_of_row w g _ _ _ (0, 0) hg]
    have e : flat l = flat (l.take r) ++ D := by rw [hD, ← flat_append, List.take_append_drop]
    have e2 : (flat l)[r * 2 + j]? = some v := by
      rw [e, List.getElem?_append_right (by rw [length_flat, List.length_take]; omega), length_flat, List.length_take, Nat.min_eq_left (by omega), Nat.add_sub_cancel_left]; exact hj
    rw [← htk, List.getElem?_take] at e2
    split at e2
    · simpa using e2
    · cases e2
  have c1 := fun (ty : TypeId) (dc sc : Nat) => run_copy_rowK (P := Try.prog) w.drew 159 159 ty 167 2 g ((r + 1) * 2) (n + 1 - (r + 1)) dc ⟨g, r * 2, none⟩ (n + 1 - r) sc cur 167 D Try.underlying159 hs hg (by rw [hDl, show Nat.min (n + 1 - r) (n + 1 - (r + 1)) = n - r by show min _ _ = _; omega]) hDs (by rw [hDl]; omega) (by rw [hD]; exact flat_one _)
  obtain ⟨C1, hC1⟩ : ∃ C1, C1 = (cur.toList.take ((r + 1) * 2) ++ D ++ cur.toList.drop ((r + 1) * 2 + D.length)).toArray := ⟨_, rfl⟩
  rw [← hC1] at c1
  have hC1l : C1.size = cur.size := by rw [hC1]; simp [hDl]; omega
  obtain ⟨W1, hW1⟩ : ∃ W1, W1 = w.drew.setRow g C1 := ⟨_, rfl⟩
  rw [← hW1] at c1
  have hg1 : W1.heap[g]? = some (.cells C1 167 (0, 0)) := by rw [hW1]; exact setRow_heap w.drew g cur C1 _ (0, 0) hg
  have hx1 : One W1 bx x := by unfold One at *; rw [hW1, setRow_other w.drew g bx C1 hne]; exact hx
  have c2 := fun (ty : TypeId) (dc sc : Nat) => run_copy_rowK (P := Try.prog) W1 159 159 ty 167 2 g (r * 2) (n + 1 - r) dc ⟨bx, 0, none⟩ 1 sc C1 167 (flat [x]) Try.underlying159 hs hg1 (by rw [length_flat, show Nat.min 1 (n + 1 - r) = 1 by show min _ _ = _; omega]; rfl) hx1.src (by rw [length_flat, hC1l]; simp; omega) (flat_one _)
  obtain ⟨C2, hC2⟩ : ∃ C2, C2 = (C1.toList.take (r * 2) ++ flat [x] ++ C1.toList.drop (r * 2 + (flat [x]).length)).toArray := ⟨_, rfl⟩
  rw [← hC2] at c2
  have hfin : InsOf w B r (.slice (some ⟨g, 0, none⟩) l.length cap) l x (.returned (.slice (some ⟨g, 0, none⟩) (n + 1) cap)) (W1.setRow g C2) := by
    refine ⟨_, rfl, ⟨by rw [length_flat, length_ins _ _ _ (by omega)], .inr ⟨g, cap, C2, by rw [hn], hB, setRow_heap W1 g C1 C2 _ (0, 0) hg1, by omega, hcap, ?_, ?_⟩⟩, ?_, .inl rfl⟩
    · have : C2.size = C1.size := by rw [hC2]; simp [length_flat]; omega
      omega
    · have := ins_cells (cur := cur.toList) (L := flat (l.take r)) (D := D) (X := flat [x]) (m := r * 2) (k := 2) hL (by rw [length_flat]; rfl) (by rw [hDl]; simp; omega)
      rw [hC2, hC1]
      have e1 : (r + 1) * 2 = r * 2 + 2 := by omega
      have e2 : (l.length + 1) * 2 = r * 2 + 2 + D.length := by rw [hDl, ← hn]; omega
      rw [e1, e2]
      rw [this, hD, show l.take r ++ x :: l.drop r = l.take r ++ [x] ++ l.drop r by simp, flat_append, flat_append]
    · rw [hW1]
      exact grown_trans (grown_trans (grown_drew w (some g)) (setRow_grown _ g _)) (setRow_grown _ g _)
  rw [← hn] at hr hroom hlen hfin ⊢
  have gf := Lib.hid hfin
  have c1' := c1
  rw [show n + 1 - (r + 1) = n - r by omega] at c1'
  clear hfin hn hC1 hC2 hL hD hDl hDs hC1l hg1 hx1 hg htk hsz hi hz0 hz1 hz2 hs hx hW1
  have hz2 : ¬ ((r : Int) = (n : Int)) := by omega
  unfold maxLen at hcap
  have hw1 : IntKind.i64.wrap ((r : Int) + 1) = (r : Int) + 1 := by rw [IntKind.wrap_i64]; omega
  have hb1 : (0 : Int) ≤ (r : Int) + 1 := by omega
  have hin : r ≤ n := by omega
  have htn : ((r : Int) + 1).toNat = r + 1 := by omega
  have hb2 : ¬ (cap = r + 1) := by omega
  have hb3 : (r : Int) ≤ (n : Int) + 1 := by omega
  have hb4 : ¬ (cap = r) := by omega
  go_enter Try.func114, Try.ntmps114
  go_wp2_with (simp only [hov])
  go_region_law (first
    | (refine step_copy_runI rfl _ _ 159 159 rfl _ _ (by simp [Act.eval, Act.put]) (by simp [Act.eval, Act.put]) (c1 _ _ _) ?_)
    | (refine step_copy_runI rfl _ _ 159 159 rfl _ _ (by simp [Act.eval, Act.put]) (by simp [Act.eval, Act.put]) (c1' _ _ _) ?_))
  go_wp2_with (at_builtin; refine wpList_copy_runI _ rfl _ _ 159 159 rfl _ _ rfl rfl (c2 _ _ _) ?_)
  go_ret
  exact gf.out

theorem grow_cells {ROW L D X : List Value} {m k : Nat} (hL : ROW.take m = L) (hk : X.length = k) (hlen : m + k + D.length ≤ ROW.length) :
    (((ROW.take m ++ X ++ ROW.drop (m + X.length)).take (m + k) ++ D ++ (ROW.take m ++ X ++ ROW.drop (m + X.length)).drop (m + k + D.length)).take (m + k + D.length)) = L ++ X ++ D := by
  have hm : L.length = m := by rw [← hL, List.length_take]; omega
  rw [hL]
  have e1 : (L ++ X ++ ROW.drop (m + X.length)).take (m + k) = L ++ X := by
    rw [List.take_append_of_le_length (by simp; omega), List.take_of_length_le (by simp; omega)]
  rw [e1, List.take_append_of_le_length (by simp; omega), List.take_of_length_le (by simp; omega)]
set_option maxRecDepth 100000 in
set_option maxHeartbeats 4000000 in
/-- Within, and there is no room. -/
theorem ins_grow (B bx r g cap : Nat) (cur : Array Value) (l : List (K × V)) (x : K × V) (w : World) (hg : w.heap[g]? = some (.cells cur 167 (0, 0))) (hB : B ≤ w.heap.size) (_hcap : cap ≤ maxLen) (_hsz : cur.size = cap * 2) (htk : cur.toList.take (l.length * 2) = flat l)
    (hr : r < l.length) (hnc : l.length ≤ cap) (hroom : cap < l.length + 1) (hx : One w bx x) (hlen : l.length ≤ 1000000) :
    Calls Try.prog 114 #[.slice (some ⟨g, 0, none⟩) l.length cap, .int .i64 (r : Nat), .slice (some ⟨bx, 0, none⟩) 1 1] w (InsOf w B r (.slice (some ⟨g, 0, none⟩) l.length cap) l x) := by
  obtain ⟨i0, hi, hz0, hz1, hz2⟩ := info_parts infoI
  have hs : (Try.prog.info? 167).map (·.size) = some 2 := by rw [hi]; simp [hz1]
  obtain ⟨n, hn⟩ : ∃ n, n = l.length := ⟨_, rfl⟩
  have hcell : ∀ j v, (flat l)[j]? = some v → w.cell? ⟨g, j, none⟩ = some v := by
    intro j v hj
    rw [cell_of_row w g j _ _ (0, 0) hg]
    rw [← htk, List.getElem?_take] at hj
    split at hj
    · simpa using hj
    · cases hj
  have eL : flat l = flat (l.take r) ++ flat (l.drop r) := by rw [← flat_append, List.take_append_drop]
  have lL : (flat (l.take r)).length = r * 2 := by rw [length_flat, List.length_take, Nat.min_eq_left (by omega)]
  obtain ⟨D, hD⟩ : ∃ D, D = flat (l.drop r) := ⟨_, rfl⟩
  have hDl : D.length = (n - r) * 2 := by rw [hD, length_flat, List.length_drop, hn]
  have hgw := lt_of_heap hg
  have hxw := lt_of_heap hx
  have hold : (Builtin.firstCells i0.size r (.slice (some ⟨g, 0, none⟩) r cap)).run Try.prog w.drew = .ok (flat (l.take r)).toArray w.drew := by
    rw [hz1]
    exact run_firstCells_some w.drew 2 r ⟨g, 0, none⟩ r cap (flat (l.take r)) (by rw [lL]) (fun j v hj => by
      rw [add_plain, Nat.zero_add]
      refine hcell j v ?_
      rw [eL, List.getElem?_append_left (List.getElem?_eq_some_iff.1 hj).1]
      exact hj)
  have hkk : (n : Int) + 1 - (r : Int) = ((n + 1 - r : Nat) : Int) := by omega
  have hik : r + (n + 1 - r) = n + 1 := by omega
  have hrz : ∀ ty, (Builtin.append_ #[159, 3] ty #[.slice (some ⟨g, 0, none⟩) r cap, .int .i64 ((n : Int) + 1 - (r : Int))]).run Try.prog w =
      .ok (.slice (some ⟨w.heap.size, 0, none⟩) (n + 1) (grownCap w (n + 1) cap 167)) (w.drew.alloc (.cells ((flat (l.take r)).toArray ++ Builtin.zeroCells (Value.agg #[(.int .u8 (0)), (.pointer (none))]).cells (n + 1 - r) ++ Builtin.zeroCells (Value.agg #[(.int .u8 (0)), (.pointer (none))]).cells (grownCap w (n + 1) cap 167 - (n + 1))) 167)) := fun ty => by
    have h := Lib.run_append_grow_zeros w 159 3 ty 167 i0 _ .i64 .i64 Try.underlying159 Try.underlying3 hi hz0 (some ⟨g, 0, none⟩) r cap (flat (l.take r)) hold (n + 1 - r) (by omega) (by omega) (by omega) (by omega) (by rw [hz2]; omega) (by rw [hz2, hik]; exact growslice_fits (show cap < n + 1 by omega) (by omega))
    rw [hik] at h
    rw [hkk]
    exact h
  obtain ⟨G, hG⟩ : ∃ G, G = grownCap w (n + 1) cap 167 := ⟨_, rfl⟩
  obtain ⟨ROW, hROW⟩ : ∃ ROW : Array Value, ROW = (flat (l.take r)).toArray ++ Builtin.zeroCells (Value.agg #[(.int .u8 (0)), (.pointer (none))]).cells (n + 1 - r) ++ Builtin.zeroCells (Value.agg #[(.int .u8 (0)), (.pointer (none))]).cells (G - (n + 1)) := ⟨_, rfl⟩
  rw [← hG] at hrz
  rw [← hROW] at hrz
  have hGn : n + 1 ≤ G := by rw [hG]; exact grownCap_ge w _ _ _
  have hGm : G ≤ maxLen := by rw [hG]; exact grownCap_le_maxLen w (n + 1) cap 167 (by unfold maxLen; omega)
  have hRl : ROW.size = G * 2 := by
    rw [hROW]
    simp only [Array.size_append, List.size_toArray, lL, Builtin.zeroCells, Value.cells, List.size_toArray]
    simp
    omega
  have hRt : ROW.toList.take (r * 2) = flat (l.take r) := by
    rw [hROW]
    simp only [Array.toList_append, List.append_assoc]
    rw [List.take_append_of_le_length (by rw [lL]; exact Nat.le_refl _), List.take_of_length_le (by rw [lL]; exact Nat.le_refl _)]
  obtain ⟨N, hN⟩ : ∃ N, N = w.heap.size := ⟨_, rfl⟩
  obtain ⟨W1, hW1⟩ : ∃ W1, W1 = w.drew.alloc (.cells ROW 167) := ⟨_, rfl⟩
  rw [← hW1] at hrz
  have b1 : Below w.heap.size w W1 := by rw [hW1]; exact ((Below.refl _ w).drew).alloc (Nat.le_refl _) _
  have hg1 : W1.heap[N]? = some (.cells ROW 167 (0, 0)) := by rw [hW1, hN]; exact heap_alloc_new w.drew _
  have hx1 : One W1 bx x := by unfold One at *; rw [b1.block bx hxw]; exact hx
  have c1 := fun (ty : TypeId) (dc sc : Nat) => run_copy_rowK (P := Try.prog) W1 159 159 ty 167 2 N (r * 2) (n + 1 - r) dc ⟨bx, 0, none⟩ 1 sc ROW 167 (flat [x]) Try.underlying159 hs hg1 (by rw [length_flat, show Nat.min 1 (n + 1 - r) = 1 by show min _ _ = _; omega]; rfl) hx1.src (by rw [length_flat, hRl]; simp; omega) (flat_one _)
  obtain ⟨R2, hR2⟩ : ∃ R2, R2 = (ROW.toList.take (r * 2) ++ flat [x] ++ ROW.toList.drop (r * 2 + (flat [x]).length)).toArray := ⟨_, rfl⟩
  rw [← hR2] at c1
  have hR2l : R2.size = ROW.size := by rw [hR2]; simp [length_flat]; omega
  obtain ⟨W2, hW2⟩ : ∃ W2, W2 = W1.setRow N R2 := ⟨_, rfl⟩
  rw [← hW2] at c1
  have b2 : Below w.heap.size w W2 := by rw [hW2]; exact below_setRow b1 (by omega) _
  have hg2 : W2.drew.heap[N]? = some (.cells R2 167 (0, 0)) := by show W2.heap[N]? = _; rw [hW2]; exact setRow_heap W1 N ROW R2 _ (0, 0) hg1
  have hDs : ∀ j v, D[j]? = some v → W2.drew.cell? ((⟨g, r * 2, none⟩ : Addr).add j) = some v := by
    intro j v hj
    rw [add_plain]
    show W2.cell? _ = _
    rw [b2.cell (p := ⟨g, r * 2 + j, none⟩) hgw]
    refine hcell _ v ?_
    rw [eL, List.getElem?_append_right (by rw [lL]; omega), lL, Nat.add_sub_cancel_left, ← hD]; exact hj
  have c2 := fun (ty : TypeId) (dc sc : Nat) => run_copy_rowK (P := Try.prog) W2.drew 159 159 ty 167 2 N ((r + 1) * 2) (n - r) dc ⟨g, r * 2, none⟩ (n - r) sc R2 167 D Try.underlying159 hs hg2 (by rw [hDl, show Nat.min (n - r) (n - r) = n - r by show min _ _ = _; omega]) hDs (by rw [hDl, hR2l, hRl]; omega) (by rw [hD]; exact flat_one _)
  obtain ⟨R3, hR3⟩ : ∃ R3, R3 = (R2.toList.take ((r + 1) * 2) ++ D ++ R2.toList.drop ((r + 1) * 2 + D.length)).toArray := ⟨_, rfl⟩
  rw [← hR3] at c2
  have hfin : InsOf w B r (.slice (some ⟨g, 0, none⟩) l.length cap) l x (.returned (.slice (some ⟨N, 0, none⟩) (n + 1) G)) (W2.drew.setRow N R3) := by
    refine ⟨_, rfl, ⟨by rw [length_flat, length_ins _ _ _ (by omega)], .inr ⟨N, G, R3, by rw [hn], by omega, setRow_heap W2.drew N R2 R3 _ (0, 0) hg2, by omega, hGm, ?_, ?_⟩⟩, ?_, .inr (by rw [hN]; rfl)⟩
    · have : R3.size = R2.size := by rw [hR3]; simp [hDl]; omega
      omega
    · have := grow_cells (ROW := ROW.toList) (L := flat (l.take r)) (D := D) (X := flat [x]) (m := r * 2) (k := 2) hRt (by rw [length_flat]; rfl) (by rw [hDl]; simp; omega)
      rw [hR3, hR2]
      have e1 : (r + 1) * 2 = r * 2 + 2 := by omega
      have e2 : (l.length + 1) * 2 = r * 2 + 2 + D.length := by rw [hDl, ← hn]; omega
      rw [e1, e2, this, hD, show l.take r ++ x :: l.drop r = l.take r ++ [x] ++ l.drop r by simp, flat_append, flat_append]
    · have b3 : Below w.heap.size w (W2.drew.setRow N R3) := below_setRow b2.drew (by omega) _
      exact ⟨b3.os, b3.tape, b3.output, b3.size, fun k hk _ => b3.block k hk⟩
  rw [← hn] at hr hroom hlen hfin hnc ⊢
  rw [← hN] at hrz
  have gf := Lib.hid hfin
  clear hfin hn hROW hG hR2 hR3 hD hDl hDs hR2l hg1 hg2 hx1 hg htk _hsz hi hz0 hz1 hz2 hs hx hW1 hW2 hold hkk hik hcell eL lL hRl hRt b1 b2 hgw hxw hB hN
  unfold maxLen at _hcap hGm
  have hz2 : ¬ ((r : Int) = (n : Int)) := by omega
  have hz3 : (cap : Int) < (n : Int) + 1 := by omega
  have hw1 : IntKind.i64.wrap ((r : Int) + 1) = (r : Int) + 1 := by rw [IntKind.wrap_i64]; omega
  have hb1 : (0 : Int) ≤ (r : Int) + 1 := by omega
  have hin : r ≤ n := by omega
  have htn : ((r : Int) + 1).toNat = r + 1 := by omega
  have hb3 : (r : Int) ≤ (n : Int) := by omega
  have hb4 : ¬ (cap = r) := by omega
  have hGi : ¬ (G = r) := by omega
  have hGim : ¬ (G = r + 1) := by omega
  go_enter Try.func114, Try.ntmps114
  go_wp2_with (first
    | (at_builtin; refine Lib.wpList_append_run _ rfl _ _ _ _ rfl _ _ rfl rfl _ _ (hrz _) ?_)
    | (at_builtin; refine wpList_copy_runI _ rfl _ _ 159 159 rfl _ _ rfl rfl (c1 _ _ _) ?_))
  go_region_law (refine step_copy_runI rfl _ _ 159 159 rfl _ _ (by simp [Act.eval, Act.put]) (by simp [Act.eval, Act.put]) (c2 _ _ _) ?_)
  go_wp2
  go_ret
  exact gf.out

/-- Insert of one item, wherever. -/
theorem ins_any (B bx r : Nat) (v : Value) (l : List (K × V)) (x : K × V) (w : World) (h : w.ownsRow B 167 2 v l.length (flat l)) (hB : B ≤ w.heap.size) (hr : r ≤ l.length) (hx : One w bx x) (hne : v.ownBlock ≠ some bx) (hlen : l.length ≤ 1000000) :
    Calls Try.prog 114 #[v, .int .i64 (r : Nat), .slice (some ⟨bx, 0, none⟩) 1 1] w (InsOf w B r v l x) := by
  by_cases he : r = l.length
  · subst he
    exact ins_end B bx v l x w h hB hx hlen
  · rcases h.2 with ⟨_, h0⟩ | ⟨g, cap, cur, rfl, hg, hh, h1, h2, h3, h4⟩
    · omega
    · by_cases hroom : l.length + 1 ≤ cap
      · exact ins_shift B bx r g cap cur l x w hh hg h2 h3 h4 (by omega) hroom hx (fun e => hne (by rw [e]; rfl)) hlen
      · exact ins_grow B bx r g cap cur l x w hh hB h2 h3 h4 (by omega) h1 (by omega) hx hlen
end Go.Proofs.Ytmjdkmdpegcalaa.BQ
