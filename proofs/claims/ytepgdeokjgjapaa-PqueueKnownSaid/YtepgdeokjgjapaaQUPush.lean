/- A valid queue; Push. -/
import Derived.Test.YtepgdeokjgjapaaQUCalls
import Derived.RangeFuncBox
namespace Go.Proofs.Ytepgdeokjgjapaa.QU
open Go.RowKit

theorem nodup_le : ∀ (n : Nat) (l : List Nat), l.Nodup → (∀ x ∈ l, x < n) → l.length ≤ n
  | 0, l, _, h => by
    cases l with
    | nil => simp
    | cons a t => exact absurd (h a (List.mem_cons_self ..)) (Nat.not_lt_zero _)
  | n + 1, l, hd, h => by
    have ih := nodup_le n (l.erase n) (hd.erase n) (fun x hx => by
      have h1 := h x (List.mem_of_mem_erase hx)
      have h2 := (hd.mem_erase_iff.1 hx).1
      omega)
    rw [List.length_erase] at ih
    split at ih <;> omega
/-- A valid queue. -/
structure QOwn (w : World) (B P n : Nat) (v : Value) (l : List It) (pl : List Nat) : Prop where
  qs : QS w B P n v l pl
  heap : Heaped lt l
  plc : Placed Prod.fst pl l (fun _ => False)
  nd : (l.map Prod.fst).Nodup
  ids : ∀ y ∈ l, y.1 < n
  hn : n ≤ 1024
section
variable {w : World} {B P n : Nat} {v : Value} {l : List It} {pl : List Nat}
theorem QOwn.below {w' : World} (h : QOwn w B P n v l pl) (hb : Below w.heap.size w w') : QOwn w' B P n v l pl := ⟨h.qs.below hb, h.heap, h.plc, h.nd, h.ids, h.hn⟩
theorem QOwn.len (h : QOwn w B P n v l pl) : l.length ≤ n := by
  have := nodup_le n (l.map Prod.fst) h.nd (fun x hx => by
    obtain ⟨y, hy, rfl⟩ := List.mem_map.1 hx
    exact h.ids y hy)
  simpa using this
theorem QOwn.lt (h : QOwn w B P n v l pl) {i : Nat} (hi : i < n) (hno : ∀ y ∈ l, y.1 ≠ i) : l.length < n := by
  have := nodup_le n (i :: l.map Prod.fst) (List.nodup_cons.2 ⟨fun hm => by obtain ⟨y, hy, e⟩ := List.mem_map.1 hm; exact hno y hy e, h.nd⟩) (fun x hx => by
    rcases List.mem_cons.1 hx with rfl | hx
    · exact hi
    · obtain ⟨y, hy, rfl⟩ := List.mem_map.1 hx
      exact h.ids y hy)
  simp at this
  omega
/-- Where an id is. -/
theorem QOwn.place (h : QOwn w B P n v l pl) {i : Nat} (hi : i < n) : (∃ k x, l[k]? = some x ∧ x.1 = i ∧ pl[i]? = some (k + 1)) ∨ ((∀ y ∈ l, y.1 ≠ i) ∧ pl[i]? = some 0) := by
  have hp := h.plc i (by rw [h.qs.len]; have := h.hn; omega) (by simp)
  by_cases hx : ∃ y ∈ l, y.1 = i
  · obtain ⟨y, hy, e⟩ := hx
    obtain ⟨k, hk, rfl⟩ := List.mem_iff_getElem.1 hy
    have e1 : l[k]? = some l[k] := List.getElem?_eq_getElem hk
    exact Or.inl ⟨k, _, e1, e, hp.1 k _ e1 e⟩
  · have hno : ∀ y ∈ l, y.1 ≠ i := fun y hy e => hx ⟨y, hy, e⟩
    exact Or.inr ⟨hno, hp.2 hno⟩
end
theorem placed_push {l : List It} {pl : List Nat} {x : It} (h : Placed Prod.fst pl l (fun _ => False)) : Placed Prod.fst pl (l ++ [x]) (fun i => i = x.1 ∨ False) := by
  intro i hi hb
  have hp := h i hi (by simp)
  refine ⟨fun j y hy e => ?_, fun hno => hp.2 fun y hy => hno y (List.mem_append_left _ hy)⟩
  rcases Nat.lt_or_ge j l.length with hj | hj
  · rw [List.getElem?_append_left hj] at hy
    exact hp.1 j y hy e
  · rw [List.getElem?_append_right hj] at hy
    have hj0 : j - l.length = 0 := by
      have := lt_of_some hy
      simp at this
      omega
    rw [hj0] at hy
    obtain rfl : x = y := by simpa using hy
    exact absurd (Or.inl e.symm) hb
theorem infoI : (Try.prog.info? 130).map (fun i => (i.zero, i.size, i.bytes)) = some (some (.agg #[.int .i64 0, .int .u8 0]), 2, 16) := by kernel_rfl
/-- The heap has a further item, of zeros. -/
theorem grow_ends {w w1 : World} {B P n : Nat} {v v' : Value} {l : List It} {pl : List Nat} (h : QS w B P n v l pl) (hB : Below w.heap.size w w1) {w2 : World} (hr : w2.ownsRow B 130 2 v' (l.length + 1) (flat l ++ flat [z0])) (hg : w1.grownBy w2 v.ownBlock)
    (hat : v'.ownBlock = v.ownBlock ∨ v'.ownBlock = some w1.heap.size) :
    QS (w2.setCell ⟨P, 2, none⟩ v') B P n v' (l ++ [z0]) pl ∧ But (fun b => b = P ∨ v.ownBlock = some b) w (w2.setCell ⟨P, 2, none⟩ v') ∧ (∀ g, v'.ownBlock = some g → v.ownBlock = some g ∨ w.heap.size ≤ g) := by
  have h1 := h.below hB
  have hb2 : w2.heap[P]? = some (.cells (qcells P n v pl) 125 (0, 0)) := (hg.block P (lt_of_heap h1.blk) (fun e => h.ne e.symm)).trans h1.blk
  have hne : ∀ g, v'.ownBlock = some g → g ≠ P := by
    intro g hg' e
    subst e
    rcases hat with h2 | h2
    · exact h.ne (h2 ▸ hg')
    · rw [hg'] at h2
      have := Option.some.inj h2
      have := lt_of_heap h1.blk
      omega
  refine ⟨⟨h.hP, ?_, ?_, h.len⟩, ?_, ?_⟩
  · have := heap_setCell_same w2 P 2 _ _ v' hb2
    rw [this]
    rfl
  · rw [List.length_append, flat_append]
    exact owns_of_block hr fun g hg' => Below.heap_setCell w2 ⟨P, 2, none⟩ v' g (hne g hg')
  · exact ((But.of_below (F := fun b => b = P ∨ v.ownBlock = some b) hB).trans (But.of_grown hg (fun b hb => Or.inr hb))).setCell (Or.inl (Or.inl rfl)) _
  · intro g hg'
    rcases hat with h2 | h2
    · exact Or.inl (h2 ▸ hg')
    · rw [hg'] at h2
      have := Option.some.inj h2
      have := hB.size
      exact Or.inr (by omega)
theorem src_zero (W : World) : ∀ j u, (flat [z0])[j]? = some u → (W.alloc (.cells #[.int .i64 0, .int .u8 0] 130)).cell? ((⟨W.heap.size, 0, none⟩ : Addr).add j) = some u := by
  intro j u hj
  rw [add_plain, Nat.zero_add]
  have hn : (W.alloc (.cells #[.int .i64 0, .int .u8 0] 130)).heap[W.heap.size]? = some (.cells #[.int .i64 0, .int .u8 0] 130 (0, 0)) := World.alloc_heap_new _ _
  refine (cell_of_row _ W.heap.size j _ _ (0, 0) hn).trans ?_
  rw [← hj]
  simp [flat, z0]
theorem grow_block {w w1 w2 : World} {B P n : Nat} {v : Value} {l : List It} {pl : List Nat} (h : QS w B P n v l pl) (hB : Below w.heap.size w w1) (hg : w1.grownBy w2 v.ownBlock) : w2.heap[P]? = some (.cells (qcells P n v pl) 125 (0, 0)) :=
  (hg.block P (lt_of_heap (h.below hB).blk) (fun e => h.ne e.symm)).trans (h.below hB).blk
/-- What Push and Change leave. -/
def PutOf (w : World) (B P n : Nat) (v : Value) (l' : List It) (e : Ending) (w' : World) : Prop :=
  e = .returned (.int .i64 0) ∧ Hid (∃ v' G pl', QOwn w' B P n v' G pl' ∧ G.Perm l' ∧ Chg w w' P v v')
/-- The further item is settled. -/
theorem push_settle {w : World} {B P n i m : Nat} {v : Value} {l : List It} {pl : List Nat} {p : Pr} (h : QS w B P n v (l ++ [z0]) pl) (hm : m = l.length) (hh : Heaped lt l) (hp : Placed Prod.fst pl l (fun _ => False)) (hnd : (l.map Prod.fst).Nodup) (hids : ∀ y ∈ l, y.1 < n) (hn : n ≤ 1024) (hlt : m < n) (hi : i < n) (hno : ∀ y ∈ l, y.1 ≠ i) :
    Calls Try.prog 79 #[.pointer (some ⟨P, 0, none⟩), .int .i64 (m : Nat), .agg #[.int .i64 (i : Nat), .int .u8 p]] w fun e w' => (∃ u, e = .returned u) ∧ Hid (∃ G pl', QOwn w' B P n v G pl' ∧ G.Perm (l ++ [(i, p)]) ∧ But (fun b => b = P ∨ v.ownBlock = some b) w w') := by
  subst hm
  have e : (l ++ [z0]).set l.length (i, p) = l ++ [(i, p)] := by simp
  have hnd2 : (((l ++ [z0]).set l.length (i, p)).map Prod.fst).Nodup := by
    rw [e, List.map_append, List.map_cons, List.map_nil]
    exact List.nodup_append.2 ⟨hnd, by simp, fun a ha b hb => by
      obtain ⟨y, hy, rfl⟩ := List.mem_map.1 ha
      obtain rfl : b = i := by simpa using hb
      exact hno y hy⟩
  have hid2 : ∀ y ∈ l ++ [(i, p)], y.1 < n := fun y hy => by
    rcases List.mem_append.1 hy with h1 | h1
    · exact hids y h1
    · obtain rfl : y = (i, p) := by simpa using h1
      exact hi
  refine (settle_any w B P n l.length v (l ++ [z0]) pl (i, p) (fun _ => False) h (by simp) (by simp; omega) (hole_end hh z0) (by rw [e]; exact placed_push hp) hnd2 (fun y hy => by rw [e] at hy; have := hid2 y hy; omega)).mono ?_
  rintro e' w' ⟨hu, G, pl', hq, hhp, hpl, hperm, hbut⟩
  rw [e] at hperm hnd2
  exact ⟨hu, G, pl', ⟨hq, hhp, hpl, (hperm.map Prod.fst).nodup_iff.2 hnd2, fun y hy => hid2 y (hperm.mem_iff.1 hy), hn⟩, hperm, hbut⟩
theorem chg_of {w w1 w3 : World} {P : Nat} {v v' : Value} (h1 : But (fun b => b = P ∨ v.ownBlock = some b) w w1) (hv : ∀ g, v'.ownBlock = some g → v.ownBlock = some g ∨ w.heap.size ≤ g) (h2 : But (fun b => b = P ∨ v'.ownBlock = some b) w1 w3) : Chg w w3 P v v' :=
  ⟨⟨h2.os.trans h1.os, h2.tape.trans h1.tape, h2.output.trans h1.output, Nat.le_trans h1.size h2.size, fun b hb hF => (h2.block b (Nat.lt_of_lt_of_le hb h1.size) (fun e => e.elim (fun e => hF (Or.inl e)) (fun e => (hv b e).elim (fun h => hF (Or.inr h)) (fun h => by omega)))).trans (h1.block b hb hF)⟩, hv⟩
set_option maxHeartbeats 2000000 in
set_option maxRecDepth 100000 in
theorem push_any (w : World) (B P n i : Nat) (v : Value) (l : List It) (pl : List Nat) (p : Pr) (h : QOwn w B P n v l pl) (hi : i < n) (hno : ∀ y ∈ l, y.1 ≠ i) :
    Calls Try.prog 47 #[.pointer (some ⟨P, 0, none⟩), .int .i64 (i : Nat), .int .u8 p] w (PutOf w B P n v (l ++ [(i, p)])) := by
  have hp0 : pl[i]? = some 0 := by
    rcases h.place hi with ⟨k, x, hx, e, _⟩ | ⟨_, h0⟩
    · exact absurd e (hno x (List.mem_of_getElem? hx))
    · exact h0
  have hlt := h.lt hi hno
  have hn := h.hn
  obtain ⟨A, c, rfl, hA, hc⟩ := h.qs.slice
  obtain ⟨i0, hinf, hz0, hz1, hz2⟩ := info_parts infoI
  have gO := Lib.hid h
  have gno := Lib.hid hno
  have gp0 := Lib.hid hp0
  have hB : B ≤ w.heap.size := by have := h.qs.hP; have := lt_of_heap h.qs.blk; omega
  have c2 := h.qs.c2
  have hPw := lt_of_cell c2
  obtain ⟨m, hm⟩ : ∃ m, m = l.length := ⟨_, rfl⟩
  have gm := Lib.hid hm
  rw [← hm] at c2 hc hlt
  have hrow : w.ownsRow B 130 2 (.slice A m c) m (flat l) := by rw [hm]; exact h.qs.row
  clear h hno hp0 hA hm
  go_enter Try.func47, Try.ntmps47
  go_wp2_with (first
    | (go_at_call 77; refine (check_in gO.out.qs i hi).mono ?_; rintro e w' ⟨rfl, rfl⟩)
    | (go_at_call 78; refine (find_none gO.out.qs i hi hn gp0.out).mono ?_; rintro e w' ⟨rfl, rfl⟩)
    | (at_builtin; refine wpList_append_own_at _ rfl _ _ 123 rfl B 130 i0 _ 2 16 Try.underlying123 hinf hz0 hz1 hz2 rfl (by decide) _ _ _ rfl (hrow.alloc _) ⟨w.heap.size, 0, none⟩ 1 1 (flat [z0]) rfl rfl (src_zero _) (flat_one _) (by unfold maxLen; omega) (by omega) (by simp; omega) ?_
       intro v2 w2 hr2 hg2 _ hat2
       obtain ⟨g2, cap2, rfl⟩ := ownsRow_succ hr2
       have hBw := (Below.refl w.heap.size w).alloc (Nat.le_refl _) (.cells #[.int .i64 0, .int .u8 0] 130)
       have b2 := grow_block gO.out.qs hBw (by rw [← gm.out]; exact hg2)
       have k3 : w2.cell? ⟨P, 2, none⟩ = some (.slice A m c) := by rw [gm.out]; exact (cell_of_row w2 P 2 _ _ (0, 0) b2).trans rfl
       have k4 := frozen_of_row w2 P 2 _ _ b2
       have gE := Lib.hid (grow_ends gO.out.qs hBw (by rw [← gm.out]; exact hr2) (by rw [← gm.out]; exact hg2) (by rw [← gm.out]; exact hat2))
       clear hr2 hg2 hat2 hBw b2)
    | (go_at_call 79; refine (push_settle gE.out.1 gm.out gO.out.heap gO.out.plc gO.out.nd gO.out.ids hn hlt hi gno.out).mono ?_; rintro e w3 ⟨⟨u, rfl⟩, gF⟩))
  go_ret
  obtain ⟨G, pl', hq, hperm, hbut⟩ := gF.out
  exact ⟨rfl, _, G, pl', hq, hperm, chg_of gE.out.2.1 gE.out.2.2 hbut⟩
theorem push_bad (p : Option Addr) (id : Int) (x : Pr) (w : World) (h : Bad w p) : Calls Try.prog 47 #[.pointer p, .int .i64 id, .int .u8 x] w fun e w' => e = .returned (.int .i64 1) ∧ w = w' := by
  have g := Lib.hid h
  clear h
  go_enter Try.func47, Try.ntmps47
  go_wp2_with (go_at_call 77; refine (check_bad _ _ _ g.out).mono ?_; rintro e w' ⟨rfl, rfl⟩)
  go_ret
  exact ⟨rfl, rfl⟩
section
variable {w : World} {B P n : Nat} {v : Value} {l : List It} {pl : List Nat}
theorem push_out (h : QS w B P n v l pl) (id : Int) (x : Pr) (hi : id < 0 ∨ (n : Int) ≤ id) : Calls Try.prog 47 #[.pointer (some ⟨P, 0, none⟩), .int .i64 id, .int .u8 x] w fun e w' => e = .returned (.int .i64 3) ∧ w = w' := by
  have g := Lib.hid h
  have gi := Lib.hid hi
  clear h hi
  go_enter Try.func47, Try.ntmps47
  go_wp2_with (go_at_call 77; refine (check_out g.out id gi.out).mono ?_; rintro e w' ⟨rfl, rfl⟩)
  go_ret
  exact ⟨rfl, rfl⟩
theorem push_have (h : QOwn w B P n v l pl) (k : Nat) (y : It) (x : Pr) (hy : l[k]? = some y) : Calls Try.prog 47 #[.pointer (some ⟨P, 0, none⟩), .int .i64 (y.1 : Nat), .int .u8 x] w fun e w' => e = .returned (.int .i64 6) ∧ w = w' := by
  have hyn := h.ids y (List.mem_of_getElem? hy)
  have hk : k < 1024 := by have := lt_of_some hy; have := h.len; have := h.hn; omega
  have g := Lib.hid h
  have gp := Lib.hid ((h.plc y.1 (by rw [h.qs.len]; have := h.hn; omega) (by simp)).1 k y hy rfl)
  clear h hy
  go_enter Try.func47, Try.ntmps47
  go_wp2_with (first
    | (go_at_call 77; refine (check_in g.out.qs y.1 hyn).mono ?_; rintro e w' ⟨rfl, rfl⟩)
    | (go_at_call 78; refine (find_at g.out.qs y.1 k hyn g.out.hn hk gp.out).mono ?_; rintro e w' ⟨rfl, rfl⟩))
  go_ret
  exact ⟨rfl, rfl⟩
theorem placed_same {k : Nat} {x y : It} (h : Placed Prod.fst pl l (fun _ => False)) (hx : l[k]? = some x) (e : y.1 = x.1) : Placed Prod.fst pl (l.set k y) (fun i => i = y.1 ∨ False) := by
  have hk := lt_of_some hx
  intro i hi hb
  have hp := h i hi (by simp)
  refine ⟨fun j z hz ez => ?_, fun hno => hp.2 fun z hz ez => ?_⟩
  · by_cases hjk : j = k
    · subst hjk
      rw [set_same hk] at hz
      obtain rfl : y = z := by injection hz
      exact absurd (Or.inl ez.symm) hb
    · rw [set_other hjk] at hz
      exact hp.1 j z hz ez
  · obtain ⟨j, hj, rfl⟩ := List.mem_iff_getElem.1 hz
    by_cases hjk : j = k
    · subst hjk
      have : l[j] = x := (List.getElem?_eq_some_iff.1 hx).2
      rw [this] at ez
      exact hb (Or.inl (ez.symm.trans e.symm))
    · exact hno l[j] (List.mem_of_getElem? (i := j) (by rw [set_other hjk]; exact List.getElem?_eq_getElem hj)) ez
theorem ids_same {k : Nat} {x y : It} (hx : l[k]? = some x) (e : y.1 = x.1) : (l.set k y).map Prod.fst = l.map Prod.fst := by
  rw [List.map_set, e]
  apply List.ext_getElem?
  intro j
  by_cases hjk : j = k
  · subst hjk
    rw [set_same (by simpa using lt_of_some hx)]
    simp [hx]
  · rw [set_other hjk]
end
end Go.Proofs.Ytepgdeokjgjapaa.QU
