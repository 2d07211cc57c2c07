/- Set. -/
import Derived.Test.YtmjdkmdpegcalaaISRead
import Derived.Test.YtmjdkmdpegcalaaISIns
import Derived.Test.YtmjdkmdpegcalaaBut
namespace Go.Proofs.Ytmjdkmdpegcalaa.IS
open Go.RowKit Go.Shelf Go.Lib

/-- What Set leaves. -/
def SetOf (w : World) (B P : Nat) (v : Value) (l : List (K × V)) (k : K) (x : V) (e : Ending) (w' : World) : Prop :=
  ∃ v', e = .returned (.tuple #[(.string (getL lt l k z0)), .bool (hasB lt (keysOf l) k), .int .i64 0]) ∧ Own w' B P v' (putL lt l k x) ∧ Chg w w' P v v'
theorem own_ne {w : World} {B P : Nat} {v : Value} {l : List (K × V)} (h : Own w B P v l) : v.ownBlock ≠ some P := by
  intro he
  rcases h.own.2 with ⟨h0, _⟩ | ⟨g, cap, cur, hv', _, hh, _⟩
  · rw [h0] at he; cases he
  · rw [hv'] at he
    obtain rfl : g = P := by simpa [Value.ownBlock] using he
    rw [h.blk] at hh
    injection hh with hh
    injection hh with _ hT _
    exact absurd hT (by decide)
theorem flat_set : ∀ (l : List (K × V)) (r : Nat) (x : V), r < l.length → flat (l.set r ((l.getD r z0).1, x)) =
    (flat l).set (r * 2 + 1) (.string (x))
  | [], r, x, h => by simp at h
  | y :: l, 0, x, _ => by simp [flat]
  | y :: l, r + 1, x, h => by
    have ih := flat_set l r x (by simpa using h)
    have e : ∀ (a : K × V) (m : List (K × V)), flat (a :: m) = ((.int .i64 (a.1)) :: [.string (a.2)]) ++ flat m := fun a m => by simp [flat]
    have e1 : (y :: l).set (r + 1) (((y :: l).getD (r + 1) z0).1, x) = y :: l.set r ((l.getD r z0).1, x) := by simp
    rw [e1, e, e, ih]
    have s : ((.int .i64 (y.1)) :: [.string (y.2)] : List Value).length = 2 := rfl
    have k1 : (r + 1) * 2 + 1 = 2 + (r * 2 + 1) := by omega
    rw [k1, List.set_append_right _ _ (by rw [s]; omega), s, Nat.add_sub_cancel_left]
/-- A value of an own row is written. -/
theorem own_set {w : World} {B g c : Nat} {l : List (K × V)} (h : w.ownsRow B 177 2 (.slice (some ⟨g, 0, none⟩) l.length c) l.length (flat l)) {r : Nat} (hr : r < l.length) (x : V) :
    (w.setCell ⟨g, r * 2 + 1, none⟩ (.string (x))).ownsRow
      B 177 2 (.slice (some ⟨g, 0, none⟩) l.length c) l.length (flat (l.set r ((l.getD r z0).1, x))) := by
  refine ⟨by rw [length_flat, List.length_set], ?_⟩
  rcases h.2 with ⟨h0, _⟩ | ⟨g', cap, cur, hv, hg, hh, h1, h2, h3, h4⟩
  · cases h0
  · injection hv with e1 _ e3
    injection e1 with e1
    injection e1 with e1
    subst e1 e3
    refine Or.inr ⟨g, c, cur.setIfInBounds (r * 2 + 1) (.string (x)), rfl, hg, heap_setCell_same w g _ cur _ _ hh, h1, h2, by simpa using h3, ?_⟩
    rw [Array.toList_setIfInBounds, List.take_set, h4, flat_set l r x hr]
theorem set_len {l : List (K × V)} {k : K} {x : V} : (putL lt l k x).length = if hasB lt (keysOf l) k then l.length else l.length + 1 := by
  unfold putL
  split
  · rw [List.length_set]
  · exact length_ins _ _ _ (by have := rkB_le (lt := lt) (keysOf l) k; simpa using this)

set_option maxHeartbeats 400000 in
theorem set_bad (p : Option Addr) (k : K) (x : V) (w : World) (h : Bad w p) : Calls Try.prog 52 #[.pointer p, (.int .i64 (k)), (.string (x))] w fun e w' => e = .returned (.tuple #[(.string (⟨#[]⟩)), .bool false, .int .i64 1]) ∧ w = w' := by
  have g := Lib.hid h
  clear h
  go_enter Try.func52, Try.ntmps52
  go_wp2_with (go_at_call 120; refine (valid_bad _ _ g.out).mono ?_; rintro e w' ⟨rfl, rfl⟩)
  go_ret3
  exact ⟨rfl, rfl⟩

theorem set_has_ends {w w1 : World} {B P g c : Nat} {l : List (K × V)} {k : K} {x : V} (h : Own w B P (.slice (some ⟨g, 0, none⟩) l.length c) l) (hB : Below w.heap.size w w1) (hh : hasB lt (keysOf l) k = true) :
    SetOf w B P (.slice (some ⟨g, 0, none⟩) l.length c) l k x (.returned (.tuple #[(.string ((l.getD (rkB lt (keysOf l) k) z0).2)), .bool true, .int .i64 0]))
      (w1.setCell ⟨g, rkB lt (keysOf l) k * 2 + 1, none⟩ (.string (x))) := by
  have hlt := has_lt hh
  have h1 := h.below hB
  have hgP : g ≠ P := fun e => own_ne h (by rw [e]; rfl)
  have hgw : g < w.heap.size := (h.own.lt g rfl).2
  have he : (l.getD (rkB lt (keysOf l) k) z0).1 = k := by
    have := eq_of_beq ((hasB_eq (hasB_lt hh)).symm.trans hh)
    simpa [hlt] using this
  refine ⟨.slice (some ⟨g, 0, none⟩) l.length c, ?_, ⟨h.hP, ?_, ?_, asc_put kord h.asc k x, ?_⟩, ⟨?_, fun g' hg' => Or.inl hg'⟩⟩
  · rw [hh]; unfold getL; rw [hh]; rfl
  · exact (Below.heap_setCell w1 _ _ P (fun e => hgP e.symm)).trans h1.blk
  · have := own_set h1.own hlt x
    rw [he] at this
    have e : putL lt l k x = l.set (rkB lt (keysOf l) k) (k, x) := by unfold putL; rw [hh]; rfl
    rw [e, List.length_set]
    exact this
  · rw [set_len, hh]; exact h.len
  · exact (But.of_below hB).setCell (Or.inl (Or.inr rfl)) _

set_option maxHeartbeats 2000000 in
theorem set_has (B P : Nat) (v : Value) (l : List (K × V)) (k : K) (x : V) (w : World) (h : Own w B P v l) (hh : hasB lt (keysOf l) k = true) :
    Calls Try.prog 52 #[.pointer (some ⟨P, 0, none⟩), (.int .i64 (k)), (.string (x))] w (SetOf w B P v l k x) := by
  have hlt := has_lt hh
  obtain ⟨g, c, cur, rfl, hg⟩ : ∃ g c cur, v = .slice (some ⟨g, 0, none⟩) l.length c ∧ w.heap[g]? = some (.cells cur 177 (0, 0)) := by
    rcases h.own.2 with ⟨_, h0⟩ | ⟨g, c, cur, hv, _, hh, _⟩
    · omega
    · exact ⟨g, c, cur, hv, hh⟩
  obtain ⟨A, c', e, hHas⟩ := h.has
  injection e with e1 _ e3
  subst e1 e3
  have g0 := Lib.hid hHas
  have gO := Lib.hid h
  have gh := Lib.hid hh
  have hc := hHas.cap
  obtain ⟨P', eP, hv0, hv1⟩ := hHas.lives (by omega)
  obtain rfl : P = P' := by simpa using eP
  obtain ⟨b, o, eA, hbw, _, h1⟩ := hHas.it.at hlt
  obtain ⟨rfl, rfl⟩ : g = b ∧ 0 = o := by simpa using eA
  rw [Nat.zero_add] at h1
  have hf := frozen_of_row w g (rkB lt (keysOf l) k * 2 + 1) _ _ hg
  obtain ⟨y, hy⟩ : ∃ y, y = (l.getD (rkB lt (keysOf l) k) z0).2 := ⟨_, rfl⟩
  have gy := Lib.hid hy
  rw [← hy] at h1
  have hPw := lt_of_cell hv0
  obtain ⟨r, hr⟩ : ∃ r, r = rkB lt (keysOf l) k := ⟨_, rfl⟩
  have gr := Lib.hid hr
  rw [← hr] at hlt h1 hf
  obtain ⟨n, hn⟩ : ∃ n, n = l.length := ⟨_, rfl⟩
  have gn := Lib.hid hn
  rw [← hn] at hlt hc hv1
  clear h hh hHas eP eA hg hy hr hn
  have i0 : (0 : Int) ≤ (r : Int) := by omega
  have i1 : (r : Int) < (n : Int) := by omega
  go_enter Try.func52, Try.ntmps52
  go_wp2_with (first
    | (go_at_call 120; refine (valid_any P _ hv0).mono ?_; rintro e w' ⟨rfl, rfl⟩)
    | (go_at_call 121; refine (find_any _ _ c l k _ g0.out).mono ?_; rintro e w' ⟨rfl, hB⟩; rw [← gr.out, gh.out]; have k1 := (hB.cell hbw).trans h1; have k2 := (hB.cell hPw).trans hv1; have k3 := (hB.frozen (p := ⟨g, r * 2 + 1, none⟩) hbw).trans hf))
  go_ret3
  obtain rfl := gn.out
  obtain rfl := gr.out
  obtain rfl := gy.out
  exact set_has_ends gO.out hB gh.out

theorem set_new_ends {w w2 w3 : World} {B P : Nat} {v v' : Value} {l : List (K × V)} {k : K} {x : V} (h : Own w B P v l) (hB : Below w.heap.size w w2) (hh : hasB lt (keysOf l) k = false) (hlen : l.length < 1000000)
    (ho : w3.ownsRow B 177 2 v' (l.length + 1) (flat (l.take (rkB lt (keysOf l) k) ++ (k, x) :: l.drop (rkB lt (keysOf l) k)))) (hg : w2.grownBy w3 v.ownBlock) (hat : v'.ownBlock = v.ownBlock ∨ v'.ownBlock = some w2.heap.size) :
    SetOf w B P v l k x (.returned (.tuple #[(.string (⟨#[]⟩)), .bool false, .int .i64 0])) (w3.setCell ⟨P, 1, none⟩ v') := by
  have h2 := h.below hB
  have hP2 := lt_of_heap h2.blk
  have b3 : w3.heap[P]? = some (.cells #[.pointer (some ⟨P, 0, none⟩), v] 175 (0, 0)) := (hg.block P hP2 (fun e => own_ne h e.symm)).trans h2.blk
  have hne : ∀ g, v'.ownBlock = some g → g ≠ P := fun g hg' e => by
    rcases hat with h4 | h4
    · exact own_ne h (by rw [← h4, hg', e])
    · rw [hg'] at h4; have := Option.some.inj h4; omega
  have e : putL lt l k x = l.take (rkB lt (keysOf l) k) ++ (k, x) :: l.drop (rkB lt (keysOf l) k) := by unfold putL; rw [hh]; rfl
  refine ⟨v', ?_, ⟨h.hP, ?_, ?_, asc_put kord h.asc k x, ?_⟩, ⟨?_, fun g hg' => ?_⟩⟩
  · rw [hh]; unfold getL; rw [hh]; rfl
  · rw [heap_setCell_same w3 P 1 _ _ v' b3]; rfl
  · rw [set_len, hh, e]
    exact owns_of_block ho fun g hg' => Below.heap_setCell w3 _ _ g (hne g hg')
  · rw [set_len, hh]; simp; omega
  · exact ((But.of_below (F := fun b => b = P ∨ v.ownBlock = some b) hB).trans ((But.of_grown hg (fun b hb => Or.inr hb)))).setCell (Or.inl (Or.inl rfl)) _
  · rcases hat with h4 | h4
    · exact Or.inl (by rw [← h4, hg'])
    · rw [hg'] at h4; have := Option.some.inj h4; have := hB.size; exact Or.inr (by omega)

abbrev cellsOf (k : K) (x : V) : Obj := .cells #[(.int .i64 (k)), (.string (x))] 177
/-- Insert as Set calls it. -/
theorem set_ins {w w1 : World} {B P r n c : Nat} {A : Option Addr} {l : List (K × V)} (k : K) (x : V) (h : Own w B P (.slice A l.length c) l) (hn : n = l.length) (hB : Below w.heap.size w w1) (hr : r ≤ n) :
    Calls Try.prog 122 #[.slice A n c, .int .i64 (r : Nat), .slice (some ⟨w1.heap.size, 0, none⟩) 1 1] (w1.alloc (cellsOf k x)) fun e w3 => ∃ A' c', e = .returned (.slice A' (n + 1) c') ∧
      Hid (w3.ownsRow B 177 2 (.slice A' (n + 1) c') (l.length + 1) (flat (l.take r ++ (k, x) :: l.drop r)) ∧ (w1.alloc (cellsOf k x)).grownBy w3 (Value.slice A l.length c).ownBlock ∧ ((Value.slice A' (n + 1) c').ownBlock = (Value.slice A l.length c).ownBlock ∨ (Value.slice A' (n + 1) c').ownBlock = some (w1.alloc (cellsOf k x)).heap.size)) ∧
      w3.cell? ⟨P, 1, none⟩ = some (.slice A n c) ∧ w3.frozen? ⟨P, 1, none⟩ = false := by
  subst hn
  have hB2 := hB.alloc hB.size (cellsOf k x)
  have h2 := h.below hB2
  have hBw : B ≤ w.heap.size := by have := h.hP; have := lt_of_heap h.blk; omega
  refine (ins_any B w1.heap.size r _ l (k, x) _ h2.own (Nat.le_trans hBw hB2.size) hr (heap_alloc_new w1 _) (fun e => by have := (h.own.lt _ e).2; have := hB.size; omega) h.len).mono ?_
  rintro e w3 ⟨v', rfl, ho, hg, hat⟩
  have b3 := (hg.block P (lt_of_heap h2.blk) (fun e => own_ne h e.symm)).trans h2.blk
  obtain ⟨A', c', rfl, _⟩ := owns_it (length_ins _ _ _ hr) ho
  exact ⟨A', c', rfl, ⟨ho, hg, hat⟩, (cell_of_row w3 P 1 _ _ (0, 0) b3).trans rfl, frozen_of_row w3 P 1 _ _ b3⟩
set_option maxRecDepth 100000 in
set_option maxHeartbeats 4000000 in
theorem set_new (B P : Nat) (v : Value) (l : List (K × V)) (k : K) (x : V) (w : World) (h : Own w B P v l) (hh : hasB lt (keysOf l) k = false) (hlen : l.length < 1000000) :
    Calls Try.prog 52 #[.pointer (some ⟨P, 0, none⟩), (.int .i64 (k)), (.string (x))] w (SetOf w B P v l k x) := by
  obtain ⟨A, c, rfl, hHas⟩ := h.has
  have g0 := Lib.hid hHas
  have gO := Lib.hid h
  have gh := Lib.hid hh
  have gl := Lib.hid hlen
  have hc := hHas.cap
  have hv0 : w.cell? ⟨P, 0, none⟩ = some (.pointer (some ⟨P, 0, none⟩)) := (cell_of_row w P 0 _ _ (0, 0) h.blk).trans rfl
  have hv1 : w.cell? ⟨P, 1, none⟩ = some (.slice A l.length c) := (cell_of_row w P 1 _ _ (0, 0) h.blk).trans rfl
  have hPw := lt_of_cell hv0
  obtain ⟨r, hr⟩ : ∃ r, r = rkB lt (keysOf l) k := ⟨_, rfl⟩
  have hrl : r ≤ l.length := by rw [hr]; have := rkB_le (lt := lt) (keysOf l) k; simpa using this
  have gr := Lib.hid hr
  obtain ⟨n, hn⟩ : ∃ n, n = l.length := ⟨_, rfl⟩
  have gn := Lib.hid hn
  have hrn : r ≤ n := by omega
  rw [← hn] at hv1 hc
  clear h hh hHas hr hn hlen hrl
  go_enter Try.func52, Try.ntmps52
  go_wp2_with (first
    | (go_at_call 120; refine (valid_any P _ hv0).mono ?_; rintro e w' ⟨rfl, rfl⟩)
    | (go_at_call 121; refine (find_any _ _ c l k _ g0.out).mono ?_; rintro e w1 ⟨rfl, hB⟩; rw [← gr.out, gh.out]
       have gB := Lib.hid hB
       have k2 := (hB.cell hPw).trans hv1
       clear hB)
    | (go_at_call 122; refine (set_ins k x gO.out gn.out gB.out hrn).mono ?_; rintro e w3 ⟨A', c', rfl, gg, k3, k4⟩))
  go_ret3
  obtain rfl := gn.out
  obtain rfl := gr.out
  exact set_new_ends gO.out (gB.out.alloc gB.out.size _) gh.out gl.out gg.out.1 gg.out.2.1 gg.out.2.2
theorem set_any (B P : Nat) (v : Value) (l : List (K × V)) (k : K) (x : V) (w : World) (h : Own w B P v l) (hlen : l.length < 1000000) :
    Calls Try.prog 52 #[.pointer (some ⟨P, 0, none⟩), (.int .i64 (k)), (.string (x))] w (SetOf w B P v l k x) := by
  cases hh : hasB lt (keysOf l) k with
  | true => exact set_has B P v l k x w h hh
  | false => exact set_new B P v l k x w h hh hlen
end Go.Proofs.Ytmjdkmdpegcalaa.IS
