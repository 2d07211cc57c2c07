/- The chapter's example: works. -/
import Derived.Test.YtmjdkmdpegcalaaISNear
import Derived.Test.YtmjdkmdpegcalaaISDel
import Derived.Test.YtmjdkmdpegcalaaLib
import Derived.Maps.AppendAt
namespace Go.Proofs.Ytmjdkmdpegcalaa
open Go.RowKit Go.Shelf Go.Sort Go.Lib
attribute [local go_sem] Oper.semAt_some

/-- The rows of the example: key, value, the old value, whether there was one. -/
def wk (k : Nat) : Int := match k with | 0 => 5 | 1 => 2 | 2 => 9 | _ => 5
def wv (k : Nat) : ByteArray := match k with | 0 => ⟨#[97]⟩ | 1 => ⟨#[98]⟩ | 2 => ⟨#[99]⟩ | _ => ⟨#[100]⟩
def wo (k : Nat) : ByteArray := match k with | 3 => ⟨#[97]⟩ | _ => ⟨#[]⟩
def wh (k : Nat) : Bool := match k with | 3 => true | _ => false
def wl : Nat → List (Int × ByteArray)
  | 0 => []
  | 1 => [(5, ⟨#[97]⟩)]
  | 2 => [(2, ⟨#[98]⟩), (5, ⟨#[97]⟩)]
  | 3 => [(2, ⟨#[98]⟩), (5, ⟨#[97]⟩), (9, ⟨#[99]⟩)]
  | _ => [(2, ⟨#[98]⟩), (5, ⟨#[100]⟩), (9, ⟨#[99]⟩)]
theorem wl_put (k : Nat) (hk : k < 4) : putL IS.lt (wl k) (wk k) (wv k) = wl (k + 1) := by
  rcases k with _ | _ | _ | _ | k
  · rfl
  · rfl
  · rfl
  · rfl
  · omega
theorem wl_get (k : Nat) (hk : k < 4) : getL IS.lt (wl k) (wk k) IS.z0 = wo k := by
  rcases k with _ | _ | _ | _ | k
  · rfl
  · rfl
  · rfl
  · rfl
  · omega
theorem wl_has (k : Nat) (hk : k < 4) : hasB IS.lt (keysOf (wl k)) (wk k) = wh k := by
  rcases k with _ | _ | _ | _ | k
  · rfl
  · rfl
  · rfl
  · rfl
  · omega
theorem wl_len (k : Nat) : (wl k).length ≤ 3 := by
  rcases k with _ | _ | _ | _ | k <;> simp [wl]

/-- The example's rows in memory. -/
def wrow : Array Value := #[.int .i64 5, .string ⟨#[97]⟩, .string ⟨#[]⟩, .bool false, .int .i64 2, .string ⟨#[98]⟩, .string ⟨#[]⟩, .bool false, .int .i64 9, .string ⟨#[99]⟩, .string ⟨#[]⟩, .bool false, .int .i64 5, .string ⟨#[100]⟩, .string ⟨#[97]⟩, .bool true]
def Rowed (w : World) (b : Nat) : Prop := w.heap[b]? = some (.cells wrow 105 (0, 0))
theorem Rowed.cells {w : World} {b k : Nat} (h : Rowed w b) (hk : k < 4) : w.cell? ⟨b, k * 4, none⟩ = some (.int .i64 (wk k)) ∧ w.cell? ⟨b, k * 4 + 1, none⟩ = some (.string (wv k)) ∧ w.cell? ⟨b, k * 4 + 1 + 1, none⟩ = some (.string (wo k)) ∧ w.cell? ⟨b, k * 4 + 1 + 1 + 1, none⟩ = some (.bool (wh k)) := by
  have hc := fun i => cell_of_row w b i _ _ (0, 0) h
  rcases k with _ | _ | _ | _ | k
  · exact ⟨(hc _).trans rfl, (hc _).trans rfl, (hc _).trans rfl, (hc _).trans rfl⟩
  · exact ⟨(hc _).trans rfl, (hc _).trans rfl, (hc _).trans rfl, (hc _).trans rfl⟩
  · exact ⟨(hc _).trans rfl, (hc _).trans rfl, (hc _).trans rfl, (hc _).trans rfl⟩
  · exact ⟨(hc _).trans rfl, (hc _).trans rfl, (hc _).trans rfl, (hc _).trans rfl⟩
  · omega
/-- A block of another type is not the row of the items. -/
theorem IS.Own.apart {w : World} {B P b : Nat} {v : Value} {l : List (IS.K × IS.V)} {cs : Array Value} {t : TypeId} {f : Nat × Nat} (h : IS.Own w B P v l) (hb : w.heap[b]? = some (.cells cs t f)) (ht : t ≠ 177) : v.ownBlock ≠ some b := by
  intro he
  rcases h.own.2 with ⟨h0, _⟩ | ⟨g, cap, cur, hv', _, hh, _⟩
  · rw [h0] at he; cases he
  · rw [hv'] at he
    obtain rfl : g = b := by simpa [Value.ownBlock] using he
    rw [hb] at hh
    injection hh with hh
    injection hh with _ hT _
    exact ht hT
/-- The example's Set. -/
theorem wset (k : Nat) (hk : k < 4) (P b : Nat) (v : Value) (w : World) (hO : IS.Own w P P v (wl k)) (hR : Rowed w b) (hbP : b ≠ P) :
    Calls Try.prog 52 #[.pointer (some ⟨P, 0, none⟩), .int .i64 (wk k), .string (wv k)] (w.alloc (.cells #[.int .i64 (wk k), .string (wv k), .string (wo k), .bool (wh k)] 105)) fun e w' =>
      e = .returned (.tuple #[.string (wo k), .bool (wh k), .int .i64 0]) ∧ Hid ((∃ v', IS.Own w' P P v' (wl (k + 1))) ∧ Rowed w' b ∧ Below P w w') ∧ w'.cell? ⟨w.heap.size, 2, none⟩ = some (.string (wo k)) ∧ w'.cell? ⟨w.heap.size, 3, none⟩ = some (.bool (wh k)) := by
  obtain ⟨o, ho⟩ : ∃ o, o = Obj.cells #[.int .i64 (wk k), .string (wv k), .string (wo k), .bool (wh k)] 105 := ⟨_, rfl⟩
  have bA : Below w.heap.size w (w.alloc o) := (Below.refl _ w).alloc (Nat.le_refl _) _
  have hO1 := hO.below bA
  have hn : (w.alloc o).heap[w.heap.size]? = some (.cells #[.int .i64 (wk k), .string (wv k), .string (wo k), .bool (wh k)] 105 (0, 0)) := by rw [ho]; exact heap_alloc_new w _
  have hPw := IS.lt_of_heap hO.blk
  have hbw := IS.lt_of_heap hR
  have hR1 : Rowed (w.alloc o) b := (bA.block b hbw).trans hR
  have a1 := hO1.apart hR1 (by decide)
  have a2 := hO1.apart hn (by decide)
  rw [← ho]
  refine (IS.set_any P P v (wl k) (wk k) (wv k) _ hO1 (by have := wl_len k; omega)).mono ?_
  rintro e w' ⟨v', he, hO', hC⟩
  rw [wl_get k hk, wl_has k hk] at he
  rw [wl_put k hk] at hO'
  have hsz : (w.alloc o).heap.size = w.heap.size + 1 := by simp
  have hw' : w'.heap[w.heap.size]? = _ := (hC.but.block w.heap.size (by omega) (fun h => h.elim (fun h => by omega) a2)).trans hn
  have hc := fun i => cell_of_row w' w.heap.size i _ _ (0, 0) hw'
  refine ⟨he, ⟨⟨v', hO'⟩, (hC.but.block b (by omega) (fun h => h.elim hbP a1)).trans hR1, ?_⟩, (hc 2).trans rfl, (hc 3).trans rfl⟩
  refine ⟨hC.but.os, hC.but.tape, hC.but.output, Nat.le_trans bA.size hC.but.size, fun i hi => ?_⟩
  refine (hC.but.block i (by omega) (fun h => ?_)).trans (bA.block i (by omega))
  rcases h with h | h
  · omega
  · have := (hO1.own.lt i h).1; omega

/-- What the questions of the example answer. -/
def Told (w : World) (x : Value) (e : Ending) (w' : World) : Prop := e = .returned x ∧ Below w.heap.size w w'
section
variable {P : Nat} {v : Value} {w : World}
theorem wfloor (h : IS.Own w P P v (wl 4)) (k : Int) (x : Value) (hx : IS.ans ((wl 4).take (rkL IS.lt (keysOf (wl 4)) k)).getLast? = x) : Calls Try.prog 53 #[.pointer (some ⟨P, 0, none⟩), .int .i64 k] w (Told w x) := by
  obtain ⟨A, c, _, hh, _⟩ := h.has_under
  exact hx ▸ (IS.floor_any _ A c _ k w hh)
theorem wceil (h : IS.Own w P P v (wl 4)) (k : Int) (x : Value) (hx : IS.ans ((wl 4).drop (rkB IS.lt (keysOf (wl 4)) k)).head? = x) : Calls Try.prog 54 #[.pointer (some ⟨P, 0, none⟩), .int .i64 k] w (Told w x) := by
  obtain ⟨A, c, _, hh, hu⟩ := h.has_under
  exact hx ▸ (IS.ceil_any _ A c _ k w hh hu)
theorem wat (h : IS.Own w P P v (wl 4)) (k : Int) (x : Value) (hx : IS.atV (wl 4) k = x) : Calls Try.prog 55 #[.pointer (some ⟨P, 0, none⟩), .int .i64 k] w (Told w x) := by
  obtain ⟨A, c, rfl, hh, hu⟩ := h.has_under
  exact hx ▸ (IS.at_any P A c _ k w hh ((cell_of_row w P 0 _ _ (0, 0) h.blk).trans rfl) ((cell_of_row w P 1 _ _ (0, 0) h.blk).trans rfl))
def wl5 : List (Int × ByteArray) := [(5, ⟨#[100]⟩), (9, ⟨#[99]⟩)]
theorem wmin (h : IS.Own w P P v wl5) (x : Value) (hx : IS.ans wl5.head? = x) : Calls Try.prog 59 #[.pointer (some ⟨P, 0, none⟩)] w (Told w x) := by
  obtain ⟨A, c, _, hh, hu⟩ := h.has_under
  exact hx ▸ (IS.min_any _ A c _ w hh hu)
theorem wrank (h : IS.Own w P P v wl5) (k : Int) (r : Nat) (hx : rkB IS.lt (keysOf wl5) k = r) : Calls Try.prog 60 #[.pointer (some ⟨P, 0, none⟩), .int .i64 k] w (Told w (.int .i64 r)) := by
  obtain ⟨A, c, _, hh, hu⟩ := h.has_under
  exact hx ▸ (IS.rank_any _ A c _ k w hh)
theorem wlen (h : IS.Own w P P v wl5) : Calls Try.prog 61 #[.pointer (some ⟨P, 0, none⟩)] w fun e w' => e = .returned (.int .i64 2) ∧ w = w' := by
  obtain ⟨A, c, _, hh, hu⟩ := h.has_under
  exact IS.len_any _ A c _ w hh
theorem wdel (h : IS.Own w P P v (wl 4)) : Calls Try.prog 58 #[.pointer (some ⟨P, 0, none⟩), .int .i64 2] w fun e w' => e = .returned (.tuple #[.string ⟨#[98]⟩, .bool true]) ∧ Hid ((∃ v', IS.Own w' P P v' wl5) ∧ But (fun b => b = P ∨ v.ownBlock = some b) w w') := by
  refine (IS.del_any P P v (wl 4) 2 w h).mono ?_
  rintro e w' ⟨v', he, hO, hC⟩
  exact ⟨he, ⟨v', hO⟩, hC.but⟩
end

theorem weq (g1 c1 g2 : Nat) (w : World) (h1 : w.ownsRow 0 3 1 (.slice (some ⟨g1, 0, none⟩) 2 c1) 2 [.int .i64 5, .int .i64 9]) (h2 : w.heap[g2]? = some (.cells #[.int .i64 5, .int .i64 9] 3 (0, 0))) :
    Calls Try.prog 35 #[.slice (some ⟨g1, 0, none⟩) 2 c1, .slice (some ⟨g2, 0, none⟩) 2 2] w fun e w' => e = .returned (.bool true) ∧ Below w.heap.size w w' := by
  have hc1 := h1.cells (g := g1) rfl
  have hc2 := fun i => cell_of_row w g2 i _ _ (0, 0) h2
  refine (Try.slices_Equal_int g1 0 2 c1 g2 0 2 2 [5, 9] [5, 9] w (by decide) (by decide) (by decide) (by decide) (fun j hj => ?_) (fun j hj => ?_)).mono ?_
  · have hj' : j < 2 := hj
    have h := hc1 j _ (show [Value.int .i64 5, .int .i64 9][j]? = some (.int .i64 (([5, 9] : List Int).getD j 0)) from by rcases j with _ | _ | j <;> first | rfl | omega)
    rw [IS.add_plain] at h
    exact h
  · have hj' : j < 2 := hj
    rw [Nat.zero_add, hc2 j]
    rcases j with _ | _ | j <;> first | rfl | omega
  · rintro e w' ⟨rfl, q, rfl⟩
    exact ⟨rfl, ⟨rfl, rfl, rfl, Nat.le_refl _, fun _ _ => rfl⟩⟩
theorem infoInt : (Try.prog.info? 3).map (fun i => (i.zero, i.size, i.bytes)) = some (some (.int .i64 0), 1, 8) := by kernel_rfl
set_option maxRecDepth 1000000 in
set_option maxHeartbeats 8000000 in
theorem works_any (w : World) : Calls Try.prog 10 #[] w fun e w' => e = .returned (.bool true) ∧ Below w.heap.size w w' := by
  refine (callsIn_wide (n := 3)).1 ?_
  refine callsIn_of_wp_marks Try.func10 rfl trivial ?_ rfl
  simp only [Try.ntmps10, List.size_toArray, List.length_nil, Nat.reduceSub, Array.replicate_succ, Array.replicate_zero, List.push_toArray, List.append_toArray, List.nil_append, List.cons_append]
  have t1 : Fence.wide.fn 51 := trivial
  have t2 : Fence.wide.fn 52 := trivial
  have t3 : Fence.wide.fn 53 := trivial
  have t4 : Fence.wide.fn 54 := trivial
  have t5 : Fence.wide.fn 55 := trivial
  have t6 : Fence.wide.fn 57 := trivial
  have t7 : Fence.wide.fn 56 := trivial
  have t8 : Fence.wide.fn 58 := trivial
  have t9 : Fence.wide.fn 59 := trivial
  have t10 : Fence.wide.fn 60 := trivial
  have t11 : Fence.wide.fn 61 := trivial
  have t12 : Fence.wide.fn 35 := trivial
  gi_wp2_with (gi_at_call 51; refine (callsIn_wide.2 (IS.new_any _)).mono ?_; rintro e w1 ⟨rfl, hO, hB⟩)
  have hRow : Rowed (w1.alloc (.cells wrow 105)) w1.heap.size := heap_alloc_new w1 _
  have hb1 : w1.heap.size ≠ w.heap.size := by have := IS.lt_of_heap hO.blk; omega
  have hO1 := hO.below ((Below.refl _ w1).alloc (Nat.le_refl _) (.cells wrow 105))
  have hB1 := hB.alloc hB.size (.cells wrow 105)
  obtain ⟨b, hb⟩ : ∃ b, b = w1.heap.size := ⟨_, rfl⟩
  have gRow := Lib.hid hRow
  have gO := Lib.hid hO1
  have gB := Lib.hid hB1
  have gb1 := Lib.hid hb1
  clear hRow hO1 hB1 hb1 hO hB
  gi_loopw [39] (fun i wr => ∃ k : Nat, k ≤ 4 ∧ i = .int .i64 k ∧ Hid ((∃ v, IS.Own wr w.heap.size w.heap.size v (wl k)) ∧ Rowed wr w1.heap.size ∧ Below w.heap.size w wr))
    (fun i _ => 4 - (intOf i).toNat)
  case atStart => exact ⟨0, by omega, rfl, ⟨⟨_, gO.out⟩, gRow.out, gB.out⟩⟩
  case round =>
    obtain ⟨k, hk, rfl, gI⟩ := hrel
    by_cases hlt : k < 4
    · obtain ⟨c0, c1, c2, c3⟩ := gI.out.2.1.cells hlt
      obtain ⟨v, hv⟩ := gI.out.1
      have gv := Lib.hid hv
      clear hv
      gi_wp2_with (gi_at_call 52; refine (callsIn_wide.2 (wset k hlt w.heap.size w1.heap.size v wr gv.out gI.out.2.1 gb1.out)).mono ?_; rintro e w2 ⟨rfl, gN, q2, q3⟩)
      exact ⟨⟨k + 1, by omega, by simp, ⟨gN.out.1, gN.out.2.1, gI.out.2.2.trans gN.out.2.2⟩⟩, by simp [intOf]; omega⟩
    · obtain rfl : k = 4 := by omega
      obtain ⟨v, hv⟩ := gI.out.1
      have g0 := Lib.hid hv
      have b0 := Lib.hid gI.out.2.2
      clear hv gI gRow gO gB hlt hk
      gi_wp2_with fail
      refine (callsIn_wide.2 (wfloor g0.out 4 (.tuple #[.int .i64 2, .string ⟨#[98]⟩, .bool true]) rfl)).mono ?_
      rintro e w3 ⟨rfl, h3⟩
      have g3 := Lib.hid (g0.out.below h3)
      have b3 := Lib.hid (b0.out.trans (h3.mono b0.out.size))
      clear h3 g0 b0
      gi_wp2_with fail
      refine (callsIn_wide.2 (wceil g3.out 4 (.tuple #[.int .i64 5, .string ⟨#[100]⟩, .bool true]) rfl)).mono ?_
      rintro e w4 ⟨rfl, h4⟩
      have g4 := Lib.hid (g3.out.below h4)
      have b4 := Lib.hid (b3.out.trans (h4.mono b3.out.size))
      clear h4 g3 b3
      gi_wp2_with fail
      refine (callsIn_wide.2 (wfloor g4.out 1 (.tuple #[.int .i64 0, .string ⟨#[]⟩, .bool false]) rfl)).mono ?_
      rintro e w5 ⟨rfl, h5⟩
      have g5 := Lib.hid (g4.out.below h5)
      have b5 := Lib.hid (b4.out.trans (h5.mono b4.out.size))
      clear h5 g4 b4
      gi_wp2_with fail
      refine (callsIn_wide.2 (wceil g5.out 10 (.tuple #[.int .i64 0, .string ⟨#[]⟩, .bool false]) rfl)).mono ?_
      rintro e w6 ⟨rfl, h6⟩
      have g6 := Lib.hid (g5.out.below h6)
      have b6 := Lib.hid (b5.out.trans (h6.mono b5.out.size))
      clear h6 g5 b5
      gi_wp2_with fail
      refine (callsIn_wide.2 (wat g6.out 2 (.tuple #[.int .i64 9, .string ⟨#[99]⟩, .int .i64 0]) rfl)).mono ?_
      rintro e w7 ⟨rfl, h7⟩
      have g7 := Lib.hid (g6.out.below h7)
      have b7 := Lib.hid (b6.out.trans (h7.mono b6.out.size))
      clear h7 g6 b6
      gi_wp2_with fail
      refine (callsIn_wide.2 (wat g7.out 3 (.tuple #[.int .i64 0, .string ⟨#[]⟩, .int .i64 3]) rfl)).mono ?_
      rintro e w8 ⟨rfl, h8⟩
      have g8 := Lib.hid (g7.out.below h8)
      have b8 := Lib.hid (b7.out.trans (h8.mono b7.out.size))
      clear h8 g7 b7
      gi_wp2_with (first
        | (gi_at_call 57; refine (callsIn_wide.2 (IS.from_any _ _ _)).mono ?_; rintro e w9 ⟨rfl, rfl⟩)
        | (gi_at_call 56; refine (callsIn_wide.2 (IS.two_any _ _ _)).mono ?_; rintro e w9 ⟨rfl, rfl⟩))
      obtain ⟨i0, hi, hz0, hz1, hz2⟩ := info_parts infoInt
      obtain ⟨A, c, hvA, hHas, hU⟩ := g8.out.has_under
      have bO := Boxed.new w8 51 (.slice none 0 0)
      have bM := Boxed.new (w8.alloc (.cells #[.slice none 0 0] 51)) 103 (.pointer (some ⟨w.heap.size, 0, none⟩))
      have bK := Boxed.new ((w8.alloc (.cells #[.slice none 0 0] 51)).alloc (.cells #[.pointer (some ⟨w.heap.size, 0, none⟩)] 103)) 3 (.int .i64 3)
      simp only [World.size_alloc] at bM bK
      have hB9 : Below w8.heap.size w8 (((w8.alloc (.cells #[.slice none 0 0] 51)).alloc (.cells #[.pointer (some ⟨w.heap.size, 0, none⟩)] 103)).alloc (.cells #[.int .i64 3] 3)) := (((Below.refl _ w8).alloc (Nat.le_refl _) _).alloc (by simp) _).alloc (by simp; omega) _
      have hseq := IS.from_stops 2 w8.heap.size (w8.heap.size + 1) (w8.heap.size + 1 + 1) (some ⟨w.heap.size, 0, none⟩) A c (wl 4) 3 _ (bM.alloc _).cell bK.cell (hHas.below hB9) hU (by simp; omega)
      refine wpIn_rangeFunc_ownG rfl (by omega) (gf := 128) (lb := #[.pointer (some ⟨w8.heap.size + 1, 0, none⟩), .pointer (some ⟨w8.heap.size + 1 + 1, 0, none⟩)]) rfl trivial (enters_of Try.func128 (by kernel_rfl) rfl)
        hseq belowK_t (belowK_b (by simp; omega)) (Below.refl _ _) (fun _ => rfl)
        (fun (pre : List (IS.K × IS.V)) W => (∃ v', Boxed W w8.heap.size 51 v' ∧ W.ownsRow w8.heap.size 3 1 v' pre.length (pre.map fun x => Value.int .i64 x.1) ∧ True) ∧ Below w8.heap.size w8 W)
        (fun _ _ _ => False)
        (OwnFrom.and (Own.from (holdsRow_own w8.heap.size w8.heap.size 51 3 1 (fun pre : List (IS.K × IS.V) => pre.length) (fun pre : List (IS.K × IS.V) => pre.map fun x => Value.int .i64 x.1) (fun _ _ => True)) _) (ownFrom_below (Nat.le_refl _) (by simp; omega)))
        (fun _ _ _ _ _ hs _ _ => hs)
        ⟨⟨_, (bO.alloc _).alloc _, World.ownsRow_nil _ _ _ _, trivial⟩, hB9⟩
        ?a1 ?assign ?body ?done ?stop
      case assign =>
        intro l x W K hK
        unfold IS.encs
        gi_wp2
        exact hK
      case body =>
        rintro l pre x W ⟨⟨v', hv, hrow, _⟩, hB⟩ hlt
        have hc := hv.cell
        have hlt2 : pre.length < 2 := hlt
        clear hlt
        gi_wp2_with (gi_at_builtin; refine wpListIn_append_own _ rfl _ _ 51 rfl w8.heap.size 3 i0 (.int .i64 0) 1 8 Try.underlying51 hi hz0 hz1 hz2 rfl (by decide) _ _ _ rfl (hrow.alloc _) ⟨W.heap.size, 0, none⟩ 1 1 [.int .i64 x.1] rfl rfl (cell_one_new _ _ _) (by simp [Value.oneCell']) (by unfold maxLen; omega) (by omega) (by have := hB.size; simp; omega) ?_; intro v'' w10 hown' hgrow _; obtain ⟨g', cap', rfl⟩ := ownsRow_succ hown'; obtain ⟨hv1, hv2, hr2, hk2, hb2⟩ := hv.appended (by decide) hrow hB.size (Nat.le_refl _) hown' hgrow; have hc1 := hv1.cell; have hf1 := hv1.frozen)
        exact ⟨hk2.from _, hb2, ⟨_, hv2, by simpa using hr2, trivial⟩, hB.trans hb2⟩
      case done =>
        rintro D ys W hD rfl ⟨⟨v', hv, hrow, _⟩, hB⟩ hK
        have hrow2 : W.ownsRow w8.heap.size 3 1 v' 2 [.int .i64 5, .int .i64 9] := hrow
        obtain ⟨g', cap', rfl⟩ := ownsRow_succ hrow2
        have hOW := g8.out.below hB
        have hDlt : D < W.heap.size := (Array.getElem?_eq_some_iff.1 hK).1
        have hD8 : w8.heap.size ≤ D := by simp at hD; omega
        have hPw : w.heap.size < w8.heap.size := IS.lt_of_heap g8.out.blk
        have hown : ∀ x, v.ownBlock = some x → w.heap.size ≤ x ∧ x < w8.heap.size := fun x hx => g8.out.own.lt x hx
        have gOW := Lib.hid hOW
        have gv := Lib.hid hv
        have grow := Lib.hid hrow2
        have gK := Lib.hid hK
        have bW := Lib.hid (b8.out.trans (hB.mono b8.out.size))
        have gown := Lib.hid hown
        clear hOW hv hrow hrow2 hK hseq hHas hU hvA hB9 bO bM bK hown
        gi_wp2_with fail
        refine (callsIn_wide.2 (wdel gOW.out)).mono ?_
        rintro e w10 ⟨rfl, gD⟩
        have hge : ∀ b, w8.heap.size ≤ b → b < W.heap.size → w10.heap[b]? = W.heap[b]? := fun b h1 h2 => gD.out.2.block b h2 (fun h => h.elim (fun h => by omega) (fun h => by have := (gown.out b h).2; omega))
        have gK1 := Lib.hid ((hge D hD8 hDlt).trans gK.out)
        have gv1 : Hid (Boxed w10 w8.heap.size 51 (.slice (some ⟨g', 0, none⟩) 2 cap')) := (hge _ (Nat.le_refl _) gv.out.lt).trans gv.out
        have gr1 := Lib.hid (owns_of_block grow.out (w' := w10) fun x hx => hge x (grow.out.lt x hx).1 (grow.out.lt x hx).2)
        have bD : Hid (Below w.heap.size w w10) := ⟨gD.out.2.os.trans bW.out.os, gD.out.2.tape.trans bW.out.tape, gD.out.2.output.trans bW.out.output, Nat.le_trans bW.out.size gD.out.2.size, fun i hi => (gD.out.2.block i (Nat.lt_of_lt_of_le hi bW.out.size) (fun h => h.elim (fun h => by omega) (fun h => by have := (gown.out i h).1; omega))).trans (bW.out.block i hi)⟩
        obtain ⟨v10, hO10⟩ := gD.out.1
        have gO10 := Lib.hid hO10
        clear hge hO10 gD gOW gv grow gK bW gown
        gi_wp2_with fail
        refine (callsIn_wide.2 (wmin gO10.out (.tuple #[.int .i64 5, .string ⟨#[100]⟩, .bool true]) rfl)).mono ?_
        rintro e w11 ⟨rfl, h11⟩
        have g11 := Lib.hid (gO10.out.below h11)
        have b11 := Lib.hid (bD.out.trans (h11.mono bD.out.size))
        have gv2 := Lib.hid (show Boxed w11 w8.heap.size 51 (.slice (some ⟨g', 0, none⟩) 2 cap') from (h11.block _ gv1.out.lt).trans gv1.out)
        have gr2 := Lib.hid (IS.owns_below gr1.out h11)
        have gK2 := Lib.hid ((h11.block D (Array.getElem?_eq_some_iff.1 gK1.out).1).trans gK1.out)
        clear h11 gO10 bD gv1 gr1 gK1
        gi_wp2_with (first
          | (gi_at_call 60; refine (callsIn_wide.2 (wrank g11.out 100 2 rfl)).mono ?_; rintro e w12 ⟨rfl, h12⟩
             have g12 := Lib.hid (g11.out.below h12)
             have b12 := Lib.hid (b11.out.trans (h12.mono b11.out.size))
             have gv3 := Lib.hid (show Boxed w12 w8.heap.size 51 (.slice (some ⟨g', 0, none⟩) 2 cap') from (h12.block _ gv2.out.lt).trans gv2.out)
             have gr3 := Lib.hid (IS.owns_below gr2.out h12)
             have gK3 := Lib.hid ((h12.block D (Array.getElem?_eq_some_iff.1 gK2.out).1).trans gK2.out)
             have q12 := gv3.out.cell
             clear h12)
          | (gi_at_call 35; refine (callsIn_wide.2 (weq g' cap' w12.heap.size _ (by have h := IS.owns_below gr3.out ((Below.refl _ w12).alloc (Nat.le_refl _) (.cells #[.int .i64 5, .int .i64 9] 3)); exact ⟨h.1, h.2.imp id (fun ⟨g, cap, cur, e1, _, e2⟩ => ⟨g, cap, cur, e1, Nat.zero_le _, e2⟩)⟩) (heap_alloc_new w12 _))).mono ?_; rintro e w13 ⟨rfl, h13⟩
             have h13' : Below w12.heap.size w12 w13 := ((Below.refl _ w12).alloc (Nat.le_refl _) _).trans (h13.mono (by simp))
             have g13 := Lib.hid (g12.out.below h13')
             have b13 := Lib.hid (b12.out.trans (h13'.mono b12.out.size))
             have gK4 := Lib.hid ((h13'.block D (Array.getElem?_eq_some_iff.1 gK3.out).1).trans gK3.out)
             clear h13 h13')
          | (gi_at_call 61; refine (callsIn_wide.2 (wlen g13.out)).mono ?_; rintro e w14 ⟨rfl, rfl⟩))
        refine ⟨by simp, .inl ⟨_, _, rfl, run_takeDeferred gK4.out, ?_⟩⟩
        exact ⟨_, results_tmp rfl _ _ _, rfl, b13.out.trans (belowK_b (w := w) (Nat.le_refl _) w13 D _ _ (by omega) gK4.out rfl rfl)⟩
      case stop =>
        rintro D c pre W _ _ h _
        exact h.elim
end Go.Proofs.Ytmjdkmdpegcalaa
