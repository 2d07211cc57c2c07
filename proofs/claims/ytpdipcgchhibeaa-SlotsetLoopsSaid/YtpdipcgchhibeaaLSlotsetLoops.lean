/- SlotsetLoops: the walk. -/
import Derived.Test.YtpdipcgchhibeaaUse
import Derived.Sort.QuietTacIn
namespace Go.Proofs.Ytpdipcgchhibeaa
open Go.RowKit Go.Shelf
attribute [local go_sem] Oper.semAt_some
theorem put_beside {w : World} {a b : Nat} {o o' : Obj} (h : w.heap[b]? = some o) (hne : a ≠ b) : (w.putObj a o').heap[b]? = some o := (World.putObj_heap_other hne.symm).trans h
theorem leaves_two {F : Fence} {n : Nat} {P : Program} {fn : Func} {tmps : Array Value} {R : Ending → World → Prop} {w w12 : World} {B D2 D1 : Nat} (h2 : w12.heap[D2]? = some (.deferred (some []))) (h1 : w12.heap[D1]? = some (.deferred (some [])))
    (d12 : D1 < D2) (hb : B ≤ D1) (hw : w.heap.size ≤ B) (hB : Below w.heap.size w w12) (hend : ∀ WF, Below w.heap.size w WF → (∀ k, k < B → WF.heap[k]? = w12.heap[k]?) → LeavesInM F n P fn tmps R [] .returning WF) :
    LeavesInM F n P fn tmps R [{ target := .collected D2, args := #[] }, { target := .collected D1, args := #[] }] .returning w12 := by
  have b2 : Below w.heap.size w12 (w12.putObj D2 (.deferred none)) := (but_put (F := fun b => b = D2) w12 D2 _ rfl).below hB.size (fun b hb => by omega)
  have h1' := put_beside (o' := .deferred none) h1 (show D2 ≠ D1 by omega)
  have b1 : Below w.heap.size (w12.putObj D2 (.deferred none)) ((w12.putObj D2 (.deferred none)).putObj D1 (.deferred none)) := (but_put (F := fun b => b = D1) _ D1 _ rfl).below (Nat.le_trans hB.size b2.size) (fun b hb => by omega)
  refine ⟨by simp, .inl ⟨_, _, rfl, run_takeDeferred h2, ?_⟩⟩
  refine ⟨by simp, .inl ⟨_, _, rfl, run_takeDeferred h1', ?_⟩⟩
  exact hend _ ((hB.trans b2).trans b1) fun k hk => (World.putObj_heap_other (by omega)).trans (World.putObj_heap_other (by omega))
theorem exit_on {F : Fence} {n : Nat} {P : Program} {id : Nat} {Q : Exit → Act → World → Prop} {a : Act} {w : World} (h : Exit.inBlock id Q .normal a w) : (Code.exit id).wpIn F n P (Exit.inBlock id Q) a w := by
  refine wpIn_exit ?_
  simpa [Exit.inBlock] using h
/-- What follows a loop that may end in two ways, said once. -/
theorem two_ways {F : Fence} {n : Nat} {P : Program} {c : Code} {Q : Exit → Act → World → Prop} {a : Act} {w : World} (R : Nat → World → Prop)
    (hR : ∀ D W, R D W → Q .normal { a with defers := { target := .collected D, args := #[] } :: a.defers } W)
    (hL : (∀ D W, R D W → Q .normal { a with defers := { target := .collected D, args := #[] } :: a.defers } W) → c.wpIn F n P Q a w) : c.wpIn F n P Q a w := hL hR
/-- Between two rounds: the counter, what has not turned. -/
def Cnt (st zx : Nat) (X : World) (pre : List Nat) (F : Nat → Prop) (U : World) : Prop := F = (fun b => b = zx) ∧ Boxed U zx 3 (.int .i64 (pre.length : Nat)) ∧ But (fun b => b = zx) X U ∧ pre.length ≤ st
def Brk (st zx : Nat) (X : World) (cc : Code) (pre : List Nat) (F : Nat → Prop) (U : World) : Prop := cc = .exit 0 ∧ F = (fun b => b = zx) ∧ Boxed U zx 3 (.int .i64 (st : Nat)) ∧ But (fun b => b = zx) X U ∧ pre.length = st + 1
theorem cnt_steady {st zx : Nat} {X : World} : Steady X.heap.size (Cnt st zx X) := fun pre F A C hs hc => by
  obtain ⟨rfl, h2, h3, h4⟩ := hs
  exact ⟨rfl, (hc.block zx (lt_of_heap h2) (fun h => h.2 rfl)).trans h2, but_steady (β := Unit) (Nat.le_refl _) () (fun b => b = zx) A C h3 hc, h4⟩
theorem brk_steady {st zx : Nat} {X : World} (cc : Code) : Steady X.heap.size (Brk st zx X cc) := fun pre F A C hs hc => by
  obtain ⟨h0, rfl, h2, h3, h4⟩ := hs
  exact ⟨h0, rfl, (hc.block zx (lt_of_heap h2) (fun h => h.2 rfl)).trans h2, but_steady (β := Unit) (Nat.le_refl _) () (fun b => b = zx) A C h3 hc, h4⟩
theorem cnt_next {zx : Nat} {X U : World} {pre : List Nat} (x : Nat) (h2 : Boxed U zx 3 (.int .i64 (pre.length : Nat))) (h3 : But (fun b => b = zx) X U) :
    Turn (fun b => b = zx) (fun b => b = zx) U (U.setCell ⟨zx, 0, none⟩ (.int .i64 ((pre.length : Int) + 1))) ∧ Boxed (U.setCell ⟨zx, 0, none⟩ (.int .i64 ((pre.length : Int) + 1))) zx 3 (.int .i64 ((pre ++ [x]).length : Nat)) ∧ But (fun b => b = zx) X (U.setCell ⟨zx, 0, none⟩ (.int .i64 ((pre.length : Int) + 1))) := by
  refine ⟨⟨(But.refl (fun b => b = zx) U).setCell (p := ⟨zx, 0, none⟩) (.inl rfl) _, fun _ h => .inl h⟩, ?_, h3.setCell (p := ⟨zx, 0, none⟩) (.inl rfl) _⟩
  have := h2.set (.int .i64 ((pre.length : Int) + 1))
  simpa using this
theorem wrap_u8 {n : Nat} (h : n < 256) : IntKind.i64.wrap (n : Int) = (n : Nat) := IntWalk.i64_in _ (by omega)
theorem min_is {st L N k : Nat} (h : N = min st L) (hk : L = k) : min (st : Int) (k : Int) = (N : Nat) := by omega
set_option maxRecDepth 1000000 in
set_option maxHeartbeats 16000000 in
theorem slotsetLoops_walk (a0 : Int) (a1 : Option Addr) (len1 cap1 : Nat) (z1 : List Int) (a2 : Int) (w : World) (w0 : (Lit.int .u8 a0).wf = true) (w1 : IsRow .u8 w a1 len1 cap1 z1) (w2 : (Lit.int .u8 a2).wf = true) :
    Calls Try.prog 9 #[.int .u8 a0, .slice a1 len1 cap1, .int .u8 a2] w fun e w' => e = .returned (.bool true) ∧ Below w.heap.size w w' := by
  refine (callsIn_wide (n := 6)).1 ?_
  refine callsIn_of_wp_marks Try.func9 rfl trivial ?_ rfl
  simp only [Try.ntmps9, List.size_toArray, List.length_cons, List.length_nil, Nat.reduceAdd, Nat.reduceSub, Array.replicate_succ, Array.replicate_zero, List.push_toArray, List.append_toArray, List.nil_append, List.cons_append]
  have t1 : Fence.wide.fn 37 := trivial
  have t2 : Fence.wide.fn 12 := trivial
  have t3 : Fence.wide.fn 39 := trivial
  have t4 : Fence.wide.fn 38 := trivial
  have t5 : Fence.wide.fn 33 := trivial
  obtain ⟨s, rfl, hs⟩ := nat_of_u8 w0
  obtain ⟨st, rfl, hst⟩ := nat_of_u8 w2
  have hlen := w1.len
  have gl := Lib.hid w1.bn
  obtain ⟨ns, hns⟩ : ∃ ns, ns = nums len1 z1 := ⟨_, rfl⟩
  rw [← hns] at gl
  clear w0 w1 w2 hns
  obtain ⟨z, hz⟩ : ∃ z, z = w.heap.size := ⟨_, rfl⟩
  obtain ⟨W0, hW0⟩ : ∃ W0, W0 = (w.alloc (.cells #[.int .u8 (st : Nat)] 5)).alloc (.cells #[.bool false] 4) := ⟨_, rfl⟩
  have gz0 := Lib.hid (show W0.heap.size = z + 2 by rw [hW0, hz]; simp)
  have gB0 := Lib.hid (show Below w.heap.size w W0 by rw [hW0]; exact ((Below.refl _ w).alloc (Nat.le_refl _) _).alloc (by simp) _)
  have gQ0 := Lib.hid (show Boxed W0 z 5 (.int .u8 (st : Nat)) by rw [hW0, hz]; exact (Boxed.new w 5 _).alloc _)
  have gR0 := Lib.hid (show Boxed W0 (z + 1) 4 (.bool false) by
    rw [hW0, hz]
    have h := Boxed.new (w.alloc (.cells #[.int .u8 (st : Nat)] 5)) 4 (.bool false)
    rwa [World.size_alloc] at h)
  by_cases h100 : (100 : Int) < (len1 : Int)
  · gi_wp2_with fail
    rw [← hW0, ← hz]
    refine (callsIn_wide.2 (works_any _)).mono ?_
    rintro e w2 ⟨rfl, hB2⟩
    have hR : Boxed w2 (z + 1) 4 (.bool false) := (hB2.block _ (by rw [gz0.out]; omega)).trans gR0.out
    have r1 := hR.cell
    have r2 := hR.frozen
    have gR := Lib.hid (hR.set (.bool true))
    have gB := Lib.hid (gB0.out.trans (hB2.mono gB0.out.size))
    have gz := Lib.hid hz
    clear hR hB2 hW0 hz
    gi_wp2_with fail
    have gF := gR.out.cell
    refine ⟨.bool true, ?_, rfl, gB.out.setCell (by have := gz.out; show w.heap.size ≤ z + 1; omega) _⟩
    simp [results, Try.results9, go_sem, gF]
  have h100' : len1 ≤ 100 := by omega
  have gs := Lib.hid hs
  have gst := Lib.hid hst
  clear hs hst
  gi_wp2_with fail
  rw [← hW0, ← hz]
  have gz := Lib.hid hz
  clear hW0 hz
  refine (callsIn_wide.2 (filled_any s a1 len1 cap1 ns W0 (gl.out.below gB0.out) (by omega) gs.out)).mono ?_
  rintro e W3 ⟨P, R, rfl, gF⟩
  obtain ⟨n, hn⟩ : ∃ n, n = 1 + s % 34 := ⟨_, rfl⟩
  obtain ⟨m, hm⟩ : ∃ m, m = fillN (1 + s % 34) ns := ⟨_, rfl⟩
  rw [← hm, ← hn] at gF
  rw [← hn]
  clear hn hm
  have hn34 : n ≤ 34 := gF.out.set.le
  have g3 := Lib.hid gF.out.hold
  have r3 := Lib.hid gF.out.rows
  have glt := Lib.hid gF.out.set.lt
  clear gF gl gs h100 h100' hlen
  gi_wp2_with fail
  refine (callsIn_wide.2 (all_any _ _)).mono ?_
  rintro e w' ⟨rfl, rfl⟩
  gi_wp2_with fail
  obtain ⟨y, hy⟩ : ∃ y, y = W3.heap.size := ⟨_, rfl⟩
  obtain ⟨V, hV⟩ : ∃ V, V = (W3.alloc (.cells #[.slice (some ⟨R, 0, none⟩) n n] 53)).alloc (.cells #[.pointer (some ⟨P, 0, none⟩)] 27) := ⟨_, rfl⟩
  rw [← hV, ← hy]
  have h3V : Below W3.heap.size W3 V := by rw [hV]; exact ((Below.refl _ W3).alloc (Nat.le_refl _) _).alloc (by simp) _
  have gVy := Lib.hid (show V.heap.size = y + 2 by rw [hV, hy]; simp)
  have gbI := Lib.hid (show Boxed V y 53 (.slice (some ⟨R, 0, none⟩) n n) by rw [hV, hy]; exact (Boxed.new W3 53 _).alloc _)
  have gbP := Lib.hid (show Boxed V (y + 1) 27 (.pointer (some ⟨P, 0, none⟩)) by
    rw [hV, hy]
    have h := Boxed.new (W3.alloc (.cells #[.slice (some ⟨R, 0, none⟩) n n] 53)) 27 (.pointer (some ⟨P, 0, none⟩))
    rwa [World.size_alloc] at h)
  have hzy : z + 2 ≤ y := by have := g3.out.low.size; have := gz0.out; omega
  have h0V : Below W0.heap.size W0 V := g3.out.low.trans (h3V.mono g3.out.low.size)
  have gbR := Lib.hid (show Boxed V (z + 1) 4 (.bool false) from (h0V.block _ (by rw [gz0.out]; omega)).trans gR0.out)
  have gbQ := Lib.hid (show Boxed V z 5 (.int .u8 (st : Nat)) from (h0V.block _ (by rw [gz0.out]; omega)).trans gQ0.out)
  have gHV := Lib.hid (g3.out.below h3V)
  have gRV := Lib.hid (r3.out.below h3V)
  have gLow := Lib.hid (gB0.out.trans (h0V.mono gB0.out.size))
  clear hV hy h3V h0V g3 r3 gR0 gQ0
  obtain ⟨L, hL⟩ : ∃ L, L = (sl m).length := ⟨_, rfl⟩
  have gL := Lib.hid hL
  have gL34 := Lib.hid (show L ≤ 34 by rw [hL]; exact Nat.le_trans (sl_len glt.out (by omega)) hn34)
  clear hL
  obtain ⟨N, hN⟩ : ∃ N, N = min st L := ⟨_, rfl⟩
  have gN := Lib.hid hN
  clear hN
  obtain ⟨zn1, hz1⟩ : ∃ z, z = V.heap.size := ⟨_, rfl⟩
  obtain ⟨X1, hX1⟩ : ∃ X', X' = V.alloc (.cells #[.int .i64 0] 3) := ⟨_, rfl⟩
  have gXs1 := Lib.hid (show X1.heap.size = zn1 + 1 by rw [hX1, hz1]; simp)
  have hVX1 : Below V.heap.size V X1 := by rw [hX1]; exact alloc_below _ _
  have hbn1 : Boxed X1 zn1 3 (.int .i64 ((([] : List Nat).length : Nat) : Int)) := by rw [hX1, hz1]; exact Boxed.new V 3 _
  have gVz1 := Lib.hid (show V.heap.size = zn1 from hz1.symm)
  rw [← hX1, show y + 1 + 1 = zn1 by rw [hz1, gVy.out]]
  have hseq1 := all_foot 5 (y + 1) (some ⟨P, 0, none⟩) V.heap.size m X1 (Boxed.cell ((hVX1.block _ (lt_of_heap gbP.out)).trans gbP.out)) (gHV.out.shows.gives.below hVX1) hVX1.size gHV.out.shows.lt
  have gVX1 := Lib.hid hVX1
  clear hz1 hX1 hVX1
  refine two_ways (fun D U => Boxed U zn1 3 (.int .i64 (N : Nat)) ∧ But (fun b => b = zn1) X1 U ∧ X1.heap.size ≤ D ∧ U.heap[D]? = some (.deferred (some []))) ?rest1 (fun hGo => ?loop1)
  case loop1 =>
    refine range_foot (by omega) (gf := 49) (lb := #[.pointer (some ⟨y + 1, 0, none⟩)]) rfl (enters_of Try.func49 (by kernel_rfl) rfl) hseq1 (Below.refl _ _) (by have := gXs1.out; have := gVz1.out; omega) (fun _ _ => rfl)
      (Cnt st zn1 X1) (Brk st zn1 X1) cnt_steady brk_steady (fun b => b = zn1) (fun b hb => ⟨by have := gVz1.out; omega, by have := gXs1.out; omega⟩) ⟨rfl, hbn1, But.refl _ _, Nat.zero_le _⟩
      ?a1 ?assigned1 ?round1 ?done1 ?stop1
    case assigned1 =>
      intro lr pre x U K hK
      unfold encN
      gi_wp2
      exact hK
    case done1 =>
      rintro D F U hD _ _ ⟨_, h2, h3, h4⟩ hK
      refine hGo D U ⟨?_, h3, hD, hK⟩
      have e : (sl m).length = N := by have := gN.out; have := gL.out; omega
      rwa [e] at h2
    case stop1 =>
      rintro D cc pre F U hD _ _ hp ⟨rfl, _, h2, h3, h4⟩ hK
      refine exit_on (hGo D U ⟨?_, h3, hD, hK⟩)
      have e : st = N := by have := hp.length_le; have := gN.out; have := gL.out; omega
      rwa [e] at h2
    case round1 =>
      rintro lr pre x F U ⟨rfl, h2, h3, h4⟩ _ hp _
      have hVU : Below V.heap.size V U := gVX1.out.trans (h3.below gVX1.out.size (fun b hb => by have := gVz1.out; omega))
      have k18 := h2.cell
      have f18 := h2.frozen
      have kst := Boxed.cell ((hVU.block _ (lt_of_heap gbQ.out)).trans gbQ.out)
      have gnx := Lib.hid (cnt_next x h2 h3)
      have gb := Lib.hid (And.intro h2 h3)
      have h14 : pre.length ≤ 1000 := by have := gst.out; omega
      have hst2 := gst.out
      have gh4 := Lib.hid h4
      clear hseq1 hGo h2 h3 hp hVU hbn1 h4
      by_cases hlast : pre.length = st
      · have d3 : ((pre.length : Int) == (st : Int)) = true := by simp; omega
        have gl := Lib.hid hlast
        clear hlast
        gi_wp2_with fail
        refine ⟨_, Turn.refl _ _, rfl, rfl, by have h := gb.out.1; rwa [gl.out] at h, gb.out.2, by rw [List.length_append, gl.out]; rfl⟩
      · have d3 : ((pre.length : Int) == (st : Int)) = false := by simp; omega
        have gl := Lib.hid hlast
        clear hlast
        gi_wp2_with fail
        exact ⟨_, gnx.out.1, rfl, gnx.out.2.1, gnx.out.2.2, by rw [List.length_append]; have := gl.out; have := gh4.out; simp; omega⟩
  case rest1 =>
    rintro D1 U1 ⟨h2, h3, hD1, hK1⟩
    have gVU1 := Lib.hid (show Below V.heap.size V U1 from gVX1.out.trans (h3.below gVX1.out.size (fun b hb => by have := gVz1.out; omega)))
    have gD1 := Lib.hid (show V.heap.size ≤ D1 from Nat.le_trans gVX1.out.size hD1)
    have gK1 := Lib.hid hK1
    have gb1 := Lib.hid h2
    clear h2 h3 hD1 hK1 hseq1 hbn1
    gi_wp2_with fail
    obtain ⟨zn2, hz2⟩ : ∃ z, z = U1.heap.size := ⟨_, rfl⟩
    obtain ⟨X2, hX2⟩ : ∃ X', X' = U1.alloc (.cells #[.int .i64 0] 3) := ⟨_, rfl⟩
    have gXs2 := Lib.hid (show X2.heap.size = zn2 + 1 by rw [hX2, hz2]; simp)
    have gXX2 := Lib.hid (show Below U1.heap.size U1 X2 by rw [hX2]; exact alloc_below _ _)
    have hVX2 : Below V.heap.size V X2 := gVU1.out.trans (gXX2.out.mono gVU1.out.size)
    have hbn2 : Boxed X2 zn2 3 (.int .i64 ((([] : List Nat).length : Nat) : Int)) := by rw [hX2, hz2]; exact Boxed.new U1 3 _
    have gVz2 := Lib.hid (show V.heap.size ≤ zn2 by rw [hz2]; exact gVU1.out.size)
    have gzU2 := Lib.hid hz2
    rw [← hX2, ← hz2]
    have hseq2 := all_foot 5 (y + 1) (some ⟨P, 0, none⟩) V.heap.size m X2 (Boxed.cell ((hVX2.block _ (lt_of_heap gbP.out)).trans gbP.out)) (gHV.out.shows.gives.below hVX2) hVX2.size gHV.out.shows.lt
    have gVX2 := Lib.hid hVX2
    clear hz2 hX2 hVX2
    refine range_foot (by omega) (gf := 49) (lb := #[.pointer (some ⟨y + 1, 0, none⟩)]) rfl (enters_of Try.func49 (by kernel_rfl) rfl) hseq2 (Below.refl _ _) (by have := gXs2.out; have := gVz2.out; omega) (fun _ _ => rfl)
      (Cnt 34 zn2 X2) (fun _ _ _ _ => False) cnt_steady (fun _ _ _ _ _ h _ => h) (fun b => b = zn2) (fun b hb => ⟨by have := gVz2.out; omega, by have := gXs2.out; omega⟩) ⟨rfl, hbn2, But.refl _ _, Nat.zero_le _⟩
      ?ab2 ?assigned2 ?round2 ?done2 ?stop2
    case assigned2 =>
      intro lr pre x U K hK
      unfold encN
      gi_wp2
      exact hK
    case stop2 =>
      rintro D cc pre F U _ _ _ _ h _
      exact h.elim
    case round2 =>
      rintro lr pre x F U ⟨rfl, h2, h3, h4⟩ _ hp _
      have hVU : Below V.heap.size V U := gVX2.out.trans (h3.below gVX2.out.size (fun b hb => by have := gVz2.out; omega))
      have hmem : x ∈ sl m := by
        obtain ⟨t, ht⟩ := hp
        rw [← ht]
        simp
      have hxn : x < n := sl_lt glt.out (by omega) hmem
      have hpl : (pre ++ [x]).length ≤ 34 := by
        have := hp.length_le
        have := gL34.out
        have := gL.out
        omega
      have k18 := h2.cell
      have f18 := h2.frozen
      have k8 := Boxed.cell ((hVU.block _ (lt_of_heap gbI.out)).trans gbI.out)
      have cx := (gRV.out.below hVU).at hxn
      rw [(mem_sl glt.out (by omega)).1 hmem] at cx
      have gnx := Lib.hid (cnt_next x h2 h3)
      have gpl := Lib.hid hpl
      have x0 : (0 : Int) ≤ (x : Int) := by omega
      have x1 : (x : Int) < (n : Int) := by omega
      have h14 : pre.length ≤ 1000 := by omega
      clear hseq2 h2 h3 hp hVU hbn2 h4 hmem hpl
      gi_wp2_with fail
      exact ⟨_, gnx.out.1, rfl, gnx.out.2.1, gnx.out.2.2, gpl.out⟩
    case done2 =>
      rintro D2 F U2 hD2 _ _ ⟨rfl, h2, h3, _⟩ hK2
      have gVU2 := Lib.hid (show Below V.heap.size V U2 from gVX2.out.trans (h3.below gVX2.out.size (fun b hb => by have := gVz2.out; omega)))
      have gK2 := Lib.hid hK2
      have gD12 := Lib.hid (show D1 < D2 from by have h := lt_of_heap gK1.out; have := gXX2.out.size; omega)
      have l1 := lt_of_heap gK1.out
      have l2 := lt_of_heap gb1.out
      have l3 := gXX2.out.size
      have l4 := gXs2.out
      have l5 := gzU2.out
      have gK12 := Lib.hid (show U2.heap[D1]? = some (.deferred (some [])) from (h3.block D1 (by omega) (by omega)).trans ((gXX2.out.block D1 l1).trans gK1.out))
      have bn1 : Boxed U2 zn1 3 (.int .i64 (N : Nat)) := (h3.block zn1 (by omega) (by omega)).trans ((gXX2.out.block zn1 l2).trans gb1.out)
      have bQ : Boxed U2 z 5 (.int .u8 (st : Nat)) := (gVU2.out.block _ (lt_of_heap gbQ.out)).trans gbQ.out
      have bI : Boxed U2 y 53 (.slice (some ⟨R, 0, none⟩) n n) := (gVU2.out.block _ (lt_of_heap gbI.out)).trans gbI.out
      have four := Lib.hid (show ∀ W, Below U2.heap.size U2 W → W.cell? ⟨z, 0, none⟩ = some (.int .u8 (st : Nat)) ∧ W.cell? ⟨y, 0, none⟩ = some (.slice (some ⟨R, 0, none⟩) n n) ∧ W.cell? ⟨zn1, 0, none⟩ = some (.int .i64 (N : Nat)) ∧ W.cell? ⟨zn2, 0, none⟩ = some (.int .i64 ((sl m).length : Nat)) from fun W hW =>
        ⟨(hW.cell (lt_of_cell bQ.cell)).trans bQ.cell, (hW.cell (lt_of_cell bI.cell)).trans bI.cell, (hW.cell (lt_of_cell bn1.cell)).trans bn1.cell, (hW.cell (lt_of_cell h2.cell)).trans h2.cell⟩)
      have resB := Lib.hid (show ∀ W, Below U2.heap.size U2 W → Boxed W (z + 1) 4 (.bool false) from fun W hW => ((gVU2.out.trans (hW.mono gVU2.out.size)).block _ (lt_of_heap gbR.out)).trans gbR.out)
      have rowB := Lib.hid (show ∀ W, Below U2.heap.size U2 W → Row W R n m from fun W hW => gRV.out.below (gVU2.out.trans (hW.mono gVU2.out.size)))
      have holdB := Lib.hid (show ∀ W, Below U2.heap.size U2 W → Hold W0 P n m W from fun W hW => gHV.out.below (gVU2.out.trans (hW.mono gVU2.out.size)))
      have n1 : ¬ z = z + 1 := by omega
      have n2 : ¬ y = z + 1 := by omega
      have n3 : ¬ zn1 = z + 1 := by have := gVz1.out; have := gVy.out; omega
      have n4 : ¬ zn2 = z + 1 := by have := gVz2.out; have := gVy.out; omega
      have c0 := four.out U2 (Below.refl _ _)
      have c1 := c0.1
      have c2 := c0.2.1
      have c3 := c0.2.2.1
      have c4 := c0.2.2.2
      have hmin : min (st : Int) ((sl m).length : Int) = (N : Nat) := min_is gN.out gL.out
      have wst3 := wrap_u8 gst.out
      have gB := Lib.hid ((Below.refl U2.heap.size U2).drew)
      clear l1 l2 l3 l4 l5 h2 h3 hD2 hK2 bn1 bQ bI c0 hseq2 hbn2
      gi_wp2_with fail
      refine wpIn_wide.2 ?_
      go_region_held3 (fun w' => w'.cell? ⟨z, 0, none⟩ = some (.int .u8 (st : Nat)) ∧ w'.cell? ⟨y, 0, none⟩ = some (.slice (some ⟨R, 0, none⟩) n n) ∧ w'.cell? ⟨zn1, 0, none⟩ = some (.int .i64 (N : Nat)) ∧ w'.cell? ⟨zn2, 0, none⟩ = some (.int .i64 ((sl m).length : Nat)))
        (first | exact ⟨c1, c2, c3, c4⟩ | exact cA | exact ⟨(World.cell?_of_block (Below.heap_setCell _ _ _ z n1)).trans cA.1, (World.cell?_of_block (Below.heap_setCell _ _ _ y n2)).trans cA.2.1, (World.cell?_of_block (Below.heap_setCell _ _ _ zn1 n3)).trans cA.2.2.1, (World.cell?_of_block (Below.heap_setCell _ _ _ zn2 n4)).trans cA.2.2.2⟩ | go_keep)
        (first
        | (go_at_call 38; (with_reducible refine (slots_is (rowB.out _ gB.out) hn34 glt.out).mono ?_); rintro e wA ⟨A, d, rfl, gA⟩; have gBn := Lib.hid (gB.out.trans (gA.out.2.mono gB.out.size)); clear gB; have gB := gBn; clear gBn; have cA := four.out _ gB.out)
        | (go_at_call 33; (with_reducible refine (same_is (holdB.out _ gB.out) gA.out.1).mono ?_); rintro e wA ⟨rfl, hb⟩; have gBn := Lib.hid (gB.out.trans (hb.mono gB.out.size)); clear hb gB; have gB := gBn; clear gBn; have cA := four.out _ gB.out)
        | (go_at_call 12; (with_reducible refine (works_any _).mono ?_); rintro e wA ⟨rfl, hb⟩; have gBn := Lib.hid (gB.out.trans (hb.mono gB.out.size)); clear hb gB; have gB := gBn; clear gBn; have cA := four.out _ gB.out; have hR5 := resB.out _ gB.out; have r1 := hR5.cell; have r2 := hR5.frozen; have gR5 := Lib.hid hR5; clear hR5))
      all_goals
        gi_wp2_with fail
        have hwA := gB.out
        have hlowV := gLow.out.size
        have hz0 := gz.out
        have l1 := gVy.out
        have l2 := gD1.out
        have l3 := gD12.out
        have s2 : (wA.setCell ⟨z + 1, 0, none⟩ (.bool true)).heap[D2]? = some (.deferred (some [])) := (Below.heap_setCell _ _ _ D2 (by show D2 ≠ z + 1; omega)).trans ((hwA.block _ (lt_of_heap gK2.out)).trans gK2.out)
        have s1 : (wA.setCell ⟨z + 1, 0, none⟩ (.bool true)).heap[D1]? = some (.deferred (some [])) := (Below.heap_setCell _ _ _ D1 (by show D1 ≠ z + 1; omega)).trans ((hwA.block _ (lt_of_heap gK12.out)).trans gK12.out)
        have hb : Below w.heap.size w wA := gLow.out.trans ((gVU2.out.trans (hwA.mono gVU2.out.size)).mono hlowV)
        refine leaves_two (B := V.heap.size) s2 s1 l3 l2 hlowV (hb.setCell (by show w.heap.size ≤ z + 1; omega) _) ?_
        intro WF hbF hsame
        have gRF := Boxed.cell (show Boxed WF (z + 1) 4 (.bool true) from (hsame _ (by omega)).trans (gR5.out.set _))
        refine ⟨.bool true, ?_, rfl, hbF⟩
        clear hbF hsame s1 s2 hb hwA
        simp [results, Try.results9, go_sem, gRF]
end Go.Proofs.Ytpdipcgchhibeaa
