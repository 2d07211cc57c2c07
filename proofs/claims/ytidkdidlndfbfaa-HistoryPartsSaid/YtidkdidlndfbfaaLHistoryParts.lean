/- HistoryParts: the walk. -/
import Derived.Test.YtidkdidlndfbfaaBeside
import Derived.Test.YtidkdidlndfbfaaHICollect
import Derived.Test.YtidkdidlndfbfaaHISub
import Derived.Sort.QuietTacIn
namespace Go.Proofs.Ytidkdidlndfbfaa
open Go.RowKit HI Go.Shelf
attribute [local go_sem] Oper.semAt_some
/-- The elements of a slice that is given in place, at a further cell. -/
theorem five_cells (W : World) (x y : Int) : ∀ i v, (#[Value.int .i64 (-1), .int .i64 x, .int .i64 y, .int .i64 (-9223372036854775808), .int .i64 9223372036854775807] : Array Value)[i]? = some v → (W.alloc (.cells #[.int .i64 (-1), .int .i64 x, .int .i64 y, .int .i64 (-9223372036854775808), .int .i64 9223372036854775807] 3)).cell? ⟨W.heap.size, i, none⟩ = some v := fun i v h =>
  (cell_of_row _ W.heap.size i _ _ (0, 0) (World.alloc_heap_new W _)).trans h
theorem slice_to (A : Option Addr) (n c r : Nat) (h : r ≤ c) (w' : World) : (Instr.slice 48 (.slice A n c) none (some (.int .i64 (r : Int))) none).run Try.prog w' = .ok (.slice A r c) w' := by
  cases A <;> simp [Instr.slice, run_underlying Try.underlying48, Instr.sliceBounds, Instr.sliceBound, asIntOf, h, Addr.add]
/-- What a pointer to a list shows: elements and mark. -/
def Reads (w : World) (p : Option Addr) (mk : Nat) (l : List E) : Prop := ∃ A c, Gives w p (.slice A l.length c) ∧ Marks w p mk ∧ SL w A l.length l ∧ ∀ b, A = some ⟨b, 0, none⟩ → b < w.heap.size
theorem has_reads_int {w0 w : World} {P lim mk : Nat} {l : List E} (h : Has w0 P lim mk l w) : Reads w (some ⟨P, 0, none⟩) mk l := by
  obtain ⟨v, h, _⟩ := h
  obtain ⟨A, c, rfl, _, _, _, hS, _⟩ := owns_sl h.row
  exact ⟨A, c, gives_own h, marks_own h, hS, fun b e => h.foot_lt b (.inr (by rw [e]; rfl))⟩
theorem HI.Marks.below {w w' : World} {p : Option Addr} {mk : Nat} (h : Marks w p mk) (hb : Below w.heap.size w w') : Marks w' p mk := fun W hW => h W (hb.trans (hW.mono hb.size))
theorem five_at {W : World} {b n q : Nat} (h : W.heap[b]? = some (.cells #[.int .i64 (-1), .int .i64 (n : Nat), .int .i64 (q : Nat), .int .i64 (-9223372036854775808), .int .i64 9223372036854775807] 3 (0, 0))) (hn : n ≤ q) (hq : q ≤ 100000) {k : Nat} (hk : k < 5) :
    ∃ i : Int, (i < 0 ∨ (n : Int) ≤ i) ∧ W.cell? ⟨b, k, none⟩ = some (.int .i64 i) := by
  have hc := cell_of_row W b k _ _ (0, 0) h
  rcases k with _ | _ | _ | _ | _ | k
  · exact ⟨_, .inl (by decide), hc.trans rfl⟩
  · exact ⟨_, .inr (Int.le_refl _), hc.trans rfl⟩
  · exact ⟨_, .inr (by omega), hc.trans rfl⟩
  · exact ⟨_, .inl (by decide), hc.trans rfl⟩
  · exact ⟨_, .inr (by omega), hc.trans rfl⟩
  · omega
set_option maxRecDepth 1000000 in
set_option maxHeartbeats 16000000 in
theorem historyParts_walk (a0 : Int) (a1 : Option Addr) (len1 cap1 : Nat) (z1 : List Mv) (w : World) (w0 : (Lit.int .u8 a0).wf = true) (w1 : MS w a1 len1 z1) (c1 : len1 ≤ cap1 ∧ cap1 ≤ 9223372036854775807) :
    Calls Try.prog 6 #[.int .u8 a0, .slice a1 len1 cap1] w fun e w' => e = .returned (.bool true) ∧ Below w.heap.size w w' := by
  refine (callsIn_wide (n := 6)).1 ?_
  refine callsIn_of_wp_marks Try.func6 rfl trivial ?_ rfl
  simp only [Try.ntmps6, List.size_toArray, List.length_cons, List.length_nil, Nat.reduceAdd, Nat.reduceSub, Array.replicate_succ, Array.replicate_zero, List.push_toArray, List.append_toArray, List.nil_append, List.cons_append]
  have t1 : Fence.wide.fn 24 := trivial
  have t2 : Fence.wide.fn 25 := trivial
  have t3 : Fence.wide.fn 26 := trivial
  have t4 : Fence.wide.fn 28 := trivial
  have t5 : Fence.wide.fn 30 := trivial
  have t6 : Fence.wide.fn 31 := trivial
  have t7 : Fence.wide.fn 29 := trivial
  have t8 : Fence.wide.fn 32 := trivial
  have t9 : Fence.wide.fn 10 := trivial
  obtain ⟨a, rfl, ha⟩ := u8_nat w0
  obtain ⟨q, hq⟩ : ∃ q, q = 1 + a % 64 := ⟨_, rfl⟩
  have hq1 : (1 : Int) + (a : Int) % 64 = (q : Nat) := by omega
  have hq2 : q ≤ 100000 := by omega
  have ha2 : ((a : Nat) : Int) < 256 := by omega
  obtain ⟨m, hm⟩ : ∃ m, m = min len1 150 := ⟨_, rfl⟩
  have hmi : (min (len1 : Int) 150) = (m : Nat) := by omega
  have hmn : m ≤ len1 := by omega
  have hsl : ∀ w' : World, (Instr.slice 44 (.slice a1 len1 cap1) none (some (.int .i64 (m : Int))) none).run Try.prog w' = .ok (.slice a1 m cap1) w' := by
    intro w'
    have i1 : m ≤ cap1 := by omega
    cases a1 <;> simp [Instr.slice, run_underlying Try.underlying44, Instr.sliceBounds, Instr.sliceBound, asIntOf, i1, Addr.add]
  have gM := Lib.hid w1
  have gq := Lib.hid hq
  clear w0 w1 hm hq ha
  gi_wp2_with fail
  obtain ⟨z, hz⟩ : ∃ z, z = w.heap.size := ⟨_, rfl⟩
  obtain ⟨W0, hW0⟩ : ∃ W0, W0 = (w.alloc (.cells #[.bool false] 4)).alloc (.cells #[.int .i64 (q : Nat)] 3) := ⟨_, rfl⟩
  have gz0 := Lib.hid (show W0.heap.size = z + 2 by rw [hW0, hz]; simp)
  have gB0 := Lib.hid (show Below w.heap.size w W0 by rw [hW0]; exact ((Below.refl _ w).alloc (Nat.le_refl _) _).alloc (by simp) _)
  have gR0 := Lib.hid (show Boxed W0 z 4 (.bool false) by rw [hW0, hz]; exact (Boxed.new w 4 _).alloc _)
  have gQ0 := Lib.hid (show Boxed W0 (z + 1) 3 (.int .i64 (q : Nat)) by
    rw [hW0, hz]
    have h := Boxed.new (w.alloc (.cells #[.bool false] 4)) 3 (.int .i64 (q : Nat))
    rwa [World.size_alloc] at h)
  rw [← hz, ← hW0]
  have gz := Lib.hid hz
  clear hW0 hz hq1
  refine (callsIn_wide.2 (h_new (w0 := W0) q hq2 (Below.refl _ _))).mono ?_
  rintro e w1 ⟨rfl, g1, _⟩
  obtain ⟨P, hP⟩ : ∃ P, P = W0.heap.size := ⟨_, rfl⟩
  rw [← hP] at g1 ⊢
  have gP := Lib.hid hP
  clear hP
  gi_wp2_with fail
  gi_loopw [43] (fun i wr => ∃ k : Nat, k ≤ m ∧ i = .int .i64 (k : Nat) ∧ Hid (∃ mk l, Has W0 P q mk l wr)) (fun i _ => m - (intOf i).toNat)
  case atStart => exact ⟨0, Nat.zero_le _, rfl, _, _, g1⟩
  case round =>
    obtain ⟨k, hk, rfl, gR⟩ := hrel
    obtain ⟨mk, l, hH⟩ := gR.out
    have gH := Lib.hid hH
    clear hH gR g1
    by_cases hlt : k < m
    · obtain ⟨b, o, ⟨t1, t2⟩, rfl, ht, hk1, hk2, e0, e1⟩ := gM.out.at (gB0.out.trans (gH.out.low.mono gB0.out.size)) (show k < len1 by omega)
      dsimp only at hk1 hk2 e0 e1
      have gH1 := Lib.hid (gH.out.below (boxM_below wr t1 t2))
      have kq := Boxed.cell (show Boxed (wr.alloc (boxM t1 t2)) (z + 1) 3 (.int .i64 (q : Nat)) from (gH1.out.low.block _ (by rw [gz0.out]; omega)).trans gQ0.out)
      clear hsl hmi ht
      gi_wp2_with fail
      refine (callsIn_wide.2 (h_moved gH1.out t1 t2 hk1 hk2)).mono ?_
      rintro e W2 ⟨rfl, g2⟩
      have g3 := Lib.hid (show ∃ mk l, Has W0 P q mk l W2 from ⟨_, _, g2⟩)
      clear g2 gH gH1 kq e0 e1 gM
      gi_wp2_with fail
      exact ⟨⟨k + 1, by omega, by simp, g3.out⟩, by simp [intOf]; omega⟩
    · obtain rfl : k = m := by omega
      clear hsl hmi gM hk
      have kq := Boxed.cell (show Boxed wr (z + 1) 3 (.int .i64 (q : Nat)) from (gH.out.low.block _ (by rw [gz0.out]; omega)).trans gQ0.out)
      gi_wp2_with fail
      refine (callsIn_wide.2 (h_elements gH.out)).mono ?_
      rintro e W3 ⟨vn, rfl, gE⟩
      obtain ⟨An, cn, rfl, hAc, hcn, hcmn, hSn, hAn, _⟩ := owns_sl gE.out.1
      have gH3 := Lib.hid (gH.out.below gE.out.2)
      have gH3o := gH3
      have gSn := Lib.hid hSn
      have gAlt := Lib.hid (show ∀ b, An = some ⟨b, 0, none⟩ → b < W3.heap.size from fun b e => (gE.out.1.lt b (by rw [e]; rfl)).2)
      have gbd := Lib.hid gH.out.bounds
      have gAg := Lib.hid (show ∀ a, An = some a → ∃ g, a = ⟨g, 0, none⟩ from fun a e => by obtain ⟨g, h, _⟩ := hAn a e; exact ⟨g, h⟩)
      have gtl := Lib.hid (show (l.take mk).length = mk from by rw [List.length_take]; have := gbd.out; omega)
      clear hSn hAn hcmn gE gH kq
      gi_wp2_with fail
      refine (callsIn_wide.2 (h_marked gH3.out)).mono ?_
      rintro e _ ⟨rfl, rfl⟩
      have d1 : decide (l.length < mk) = false := by have := gbd.out; simp; omega
      gi_wp2_with fail
      refine (callsIn_wide.2 (h_marked gH3.out)).mono ?_
      rintro e _ ⟨rfl, rfl⟩
      have hs1 := slice_to An l.length cn mk (by have := gbd.out; omega)
      gi_wp2_with fail
      refine (callsIn_wide.2 (h_marked gH3.out)).mono ?_
      rintro e _ ⟨rfl, rfl⟩
      gi_wp2_with fail
      have hAg : ∀ a, An = some a → ∃ g, a = ⟨g, 0, none⟩ := gAg.out
      refine (callsIn_wide.2 (clone_sl (gSn.out.take gbd.out.1) (by have := gbd.out; omega) hAg)).mono ?_
      rintro e W4 ⟨v4, rfl, gC⟩
      obtain ⟨A4, c4, rfl, _, hc4, hcm4, _⟩ := owns_sl (show W4.ownsRow W3.heap.size 3 1 v4 (l.take mk).length (vs (l.take mk)) from by rw [gtl.out]; exact gC.out.1)
      rw [gtl.out]
      have gH4 := Lib.hid (gH3.out.below gC.out.2)
      clear hAg hs1 gH3 hc4 hcm4
      gi_wp2_with fail
      refine (callsIn_wide.2 (since_any _ _)).mono ?_
      rintro e w' ⟨rfl, rfl⟩
      gi_wp2_with fail
      obtain ⟨i0, hinf, hz0, hz1, hz2⟩ := info_parts infoE
      obtain ⟨y, hy⟩ : ∃ y, y = W4.heap.size := ⟨_, rfl⟩
      obtain ⟨V, hV⟩ : ∃ V, V = (W4.alloc (.cells #[.slice A4 mk c4] 48)).alloc (.cells #[.pointer (some ⟨P, 0, none⟩)] 45) := ⟨_, rfl⟩
      have hVy : V.heap.size = y + 2 := by rw [hV, hy]; simp
      have b12 : Boxed V y 48 (.slice A4 mk c4) := by
        rw [hV, hy]
        exact (Boxed.new W4 48 _).alloc _
      have bP : Boxed V (y + 1) 45 (.pointer (some ⟨P, 0, none⟩)) := by
        rw [hV, hy]
        have h := Boxed.new (W4.alloc (.cells #[.slice A4 mk c4] 48)) 45 (.pointer (some ⟨P, 0, none⟩))
        rwa [World.size_alloc] at h
      have h4V : Below W4.heap.size W4 V := by rw [hV]; exact ((Below.refl _ W4).alloc (Nat.le_refl _) _).alloc (by simp) _
      have h3V : Below W3.heap.size W3 V := gC.out.2.trans (h4V.mono gC.out.2.size)
      have hrow : V.ownsRow W3.heap.size 3 1 (.slice A4 mk c4) (l.take mk).length (vs (l.take mk)) := by have h := owns_below gC.out.1 h4V; rw [gtl.out] at h; rw [gtl.out]; exact h
      obtain ⟨Al, cl, hGl, hMl, hSl, hAl⟩ := has_reads_int gH3o.out
      have hseq := since_foot 5 (y + 1) (some ⟨P, 0, none⟩) Al cl W3.heap.size mk l V bP.cell (hGl.below h3V) (hMl.below h3V) (hSl.below h3V) hAl h3V.size (by have := gbd.out; omega)
      rw [← hV, ← hy]
      obtain ⟨n3, hn3⟩ : ∃ n3, n3 = W3.heap.size := ⟨_, rfl⟩
      rw [← hn3] at hseq hrow
      have gn3 := Lib.hid hn3
      have g3V := Lib.hid h3V
      have gy3 := Lib.hid (show n3 ≤ y from by rw [hn3, hy]; exact gC.out.2.size)
      have hF0 : ∀ b, Foot y (.slice A4 mk c4) b → n3 ≤ b ∧ b < V.heap.size := fun b hb => by
        rcases hb with rfl | hb
        · exact ⟨gy3.out, by omega⟩
        · exact hrow.lt b hb
      have gF0 := Lib.hid hF0
      have gW03 := Lib.hid gH3o.out.low
      have hG0 : Grows n3 y (l.take mk ++ []) (Foot y (.slice A4 mk c4)) V := ⟨_, rfl, b12, by rw [List.append_nil]; exact hrow, by have := gy3.out; omega⟩
      clear hV hy b12 bP h4V h3V hrow hGl hMl hSl hAl hn3 hF0 gC gH4
      refine range_foot (by omega) (gf := 58) (lb := #[.pointer (some ⟨y + 1, 0, none⟩)]) rfl (enters_of Try.func58 (by kernel_rfl) rfl) hseq (Below.refl _ _) (by have := gy3.out; omega) (fun _ _ => rfl)
        (fun pre F U => Grows n3 y (l.take mk ++ pre) F U ∧ Turn (Foot y (.slice A4 mk c4)) F V U)
        (fun _ _ _ _ => False)
        ((show Steady V.heap.size (fun pre F U => Grows n3 y (l.take mk ++ pre) F U) from fun pre F A C hs hc => grows_steady _ F A C hs hc).and (turn_steady (Nat.le_refl _)))
        (fun _ _ _ _ _ h _ => h) (Foot y (.slice A4 mk c4)) gF0.out ⟨hG0, Turn.refl _ _⟩
        ?ar ?assigned ?round ?done ?stop
      case assigned =>
        intro lr pre x U K hK
        unfold encS
        gi_wp2
        exact hK
      case stop =>
        rintro D cc pre F U _ _ _ _ h _
        exact h.elim
      case round =>
        rintro lr pre x F U ⟨⟨v, rfl, hb, hr, hs⟩, hVU⟩ hF hp _
        have hpl : mk + pre.length < l.length := by
          have := hp.length_le
          rw [List.length_append, List.length_drop] at this
          simp at this
          omega
        have hll : (l.take mk ++ pre).length = mk + pre.length := by rw [List.length_append, gtl.out]
        obtain ⟨A1, cr, rfl, _⟩ := owns_sl hr
        have k3 := hb.cell
        have f3 := hb.frozen
        have gVU := Lib.hid hVU
        have hbU := hVU.below (B := n3) (by have := gy3.out; omega) (fun b hb => (gF0.out b hb).1)
        have kq := Boxed.cell (show Boxed U (z + 1) 3 (.int .i64 (q : Nat)) from (hbU.1.block _ (by have := gW03.out.size; have := gz0.out; have := gn3.out; omega)).trans ((g3V.out.block _ (by have := gW03.out.size; have := gz0.out; omega)).trans ((gW03.out.block _ (by have := gz0.out; omega)).trans gQ0.out)))
        obtain ⟨nn, hnn⟩ : ∃ nn, nn = (l.take mk ++ pre).length := ⟨_, rfl⟩
        have hnq : nn < q := by have := gbd.out; omega
        have d1 : decide (q < nn) = false := by simp; omega
        have gb := Lib.hid hb
        have gr := Lib.hid hr
        have gs := Lib.hid hs
        have gnn := Lib.hid hnn
        rw [← hnn] at k3
        have hrn : U.ownsRow n3 3 1 (.slice A1 nn cr) nn (vs (l.take mk ++ pre)) := by rw [hnn]; exact hr
        have gbn : Hid (Boxed U y 48 (.slice A1 nn cr)) := Lib.hid (by rw [hnn]; exact hb)
        have grn := Lib.hid hrn
        clear hb hr hs hVU hF hp hG0 hseq hbU hnn hll hrn hpl
        gi_wp2_with (gi_at_builtin; refine wpListIn_append_own_at _ rfl _ _ 48 rfl n3 3 i0 _ 1 8 Try.underlying48 hinf hz0 hz1 hz2 rfl (by decide) _ _ _ rfl (grn.out.alloc _) ⟨U.heap.size, 0, none⟩ 1 1 (vs [x]) rfl rfl (src_box U x) (vs_one _) (by unfold maxLen; omega) (by omega) (by have := gs.out; simp; omega) ?_
                     intro v2 w2 hr2 hg2 _ hat2
                     have gE := Lib.hid (grows_more gb.out gr.out gs.out (by rw [← gnn.out]; exact hr2) (by rw [← gnn.out]; exact hg2) (by rw [← gnn.out]; exact hat2))
                     have hb1 : Boxed w2 y 48 _ := (gbn.out.alloc _).kept hg2 (gbn.out.not_row (by decide) grn.out)
                     have k4 := hb1.cell
                     have f4 := hb1.frozen
                     obtain ⟨g2, cap2, rfl⟩ := ownsRow_succ hr2
                     clear hr2 hg2 hat2 hb1)
        refine ⟨_, gE.out.1, ?_, gVU.out.trans gE.out.1⟩
        have := gE.out.2
        rwa [List.append_assoc] at this
      case done =>
        rintro D F U hD hFD hF ⟨hGr, hVU⟩ hK
        rw [List.take_append_drop] at hGr
        obtain ⟨v, rfl, hb, hr, hs⟩ := hGr
        obtain ⟨A1, cr, rfl, _, _, hcr, hS1, _⟩ := owns_sl hr
        have k3 := hb.cell
        have hbU := hVU.below (B := n3) (by have := gy3.out; omega) (fun b hb => (gF0.out b hb).1)
        have h3U : Below W3.heap.size W3 U := g3V.out.trans (by rw [← gn3.out]; exact hbU.1)
        have gHU := Lib.hid (gH3o.out.below h3U)
        have gSU := Lib.hid (gSn.out.below h3U)
        have gS1 := Lib.hid hS1
        have gKU := Lib.hid hK
        have gRU := Lib.hid (show Boxed U z 4 (.bool false) from (h3U.block _ (by have := gW03.out.size; have := gz0.out; omega)).trans ((gW03.out.block _ (by have := gz0.out; omega)).trans gR0.out))
        have gqU := Lib.hid (show Boxed U (z + 1) 3 (.int .i64 (q : Nat)) from (h3U.block _ (by have := gW03.out.size; have := gz0.out; omega)).trans ((gW03.out.block _ (by have := gz0.out; omega)).trans gQ0.out))
        have gLow := Lib.hid (show Below w.heap.size w U from (gB0.out.trans (gW03.out.mono gB0.out.size)).trans (h3U.mono (by have := gB0.out.size; have := gW03.out.size; omega)))
        have gDz := Lib.hid (show z + 2 ≤ D from by have := gW03.out.size; have := gz0.out; have := gn3.out; have := gy3.out; omega)
        have hll : l.length ≤ 100000 := by have := gbd.out; omega
        clear hb hr hs hVU hF hFD hD hK hbU h3U hS1 hG0 hseq
        gi_wp2_with fail
        refine (callsIn_wide.2 (lists_equal gS1.out gSU.out (by omega) (by omega))).mono ?_
        rintro e U2 ⟨rfl, hB2⟩
        have e2 : (l == l) = true := by simp
        rw [e2]
        have gU2 := Lib.hid hB2
        clear hB2 e2 k3
        gi_wp2_with fail
        gi_loopw [95] (fun i wr => ∃ k : Nat, k ≤ l.length ∧ i = .int .i64 (k : Nat) ∧ Hid (Below U.heap.size U wr)) (fun i _ => l.length - (intOf i).toNat)
        case atStart => exact ⟨0, Nat.zero_le _, rfl, gU2.out⟩
        case round =>
          obtain ⟨k2, hk2, rfl, gU3⟩ := hrel
          by_cases hlt2 : k2 < l.length
          · obtain ⟨b, x, rfl, hx, hc⟩ := (gSU.out.below gU3.out).at hlt2
            unfold ev at hc
            have gx := Lib.hid hx
            clear hx hcr
            gi_wp2_with fail
            refine (callsIn_wide.2 (h_at (gHU.out.below gU3.out) k2 x gx.out)).mono ?_
            rintro e U4 ⟨rfl, hB4⟩
            have gU4 := Lib.hid (gU3.out.trans (hB4.mono gU3.out.size))
            clear hB4
            gi_wp2_with fail
            exact ⟨⟨k2 + 1, by omega, by simp, gU4.out⟩, by simp [intOf]; omega⟩
          · obtain rfl : k2 = l.length := by omega
            have kq3 := Boxed.cell (show Boxed wr (z + 1) 3 (.int .i64 (q : Nat)) from (gU3.out.block _ (lt_of_heap gqU.out)).trans gqU.out)
            clear hk2 hlt2
            gi_wp2_with fail
            obtain ⟨z5, hz5⟩ : ∃ z5, z5 = wr.heap.size := ⟨_, rfl⟩
            obtain ⟨X, hX⟩ : ∃ X, X = wr.alloc (.cells #[.int .i64 (-1), .int .i64 (l.length : Nat), .int .i64 (q : Nat), .int .i64 (-9223372036854775808), .int .i64 9223372036854775807] 3) := ⟨_, rfl⟩
            have gX5 := Lib.hid (show X.heap[z5]? = some (.cells #[.int .i64 (-1), .int .i64 (l.length : Nat), .int .i64 (q : Nat), .int .i64 (-9223372036854775808), .int .i64 9223372036854775807] 3 (0, 0)) by rw [hX, hz5]; exact World.alloc_heap_new wr _)
            have gUX := Lib.hid (show Below U.heap.size U X by rw [hX]; exact gU3.out.alloc gU3.out.size _)
            have gz5 := Lib.hid (show U.heap.size ≤ z5 by rw [hz5]; exact gU3.out.size)
            rw [← hX, ← hz5]
            clear hX hz5 gU3 kq3
            gi_loopw [119] (fun i wr => ∃ k : Nat, k ≤ 5 ∧ i = .int .i64 (k : Nat) ∧ Hid (Below X.heap.size X wr)) (fun i _ => 5 - (intOf i).toNat)
            case atStart => exact ⟨0, Nat.zero_le _, rfl, Below.refl _ _⟩
            case round =>
              obtain ⟨k3, hk3, rfl, gX⟩ := hrel
              by_cases hlt3 : k3 < 5
              · obtain ⟨i, hi, hc⟩ := five_at ((gX.out.block _ (lt_of_heap gX5.out)).trans gX5.out) gbd.out.2.1 gbd.out.2.2 hlt3
                have gi := Lib.hid hi
                clear hi
                gi_wp2_with fail
                refine (callsIn_wide.2 (h_at_out (gHU.out.below (gUX.out.trans (gX.out.mono gUX.out.size))) i gi.out)).mono ?_
                rintro e _ ⟨rfl, rfl⟩
                gi_wp2_with fail
                exact ⟨⟨k3 + 1, by omega, by simp, gX.out⟩, by simp [intOf]; omega⟩
              · obtain rfl : k3 = 5 := by omega
                clear hk3 hlt3
                gi_wp2_with fail
                refine (callsIn_wide.2 (works_any _)).mono ?_
                rintro e w9 ⟨rfl, hB9⟩
                have hUw : Below U.heap.size U w9 := (gUX.out.trans (gX.out.mono gUX.out.size)).trans (hB9.mono (Nat.le_trans gUX.out.size gX.out.size))
                have hR9 : Boxed w9 z 4 (.bool false) := (hUw.block _ (lt_of_heap gRU.out)).trans gRU.out
                have hK9 : w9.heap[D]? = some (.deferred (some [])) := (hUw.block _ (lt_of_heap gKU.out)).trans gKU.out
                have r1 := hR9.cell
                have r2 := hR9.frozen
                have hK10 : (w9.setCell ⟨z, 0, none⟩ (.bool true)).heap[D]? = some (.deferred (some [])) := (Below.heap_setCell _ _ _ D (by have := gDz.out; show D ≠ z; omega)).trans hK9
                have hz0 := gz.out
                have gEnd := Lib.hid (show Below w.heap.size w ((w9.setCell ⟨z, 0, none⟩ (.bool true)).putObj D (.deferred none)) from
                  ((gLow.out.trans (hUw.mono gLow.out.size)).setCell (by show w.heap.size ≤ z; omega) _).trans (But.below (but_put (F := fun b => b = D) _ D _ rfl) (by have := gLow.out.size; have := hUw.size; simp [World.setCell]; omega) (fun b hb => by have := gDz.out; omega)))
                have cF := Boxed.cell (show Boxed ((w9.setCell ⟨z, 0, none⟩ (.bool true)).putObj D (.deferred none)) z 4 (.bool true) from (World.putObj_heap_other (by have := gDz.out; omega)).trans (hR9.set _))
                have gK10 := Lib.hid hK10
                clear hK10 hK9 hR9 hUw hB9 hz0
                gi_wp2_with fail
                refine ⟨by simp, .inl ⟨_, _, rfl, run_takeDeferred gK10.out, ?_⟩⟩
                refine ⟨.bool true, ?_, rfl, gEnd.out⟩
                clear gEnd
                simp [results, Try.results6, go_sem, cF]
end Go.Proofs.Ytidkdidlndfbfaa
