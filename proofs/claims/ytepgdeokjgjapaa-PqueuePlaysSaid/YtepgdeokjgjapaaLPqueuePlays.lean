/- PqueuePlays: the walk. -/
import Derived.Test.YtepgdeokjgjapaaQJCol
import Derived.Test.YtepgdeokjgjapaaSteps
import Derived.Test.YtepgdeokjgjapaaWorks
import Derived.Test.YtepgdeokjgjapaaQLAll
namespace Go.Proofs.Ytepgdeokjgjapaa
open Go.RowKit QJ
attribute [local go_sem] Oper.semAt_some
set_option maxRecDepth 1000000 in
set_option maxHeartbeats 16000000 in
theorem plays_early (s : Int) (A : Option Addr) (m cap : Nat) (id : Int) (w : World) (hm : 150 < m ∨ (m ≤ 150 ∧ 40 < s ∧ s ≤ 1024)) :
    Calls Try.prog 3 #[.int .i64 s, .slice A m cap, .int .i64 id] w fun e w' => e = .returned (.bool true) ∧ Below w.heap.size w w' := by
  refine (callsIn_wide (n := 6)).1 ?_
  refine callsIn_of_wp_marks Try.func3 rfl trivial ?_ rfl
  simp only [Try.ntmps3, List.size_toArray, List.length_cons, List.length_nil, Nat.reduceAdd, Nat.reduceSub, Array.replicate_succ, Array.replicate_zero, List.push_toArray, List.append_toArray, List.nil_append, List.cons_append]
  refine wpIn_wide.2 ?_
  rcases hm with hm | ⟨h1, h2, h3⟩
  · go_wp2_with fail
    refine (works_any _).mono ?_
    rintro e w2 ⟨rfl, hB2⟩
    have hR := Boxed.new w 4 (.bool false)
    have hRW : Boxed w2 w.heap.size 4 (.bool false) := (hB2.block _ (by simp)).trans hR
    have r1 := hRW.cell
    have r2 := hRW.frozen
    have hBw : Below w.heap.size w w2 := ((Below.refl _ w).alloc (Nat.le_refl _) _).trans (hB2.mono (by simp))
    have gR := Lib.hid (hRW.set (.bool true))
    have gB := Lib.hid hBw
    clear hR hRW hB2 hBw
    go_wp2_with fail
    have gF := gR.out.cell
    refine ⟨.bool true, ?_, rfl, gB.out.setCell (by simp) _⟩
    simp [results, Try.results3, go_sem, gF]
  · go_wp2_with fail
    refine (works_any _).mono ?_
    rintro e w2 ⟨rfl, hB2⟩
    have hR := Boxed.new w 4 (.bool false)
    have hRW : Boxed w2 w.heap.size 4 (.bool false) := (hB2.block _ (by simp)).trans hR
    have r1 := hRW.cell
    have r2 := hRW.frozen
    have hBw : Below w.heap.size w w2 := ((Below.refl _ w).alloc (Nat.le_refl _) _).trans (hB2.mono (by simp))
    have gR := Lib.hid (hRW.set (.bool true))
    have gB := Lib.hid hBw
    clear hR hRW hB2 hBw
    go_wp2_with fail
    have gF := gR.out.cell
    refine ⟨.bool true, ?_, rfl, gB.out.setCell (by simp) _⟩
    simp [results, Try.results3, go_sem, gF]
theorem none_turns (n Bm : Nat) (w : World) (hm : w.cell? ⟨Bm, 0, none⟩ = some (.pointer none)) : SeqTurns n 69 #[.pointer (some ⟨Bm, 0, none⟩)] encs (fun ys => ys = []) (fun pre => pre <+: []) 0 w := fun lp _ _ W hb _ _ _ h0 =>
  callsIn_wide.2 ((QL.yieldless lp Bm none W ((hb.cell (lt_of_cell hm)).trans hm) (.inl rfl)).mono fun _ _ h => ⟨⟨_, h.1⟩, .inl ⟨[], rfl, h.2 ▸ h0⟩⟩)
theorem step_cells {W : World} {k : Nat} {d i p : Value} (h : W.heap[k]? = some (.cells #[d, i, p] 32 (0, 0))) : W.cell? ⟨k, 1, none⟩ = some i ∧ W.cell? ⟨k, 2, none⟩ = some p :=
  ⟨cell_of_row W k 1 _ _ (0, 0) h, cell_of_row W k 2 _ _ (0, 0) h⟩
set_option maxRecDepth 1000000 in
set_option maxHeartbeats 16000000 in
theorem plays_small (s : Int) (A : Option Addr) (m cap : Nat) (ts : List Stp) (id : Int) (w : World) (h : StS w A m ts) (hcap : m ≤ cap ∧ cap ≤ 9223372036854775807) (hs : s ≤ 40) (hm6 : m ≤ 150) :
    Calls Try.prog 3 #[.int .i64 s, .slice A m cap, .int .i64 id] w fun e w' => e = .returned (.bool true) ∧ Below w.heap.size w w' := by
  have gS := Lib.hid h
  clear h
  refine (callsIn_wide (n := 6)).1 ?_
  refine callsIn_of_wp_marks Try.func3 rfl trivial ?_ rfl
  simp only [Try.ntmps3, List.size_toArray, List.length_cons, List.length_nil, Nat.reduceAdd, Nat.reduceSub, Array.replicate_succ, Array.replicate_zero, List.push_toArray, List.append_toArray, List.nil_append, List.cons_append]
  have hm' : ¬ (150 : Int) < (m : Int) := by omega
  refine wpIn_wide.2 ?_
  obtain ⟨W0, hW0⟩ : ∃ W0, W0 = w.alloc (.cells #[.bool false] 4) := ⟨_, rfl⟩
  have hB0 : Below w.heap.size w W0 := by rw [hW0]; exact (Below.refl _ w).alloc (Nat.le_refl _) _
  have hR0 : Boxed W0 w.heap.size 4 (.bool false) := by rw [hW0]; exact Boxed.new w 4 _
  have hZ0 : W0.heap.size = w.heap.size + 1 := by rw [hW0]; simp
  obtain ⟨q, v, M, hqv, k1, k2⟩ := pl_new W0 s
  have g1 := Lib.hid k1
  have g2 := Lib.hid k2
  have gq := Lib.hid hqv
  have gB0 := Lib.hid hB0
  have gR0 := Lib.hid hR0
  have gZ0 := Lib.hid hZ0
  clear k1 k2 hqv hB0 hR0 hZ0
  go_wp2_with fail
  rw [← hW0]
  clear hW0
  refine g1.out.mono ?_
  rintro e w1 ⟨rfl, hM⟩
  have gM := Lib.hid hM
  clear hM
  go_wp2_with fail
  refine (g2.out w1 gM.out).mono ?_
  rintro e w2 ⟨r, rfl, hqr, hP⟩
  have gP := Lib.hid hP
  obtain ⟨b, hb1, hb2, hb3, hb4⟩ : ∃ b : Bool, (∀ W, (binOp .eql 24 q (.pointer none)).run Try.prog W = .ok (.bool b) W) ∧ (∀ W, (binOp .eql 28 r (.pointer none)).run Try.prog W = .ok (.bool b) W) ∧ (∀ W x y, (eqGuard .eql 24 x y q (.pointer none)).run Try.prog W = .ok () W) ∧ (∀ W x y, (eqGuard .eql 28 x y r (.pointer none)).run Try.prog W = .ok () W) := by
    rcases hqr with ⟨rfl, rfl⟩ | ⟨⟨a, rfl⟩, a', rfl⟩
    · exact ⟨true, fun W => by simp [go_sem, Try.underlying24], fun W => by simp [go_sem, Try.underlying28], fun W x y => by simp [eqGuard, go_sem], fun W x y => by simp [eqGuard, go_sem]⟩
    · exact ⟨false, fun W => by simp [go_sem, Try.underlying24], fun W => eq_none28 a' W, fun W x y => by simp [eqGuard, go_sem], fun W x y => by simp [eqGuard, go_sem]⟩
  clear hP hqr
  go_wp2_with fail
  clear hb1 hb2 hb3 hb4
  go_loopw [7, 9, 11] (fun q r i wr => ∃ j : Nat, j ≤ m ∧ i = .int .i64 j ∧ Hid (Pl W0 wr q r)) (fun _ _ i _ => m - (intOf i).toNat)
  case atStart => exact ⟨0, Nat.zero_le _, rfl, gP.out⟩
  case round =>
    obtain ⟨j, hj, rfl, gI⟩ := hrel
    by_cases hlt : j < m
    · have gSr := Lib.hid ((gS.out.below gB0.out).below gI.out.low)
      obtain ⟨b0, o0, rfl, hbl, hcs⟩ := gSr.out.2 (by omega)
      obtain ⟨⟨d, i, p⟩, ht⟩ : ∃ t, ts[j]? = some t := ⟨_, List.getElem?_eq_getElem (by rw [gS.out.1]; exact hlt)⟩
      obtain ⟨e1, e2, e3⟩ := hcs j _ ht
      have hlt' : (j : Int) < (m : Int) := by omega
      obtain ⟨V, hV⟩ : ∃ V, V = wr.alloc (.cells #[.int .i64 d, .int .i64 i, .int .i64 p] 32) := ⟨_, rfl⟩
      have hVB : Below wr.heap.size wr V := by rw [hV]; exact (Below.refl _ wr).alloc (Nat.le_refl _) _
      have hVk : V.heap[wr.heap.size]? = some (.cells #[.int .i64 d, .int .i64 i, .int .i64 p] 32 (0, 0)) := by rw [hV]; exact World.alloc_heap_new wr _
      have gV := Lib.hid (gI.out.below hVB)
      have gVk := Lib.hid hVk
      clear hcs ht hVB hVk
      rcases (show d = 0 ∨ d = 1 ∨ d = 2 ∨ d = 3 ∨ d = 4 ∨ ((d == 0) = false ∧ (d == 1) = false ∧ (d == 2) = false ∧ (d == 3) = false ∧ (d == 4) = false) by simp; omega) with rfl | rfl | rfl | rfl | rfl | ⟨d0, d1, d2, d3, d4⟩
      · go_wp2_with fail
        rw [← hV]
        clear hV
        obtain ⟨v1, M1, k1, k2⟩ := pl_push (gV.out.below (Below.refl _ V).drew) i p
        have c12 := step_cells gVk.out
        have c1 := c12.1
        have c2 := c12.2
        have gA := Lib.hid k1
        have gB := Lib.hid k2
        clear k1 k2 c12
        go_region_held3 (fun w' => w'.cell? ⟨wr.heap.size, 1, none⟩ = some (.int .i64 i) ∧ w'.cell? ⟨wr.heap.size, 2, none⟩ = some (.int .i64 p)) (first | go_keep | exact ⟨c1, c2⟩ | exact step_cells (by assumption))
          (first
          | (go_at_call 14; refine gA.out.mono ?_; rintro e wA ⟨rfl, hMA, hKA⟩; have hkA := hKA _ _ _ gVk.out; have gMA := Lib.hid hMA; clear hMA hKA)
          | (go_at_call 15; refine (gB.out _ gMA.out).mono ?_; rintro e wB ⟨rfl, hPB, hKB⟩; have hkB := hKB _ _ _ hkA; have gPB := Lib.hid hPB; clear hPB hKB))
        go_wp2_with fail
        refine (alike_any gPB.out id).mono ?_
        rintro e wC ⟨rfl, hC⟩
        have gPC := Lib.hid (gPB.out.below hC)
        have cC := (step_cells ((hC.block _ (lt_of_heap hkB)).trans hkB)).1
        clear hC
        go_wp2_with fail
        refine (alike_any gPC.out i).mono ?_
        rintro e wD ⟨rfl, hD⟩
        have gPD := Lib.hid (gPC.out.below hD)
        clear hD
        go_wp2_with fail
        go_roundw
        case rel => exact ⟨j + 1, by omega, by go_num, gPD.out⟩
        case measure => simp [intOf]; omega
      · go_wp2_with fail
        rw [← hV]
        clear hV
        obtain ⟨v1, M1, k1, k2⟩ := pl_change (gV.out.below (Below.refl _ V).drew) i p
        have c12 := step_cells gVk.out
        have c1 := c12.1
        have c2 := c12.2
        have gA := Lib.hid k1
        have gB := Lib.hid k2
        clear k1 k2 c12
        go_region_held3 (fun w' => w'.cell? ⟨wr.heap.size, 1, none⟩ = some (.int .i64 i) ∧ w'.cell? ⟨wr.heap.size, 2, none⟩ = some (.int .i64 p)) (first | go_keep | exact ⟨c1, c2⟩ | exact step_cells (by assumption))
          (first
          | (go_at_call 16; refine gA.out.mono ?_; rintro e wA ⟨rfl, hMA, hKA⟩; have hkA := hKA _ _ _ gVk.out; have gMA := Lib.hid hMA; clear hMA hKA)
          | (go_at_call 17; refine (gB.out _ gMA.out).mono ?_; rintro e wB ⟨rfl, hPB, hKB⟩; have hkB := hKB _ _ _ hkA; have gPB := Lib.hid hPB; clear hPB hKB))
        go_wp2_with fail
        refine (alike_any gPB.out id).mono ?_
        rintro e wC ⟨rfl, hC⟩
        have gPC := Lib.hid (gPB.out.below hC)
        have cC := (step_cells ((hC.block _ (lt_of_heap hkB)).trans hkB)).1
        clear hC
        go_wp2_with fail
        refine (alike_any gPC.out i).mono ?_
        rintro e wD ⟨rfl, hD⟩
        have gPD := Lib.hid (gPC.out.below hD)
        clear hD
        go_wp2_with fail
        go_roundw
        case rel => exact ⟨j + 1, by omega, by go_num, gPD.out⟩
        case measure => simp [intOf]; omega
      · go_wp2_with fail
        rw [← hV]
        clear hV
        obtain ⟨v1, b1, M1, k1, k2⟩ := pl_remove gV.out i
        have gA := Lib.hid k1
        have gB := Lib.hid k2
        clear k1 k2
        refine gA.out.mono ?_
        rintro e wA ⟨rfl, hMA, hKA⟩
        have hkA := hKA _ _ _ gVk.out
        have cA := (step_cells hkA).1
        have gMA := Lib.hid hMA
        clear hMA hKA
        go_wp2_with fail
        refine (gB.out _ gMA.out).mono ?_
        rintro e wB ⟨rfl, hPB, hKB⟩
        have hkB := hKB _ _ _ hkA
        have gPB := Lib.hid hPB
        clear hPB hKB
        go_wp2_with fail
        refine (alike_any gPB.out id).mono ?_
        rintro e wC ⟨rfl, hC⟩
        have gPC := Lib.hid (gPB.out.below hC)
        have cC := (step_cells ((hC.block _ (lt_of_heap hkB)).trans hkB)).1
        clear hC
        go_wp2_with fail
        refine (alike_any gPC.out i).mono ?_
        rintro e wD ⟨rfl, hD⟩
        have gPD := Lib.hid (gPC.out.below hD)
        clear hD
        go_wp2_with fail
        go_roundw
        case rel => exact ⟨j + 1, by omega, by go_num, gPD.out⟩
        case measure => simp [intOf]; omega
      · go_wp2_with fail
        rw [← hV]
        clear hV
        obtain ⟨i1, v1, b1, M1, k1, k2⟩ := pl_pop gV.out
        have gA := Lib.hid k1
        have gB := Lib.hid k2
        clear k1 k2
        refine gA.out.mono ?_
        rintro e wA ⟨rfl, hMA, hKA⟩
        have hkA := hKA _ _ _ gVk.out
        have cA := (step_cells hkA).1
        have gMA := Lib.hid hMA
        clear hMA hKA
        go_wp2_with fail
        refine (gB.out _ gMA.out).mono ?_
        rintro e wB ⟨rfl, hPB, hKB⟩
        have hkB := hKB _ _ _ hkA
        have gPB := Lib.hid hPB
        clear hPB hKB
        go_wp2_with fail
        refine (alike_any gPB.out id).mono ?_
        rintro e wC ⟨rfl, hC⟩
        have gPC := Lib.hid (gPB.out.below hC)
        have cC := (step_cells ((hC.block _ (lt_of_heap hkB)).trans hkB)).1
        clear hC
        go_wp2_with fail
        refine (alike_any gPC.out i).mono ?_
        rintro e wD ⟨rfl, hD⟩
        have gPD := Lib.hid (gPC.out.below hD)
        clear hD
        go_wp2_with fail
        go_roundw
        case rel => exact ⟨j + 1, by omega, by go_num, gPD.out⟩
        case measure => simp [intOf]; omega
      · go_wp2_with fail
        rw [← hV]
        clear hV
        obtain ⟨q', M1, k1, k2⟩ := pl_copy gV.out
        have gA := Lib.hid k1
        have gB := Lib.hid k2
        clear k1 k2
        refine gA.out.mono ?_
        rintro e wA ⟨rfl, hMA, hKA⟩
        have hkA := hKA _ _ _ gVk.out
        have gMA := Lib.hid hMA
        clear hMA hKA
        go_wp2_with fail
        refine (gB.out _ gMA.out).mono ?_
        rintro e wB ⟨r', rfl, hPB, hKB⟩
        have hkB := hKB _ _ _ hkA
        have gPB := Lib.hid hPB
        clear hPB hKB
        go_wp2_with fail
        refine (alike_any gPB.out id).mono ?_
        rintro e wC ⟨rfl, hC⟩
        have gPC := Lib.hid (gPB.out.below hC)
        have cC := (step_cells ((hC.block _ (lt_of_heap hkB)).trans hkB)).1
        clear hC
        go_wp2_with fail
        refine (alike_any gPC.out i).mono ?_
        rintro e wD ⟨rfl, hD⟩
        have gPD := Lib.hid (gPC.out.below hD)
        clear hD
        go_wp2_with fail
        go_roundw
        case rel => exact ⟨j + 1, by omega, by go_num, gPD.out⟩
        case measure => simp [intOf]; omega
      · go_wp2_with fail
        rw [← hV]
        clear hV
        have hkB := gVk.out
        refine (alike_any gV.out id).mono ?_
        rintro e wC ⟨rfl, hC⟩
        have gPC := Lib.hid (gV.out.below hC)
        have cC := (step_cells ((hC.block _ (lt_of_heap hkB)).trans hkB)).1
        clear hC
        go_wp2_with fail
        refine (alike_any gPC.out i).mono ?_
        rintro e wD ⟨rfl, hD⟩
        have gPD := Lib.hid (gPC.out.below hD)
        clear hD
        go_wp2_with fail
        go_roundw
        case rel => exact ⟨j + 1, by omega, by go_num, gPD.out⟩
        case measure => simp [intOf]; omega
    · obtain rfl : j = m := by omega
      rcases gI.out with ⟨rfl, rfl, hlow⟩ | ⟨P, R, n, L, rfl, rfl, hT⟩
      · have glow0 := Lib.hid hlow
        clear hlow
        go_wp2_with fail
        refine (rall_nil _).mono ?_
        rintro e _ ⟨rfl, rfl⟩
        go_wp2_with fail
        obtain ⟨z, hz⟩ : ∃ z, z = wr.heap.size := ⟨_, rfl⟩
        obtain ⟨V, hV⟩ : ∃ V, V = (wr.alloc (.cells #[.slice none 0 0] 41)).alloc (.cells #[.slice none 0 0] 42) := ⟨_, rfl⟩
        have hVz : V.heap.size = z + 2 := by rw [hV, hz]; simp
        have hVB : Below z wr V := by rw [hV, hz]; exact ((Below.refl _ wr).alloc (Nat.le_refl _) _).alloc (by simp) _
        have bX : Boxed V z 41 (.slice none 0 0) := by rw [hV, hz]; exact (Boxed.new wr 41 _).alloc _
        rw [← hV, ← hz]
        have gX := Lib.hid bX
        have gVB := Lib.hid hVB
        have gVz := Lib.hid hVz
        have gz := Lib.hid hz
        clear hV hVz hVB bX hz
        refine (all_any _ _).mono ?_
        rintro e w5 ⟨rfl, hw5⟩
        obtain ⟨lo, hlo⟩ : ∃ lo, lo = z + 3 := ⟨_, rfl⟩
        have hz4 : (V.alloc (.cells #[.int .i64 0] 3)).heap.size = lo := by rw [World.size_alloc, gVz.out, hlo]
        have bM : Boxed w5 lo 24 (.pointer none) := by rw [hw5, ← hz4]; exact Boxed.new _ 24 _
        have bN : Boxed w5 (z + 2) 3 (.int .i64 ((([] : List It).length : Nat) : Int)) := by
          rw [hw5]
          have h := Boxed.new V 3 (.int .i64 0)
          rw [gVz.out] at h
          exact h.alloc _
        have hB5 : Below (z + 2) V w5 := by rw [hw5]; exact ((Below.refl _ V).alloc (by rw [gVz.out]; exact Nat.le_refl _) _).alloc (by rw [hz4]; omega) _
        have hz5 : w5.heap.size = lo + 1 := by rw [hw5, World.size_alloc, hz4]
        rw [hz4]
        have gN := Lib.hid bN
        have gM5 := Lib.hid bM
        have gB5 := Lib.hid hB5
        have gz5 := Lib.hid hz5
        have glo := Lib.hid hlo
        clear hw5 hz4 bM bN hB5 hz5 hlo
        go_wp2_with fail
        refine (yields_any _ _ _).mono ?_
        rintro e _ ⟨rfl, rfl⟩
        go_wp2_with fail
        rename_i K1 hK1
        have q0 : z + 2 ≤ V.heap.size := by rw [gVz.out]; exact Nat.le_refl _
        have q1 : z + 2 ≤ w5.heap.size := by rw [gz5.out, glo.out]; omega
        have hseq := none_turns 5 lo w5 gM5.out.cell
        have g0z := Lib.hid (show W0.heap.size ≤ z by rw [gz.out]; exact glow0.out.size)
        refine (wpIn_wide (n := 6)).1 ?_
        refine range_turns (by omega) (gf := 69) (lb := #[.pointer (some ⟨lo, 0, none⟩)]) rfl (enters_of Try.func69 (by kernel_rfl) rfl) hseq (fun _ => rfl)
          (fun (pre : List It) U => Boxed U (z + 2) 3 (.int .i64 (pre.length : Nat)) ∧ Below (z + 2) V U)
          (fun _ (_ : List It) _ => False)
          ((abid_box _ (z + 2) 3 (fun pre : List It => .int .i64 (pre.length : Nat)) (by decide)).and (abid_below q0 q1))
          (fun _ => abid_false _)
          ⟨gN.out, gB5.out⟩
          ?b1 ?assign2 ?body2 ?done2 ?stop2
        case assign2 =>
          intro l x U K hK
          unfold encs
          gi_wp2
          exact hK
        case stop2 =>
          intro D2 c pre U _ hp hn _
          exact hn.elim
        case body2 =>
          intro l' pre x U _ h _
          exact absurd h (Nat.not_lt_zero _)
        case done2 =>
          rintro D2 ys U hD2 rfl ⟨hi, hBU⟩ hKU
          refine hK1 _ _ ?_
          clear hK1 K1
          have c7 := (show Boxed U z 41 (.slice none 0 0) from (hBU.block _ (by omega)).trans gX.out).cell
          have hW0R : w.heap.size < W0.heap.size := by rw [gZ0.out]; omega
          have hR : Boxed U w.heap.size 4 (.bool false) := ((hBU.block _ (by have := g0z.out; omega)).trans ((gVB.out.block _ (by have := g0z.out; omega)).trans ((glow0.out.block _ hW0R).trans gR0.out)))
          have gRU := Lib.hid hR
          have k1 := hi.cell
          have gBU := Lib.hid hBU
          have gKU := Lib.hid hKU
          have gD2 := Lib.hid hD2
          have gbel := Lib.hid (show Below w.heap.size w U by
            have h1 := gB0.out.trans (glow0.out.mono gB0.out.size)
            have h2 := h1.trans (gVB.out.mono (by rw [gz.out]; exact h1.size))
            exact h2.trans (hBU.mono (by have := g0z.out; omega)))
          clear hi hBU hKU hD2 hseq q0 q1 hR hW0R
          go_wp2_with fail
          refine (works_any _).mono ?_
          rintro e w9 ⟨rfl, hB9⟩
          have hRW : Boxed w9 w.heap.size 4 (.bool false) := (hB9.block _ (lt_of_heap gRU.out)).trans gRU.out
          have r1 := hRW.cell
          have r2 := hRW.frozen
          have gB9 := Lib.hid hB9
          have gRW := Lib.hid hRW
          clear hB9 hRW
          go_wp2_with fail
          gi_wp2_with fail
          have hDne : D2 ≠ w.heap.size := by have h1 := gD2.out; have h2 := gz5.out; have h3 := glo.out; have h4 := g0z.out; have h5 := gZ0.out; omega
          have s2 : (w9.setCell ⟨w.heap.size, 0, none⟩ (.bool true)).heap[D2]? = some (.deferred (some [])) := (Below.heap_setCell _ _ _ D2 hDne).trans ((gB9.out.block _ (lt_of_heap gKU.out)).trans gKU.out)
          have hend : Below w.heap.size w ((w9.setCell ⟨w.heap.size, 0, none⟩ (.bool true)).putObj D2 (.deferred none)) :=
            ((gbel.out.trans (gB9.out.mono gbel.out.size)).setCell (Nat.le_refl _) _).trans (belowK_b (w := w) (Nat.le_refl _) _ D2 _ _ (by have h1 := gD2.out; have h2 := gz5.out; have h3 := glo.out; have h4 := g0z.out; have h5 := gZ0.out; omega) s2 rfl rfl)
          have gRF := Boxed.cell (show Boxed ((w9.setCell ⟨w.heap.size, 0, none⟩ (.bool true)).putObj D2 (.deferred none)) w.heap.size 4 (.bool true) from (World.putObj_heap_other hDne.symm).trans (gRW.out.set _))
          refine ⟨by simp, .inl ⟨_, _, rfl, run_takeDeferred s2, ?_⟩⟩
          refine ⟨.bool true, ?_, rfl, hend⟩
          clear hend s2
          simp [results, Try.results3, go_sem, gRF]
      · have gQ := Lib.hid hT
        clear hT
        obtain ⟨T, hT1, hT2⟩ := rising_of iord _ gQ.out.1.nodup
        have gT := Lib.hid (And.intro hT1 hT2)
        obtain ⟨bI, cI, bP, cP, hr⟩ := gQ.out.2
        have gr := Lib.hid (rall hr T hT1 hT2)
        have hlen : T.length ≤ 1024 := by
          rw [hT2.length_eq, marked_len]
          exact Nat.le_trans List.countP_le_length (by rw [hr.len]; exact hr.top)
        clear hr hT1 hT2
        go_wp2_with fail
        refine gr.out.mono ?_
        rintro e w3 ⟨vi, vo, rfl, hi, ho, hb3⟩
        obtain ⟨Ai, ci, rfl⟩ := own_slice hi
        obtain ⟨Ao, co, rfl⟩ := own_slice ho
        have gi := Lib.hid hi
        have go := Lib.hid ho
        have gb3 := Lib.hid hb3
        clear hi ho hb3
        go_wp2_with fail
        obtain ⟨z, hz⟩ : ∃ z, z = w3.heap.size := ⟨_, rfl⟩
        obtain ⟨V, hV⟩ : ∃ V, V = (w3.alloc (.cells #[.slice Ai T.length ci] 41)).alloc (.cells #[.slice Ao T.length co] 42) := ⟨_, rfl⟩
        have hVz : V.heap.size = z + 2 := by rw [hV, hz]; simp
        have hVB : Below z w3 V := by rw [hV, hz]; exact ((Below.refl _ w3).alloc (Nat.le_refl _) _).alloc (by simp) _
        have bX : Boxed V z 41 (.slice Ai T.length ci) := by rw [hV, hz]; exact (Boxed.new w3 41 _).alloc _
        have bY : Boxed V (z + 1) 42 (.slice Ao T.length co) := by
          rw [hV, hz]
          have h := Boxed.new (w3.alloc (.cells #[.slice Ai T.length ci] 41)) 42 (.slice Ao T.length co)
          rwa [World.size_alloc] at h
        rw [← hV, ← hz]
        have gX := Lib.hid bX
        have gY := Lib.hid bY
        have gVB := Lib.hid hVB
        have gVz := Lib.hid hVz
        have gz := Lib.hid hz
        clear hV hVz hVB bX bY hz
        refine (all_any _ _).mono ?_
        rintro e w5 ⟨rfl, hw5⟩
        obtain ⟨lo, hlo⟩ : ∃ lo, lo = z + 3 := ⟨_, rfl⟩
        have hz4 : (V.alloc (.cells #[.int .i64 0] 3)).heap.size = lo := by rw [World.size_alloc, gVz.out, hlo]
        have bM : Boxed w5 lo 24 (.pointer (some ⟨P, 0, none⟩)) := by rw [hw5, ← hz4]; exact Boxed.new _ 24 _
        have bN : Boxed w5 (z + 2) 3 (.int .i64 ((([] : List It).length : Nat) : Int)) := by
          rw [hw5]
          have h := Boxed.new V 3 (.int .i64 0)
          rw [gVz.out] at h
          exact h.alloc _
        have hB5 : Below (z + 2) V w5 := by rw [hw5]; exact ((Below.refl _ V).alloc (by rw [gVz.out]; exact Nat.le_refl _) _).alloc (by rw [hz4]; omega) _
        have hz5 : w5.heap.size = lo + 1 := by rw [hw5, World.size_alloc, hz4]
        rw [hz4]
        have gN := Lib.hid bN
        have gM5 := Lib.hid bM
        have gB5 := Lib.hid hB5
        have gz5 := Lib.hid hz5
        have glo := Lib.hid hlo
        clear hw5 hz4 bM bN hB5 hz5 hlo
        go_wp2_with fail
        refine (yields_any _ _ _).mono ?_
        rintro e _ ⟨rfl, rfl⟩
        go_wp2_with fail
        rename_i K1 hK1
        have q0 : z + 2 ≤ V.heap.size := by rw [gVz.out]; exact Nat.le_refl _
        have q1 : z + 2 ≤ w5.heap.size := by rw [gz5.out, glo.out]; omega
        have hlow : Below W0.heap.size W0 w3 := gI.out.low.trans (gb3.out.mono gI.out.low.size)
        have h0z : W0.heap.size ≤ z := by rw [gz.out]; exact hlow.size
        have hB35 : Below w3.heap.size w3 w5 := by
          have h := gVB.out
          rw [gz.out] at h
          exact h.trans (gB5.out.mono (by rw [gz.out]; omega))
        have hBr5 : Below wr.heap.size wr w5 := gb3.out.trans (hB35.mono gb3.out.size)
        have hseq := all_turns 5 lo P n W0 w5 _ T gM5.out.cell (gQ.out.1.below hBr5) gT.out.1 gT.out.2
        have glow := Lib.hid hlow
        have g0z := Lib.hid h0z
        clear hlow h0z hB35 hBr5
        refine (wpIn_wide (n := 6)).1 ?_
        refine range_turns (by omega) (gf := 69) (lb := #[.pointer (some ⟨lo, 0, none⟩)]) rfl (enters_of Try.func69 (by kernel_rfl) rfl) hseq (fun _ => rfl)
          (fun (pre : List It) U => Boxed U (z + 2) 3 (.int .i64 (pre.length : Nat)) ∧ Below (z + 2) V U)
          (fun _ (pre : List It) _ => ¬ pre <+: T)
          ((abid_box _ (z + 2) 3 (fun pre : List It => .int .i64 (pre.length : Nat)) (by decide)).and (abid_below q0 q1))
          (fun _ => abid_prop _ _)
          ⟨gN.out, gB5.out⟩
          ?a1 ?assign ?body ?done ?stop
        case assign =>
          intro l x U K hK
          unfold encs
          gi_wp2
          exact hK
        case stop =>
          intro D2 c pre U _ hp hn _
          exact absurd hp hn
        case body =>
          rintro l' pre x U ⟨hi, hBU⟩ hltT hUs
          have c7 := (show Boxed U z 41 (.slice Ai T.length ci) from (hBU.block _ (by omega)).trans gX.out).cell
          have c8 := (show Boxed U (z + 1) 42 (.slice Ao T.length co) from (hBU.block _ (by omega)).trans gY.out).cell
          have hW0R : w.heap.size < W0.heap.size := by rw [gZ0.out]; omega
          have hR : Boxed U w.heap.size 4 (.bool false) := ((hBU.block _ (by have := g0z.out; omega)).trans ((gVB.out.block _ (by have := g0z.out; omega)).trans ((glow.out.block _ hW0R).trans gR0.out)))
          have r1 := hR.cell
          have r2 := hR.frozen
          have k1 := hi.cell
          have k2 := hi.frozen
          have gi2 := Lib.hid hi
          have gBU := Lib.hid hBU
          obtain ⟨b7, rfl, hb7, hl7, hg7⟩ := own_split gi.out (by omega)
          obtain ⟨b8, rfl, hb8, hl8, hg8⟩ := own_split go.out (by omega)
          obtain ⟨y, hy⟩ : ∃ y, T[pre.length]? = some y := ⟨_, List.getElem?_eq_getElem hltT⟩
          have hU3 : ∀ k, k < z → U.heap[k]? = w3.heap[k]? := fun k hk => (hBU.block k (by omega)).trans (gVB.out.block k hk)
          have d7 := hg7 U (hU3 _ (by rw [gz.out]; exact hl7)) pre.length (.int .i64 (y.1 : Nat)) (by rw [List.getElem?_map, hy]; rfl)
          have d8 := hg8 U (hU3 _ (by rw [gz.out]; exact hl8)) pre.length (.int .i64 y.2) (by rw [List.getElem?_map, hy]; rfl)
          have gy := Lib.hid hy
          have hk' : (pre.length : Int) < (T.length : Int) := by omega
          have hlen' : pre.length < 1024 := by omega
          clear hi hBU hR hseq q0 q1 hUs hU3 hg7 hg8 hy
          by_cases e1 : y.1 = x.1
          · have hne : (((y.1 : Nat) : Int) != ((x.1 : Nat) : Int)) = false := by rw [e1]; simp
            rw [e1] at d7
            by_cases e2 : y.2 = x.2
            · rw [e2] at d8
              clear e1 e2 hne
              gi_wp2_with fail
              exact ⟨⟨(KeepsOthers.setCell _ _ _).from _, spares_box gi2.out (by decide) _⟩, by simpa using gi2.out.set (.int .i64 ((pre.length : Int) + 1)), gBU.out.setCell (Nat.le_refl _) _⟩
            · have gn := Lib.hid (not_prefix gy.out (fun e => e2 (by rw [e])))
              have e3 : (y.2 != x.2) = true := by simpa using e2
              clear e1 hne
              gi_wp2_with fail
              exact ⟨(KeepsOthers.setCell _ _ _).from _, gn.out⟩
          · have e2 : ¬ ((y.1 : Nat) : Int) = ((x.1 : Nat) : Int) := by omega
            have gn := Lib.hid (not_prefix gy.out (fun e => e1 (by rw [e])))
            clear e1
            gi_wp2_with fail
            exact ⟨(KeepsOthers.setCell _ _ _).from _, gn.out⟩
        case done =>
          rintro D2 ys U hD2 rfl ⟨hi, hBU⟩ hKU
          refine hK1 _ _ ?_
          clear hK1 K1
          have c7 := (show Boxed U z 41 (.slice Ai ys.length ci) from (hBU.block _ (by omega)).trans gX.out).cell
          have hW0R : w.heap.size < W0.heap.size := by rw [gZ0.out]; omega
          have hR : Boxed U w.heap.size 4 (.bool false) := ((hBU.block _ (by have := g0z.out; omega)).trans ((gVB.out.block _ (by have := g0z.out; omega)).trans ((glow.out.block _ hW0R).trans gR0.out)))
          have gRU := Lib.hid hR
          have k1 := hi.cell
          have gBU := Lib.hid hBU
          have gKU := Lib.hid hKU
          have gD2 := Lib.hid hD2
          have gbel := Lib.hid (show Below w.heap.size w U by
            have h1 := gB0.out.trans (glow.out.mono gB0.out.size)
            have h2 := h1.trans (gVB.out.mono (by rw [gz.out]; exact h1.size))
            exact h2.trans (hBU.mono (by have := g0z.out; omega)))
          clear hi hBU hKU hD2 hseq q0 q1 hR hW0R
          go_wp2_with fail
          refine (works_any _).mono ?_
          rintro e w9 ⟨rfl, hB9⟩
          have hRW : Boxed w9 w.heap.size 4 (.bool false) := (hB9.block _ (lt_of_heap gRU.out)).trans gRU.out
          have r1 := hRW.cell
          have r2 := hRW.frozen
          have gB9 := Lib.hid hB9
          have gRW := Lib.hid hRW
          clear hB9 hRW
          go_wp2_with fail
          gi_wp2_with fail
          have hDne : D2 ≠ w.heap.size := by have h1 := gD2.out; have h2 := gz5.out; have h3 := glo.out; have h4 := g0z.out; have h5 := gZ0.out; omega
          have s2 : (w9.setCell ⟨w.heap.size, 0, none⟩ (.bool true)).heap[D2]? = some (.deferred (some [])) := (Below.heap_setCell _ _ _ D2 hDne).trans ((gB9.out.block _ (lt_of_heap gKU.out)).trans gKU.out)
          have hend : Below w.heap.size w ((w9.setCell ⟨w.heap.size, 0, none⟩ (.bool true)).putObj D2 (.deferred none)) :=
            ((gbel.out.trans (gB9.out.mono gbel.out.size)).setCell (Nat.le_refl _) _).trans (belowK_b (w := w) (Nat.le_refl _) _ D2 _ _ (by have h1 := gD2.out; have h2 := gz5.out; have h3 := glo.out; have h4 := g0z.out; have h5 := gZ0.out; omega) s2 rfl rfl)
          have gRF := Boxed.cell (show Boxed ((w9.setCell ⟨w.heap.size, 0, none⟩ (.bool true)).putObj D2 (.deferred none)) w.heap.size 4 (.bool true) from (World.putObj_heap_other hDne.symm).trans (gRW.out.set _))
          refine ⟨by simp, .inl ⟨_, _, rfl, run_takeDeferred s2, ?_⟩⟩
          refine ⟨.bool true, ?_, rfl, hend⟩
          clear hend s2
          simp [results, Try.results3, go_sem, gRF]
set_option maxRecDepth 1000000 in
set_option maxHeartbeats 16000000 in
theorem plays_large (s : Int) (A : Option Addr) (m cap : Nat) (ts : List Stp) (id : Int) (w : World) (h : StS w A m ts) (hcap : m ≤ cap ∧ cap ≤ 9223372036854775807) (hs : ¬ s ≤ 40 ∧ ¬ s ≤ 1024) (hm6 : m ≤ 150) :
    Calls Try.prog 3 #[.int .i64 s, .slice A m cap, .int .i64 id] w fun e w' => e = .returned (.bool true) ∧ Below w.heap.size w w' := by
  have gS := Lib.hid h
  clear h
  refine (callsIn_wide (n := 6)).1 ?_
  refine callsIn_of_wp_marks Try.func3 rfl trivial ?_ rfl
  simp only [Try.ntmps3, List.size_toArray, List.length_cons, List.length_nil, Nat.reduceAdd, Nat.reduceSub, Array.replicate_succ, Array.replicate_zero, List.push_toArray, List.append_toArray, List.nil_append, List.cons_append]
  have hm' : ¬ (150 : Int) < (m : Int) := by omega
  refine wpIn_wide.2 ?_
  obtain ⟨W0, hW0⟩ : ∃ W0, W0 = w.alloc (.cells #[.bool false] 4) := ⟨_, rfl⟩
  have hB0 : Below w.heap.size w W0 := by rw [hW0]; exact (Below.refl _ w).alloc (Nat.le_refl _) _
  have hR0 : Boxed W0 w.heap.size 4 (.bool false) := by rw [hW0]; exact Boxed.new w 4 _
  have hZ0 : W0.heap.size = w.heap.size + 1 := by rw [hW0]; simp
  obtain ⟨q, v, M, hqv, k1, k2⟩ := pl_new W0 s
  have g1 := Lib.hid k1
  have g2 := Lib.hid k2
  have gq := Lib.hid hqv
  have gB0 := Lib.hid hB0
  have gR0 := Lib.hid hR0
  have gZ0 := Lib.hid hZ0
  clear k1 k2 hqv hB0 hR0 hZ0
  go_wp2_with fail
  rw [← hW0]
  clear hW0
  refine g1.out.mono ?_
  rintro e w1 ⟨rfl, hM⟩
  have gM := Lib.hid hM
  clear hM
  go_wp2_with fail
  refine (g2.out w1 gM.out).mono ?_
  rintro e w2 ⟨r, rfl, hqr, hP⟩
  have gP := Lib.hid hP
  obtain ⟨b, hb1, hb2, hb3, hb4⟩ : ∃ b : Bool, (∀ W, (binOp .eql 24 q (.pointer none)).run Try.prog W = .ok (.bool b) W) ∧ (∀ W, (binOp .eql 28 r (.pointer none)).run Try.prog W = .ok (.bool b) W) ∧ (∀ W x y, (eqGuard .eql 24 x y q (.pointer none)).run Try.prog W = .ok () W) ∧ (∀ W x y, (eqGuard .eql 28 x y r (.pointer none)).run Try.prog W = .ok () W) := by
    rcases hqr with ⟨rfl, rfl⟩ | ⟨⟨a, rfl⟩, a', rfl⟩
    · exact ⟨true, fun W => by simp [go_sem, Try.underlying24], fun W => by simp [go_sem, Try.underlying28], fun W x y => by simp [eqGuard, go_sem], fun W x y => by simp [eqGuard, go_sem]⟩
    · exact ⟨false, fun W => by simp [go_sem, Try.underlying24], fun W => eq_none28 a' W, fun W x y => by simp [eqGuard, go_sem], fun W x y => by simp [eqGuard, go_sem]⟩
  clear hP hqr
  go_wp2_with fail
  clear hb1 hb2 hb3 hb4
  go_loopw [7, 9, 11] (fun q r i wr => ∃ j : Nat, j ≤ m ∧ i = .int .i64 j ∧ Hid (Pl W0 wr q r)) (fun _ _ i _ => m - (intOf i).toNat)
  case atStart => exact ⟨0, Nat.zero_le _, rfl, gP.out⟩
  case round =>
    obtain ⟨j, hj, rfl, gI⟩ := hrel
    by_cases hlt : j < m
    · have gSr := Lib.hid ((gS.out.below gB0.out).below gI.out.low)
      obtain ⟨b0, o0, rfl, hbl, hcs⟩ := gSr.out.2 (by omega)
      obtain ⟨⟨d, i, p⟩, ht⟩ : ∃ t, ts[j]? = some t := ⟨_, List.getElem?_eq_getElem (by rw [gS.out.1]; exact hlt)⟩
      obtain ⟨e1, e2, e3⟩ := hcs j _ ht
      have hlt' : (j : Int) < (m : Int) := by omega
      obtain ⟨V, hV⟩ : ∃ V, V = wr.alloc (.cells #[.int .i64 d, .int .i64 i, .int .i64 p] 32) := ⟨_, rfl⟩
      have hVB : Below wr.heap.size wr V := by rw [hV]; exact (Below.refl _ wr).alloc (Nat.le_refl _) _
      have hVk : V.heap[wr.heap.size]? = some (.cells #[.int .i64 d, .int .i64 i, .int .i64 p] 32 (0, 0)) := by rw [hV]; exact World.alloc_heap_new wr _
      have gV := Lib.hid (gI.out.below hVB)
      have gVk := Lib.hid hVk
      clear hcs ht hVB hVk
      rcases (show d = 0 ∨ d = 1 ∨ d = 2 ∨ d = 3 ∨ d = 4 ∨ ((d == 0) = false ∧ (d == 1) = false ∧ (d == 2) = false ∧ (d == 3) = false ∧ (d == 4) = false) by simp; omega) with rfl | rfl | rfl | rfl | rfl | ⟨d0, d1, d2, d3, d4⟩
      · go_wp2_with fail
        rw [← hV]
        clear hV
        obtain ⟨v1, M1, k1, k2⟩ := pl_push (gV.out.below (Below.refl _ V).drew) i p
        have c12 := step_cells gVk.out
        have c1 := c12.1
        have c2 := c12.2
        have gA := Lib.hid k1
        have gB := Lib.hid k2
        clear k1 k2 c12
        go_region_held3 (fun w' => w'.cell? ⟨wr.heap.size, 1, none⟩ = some (.int .i64 i) ∧ w'.cell? ⟨wr.heap.size, 2, none⟩ = some (.int .i64 p)) (first | go_keep | exact ⟨c1, c2⟩ | exact step_cells (by assumption))
          (first
          | (go_at_call 14; refine gA.out.mono ?_; rintro e wA ⟨rfl, hMA, hKA⟩; have hkA := hKA _ _ _ gVk.out; have gMA := Lib.hid hMA; clear hMA hKA)
          | (go_at_call 15; refine (gB.out _ gMA.out).mono ?_; rintro e wB ⟨rfl, hPB, hKB⟩; have hkB := hKB _ _ _ hkA; have gPB := Lib.hid hPB; clear hPB hKB))
        go_wp2_with fail
        refine (alike_any gPB.out id).mono ?_
        rintro e wC ⟨rfl, hC⟩
        have gPC := Lib.hid (gPB.out.below hC)
        have cC := (step_cells ((hC.block _ (lt_of_heap hkB)).trans hkB)).1
        clear hC
        go_wp2_with fail
        refine (alike_any gPC.out i).mono ?_
        rintro e wD ⟨rfl, hD⟩
        have gPD := Lib.hid (gPC.out.below hD)
        clear hD
        go_wp2_with fail
        go_roundw
        case rel => exact ⟨j + 1, by omega, by go_num, gPD.out⟩
        case measure => simp [intOf]; omega
      · go_wp2_with fail
        rw [← hV]
        clear hV
        obtain ⟨v1, M1, k1, k2⟩ := pl_change (gV.out.below (Below.refl _ V).drew) i p
        have c12 := step_cells gVk.out
        have c1 := c12.1
        have c2 := c12.2
        have gA := Lib.hid k1
        have gB := Lib.hid k2
        clear k1 k2 c12
        go_region_held3 (fun w' => w'.cell? ⟨wr.heap.size, 1, none⟩ = some (.int .i64 i) ∧ w'.cell? ⟨wr.heap.size, 2, none⟩ = some (.int .i64 p)) (first | go_keep | exact ⟨c1, c2⟩ | exact step_cells (by assumption))
          (first
          | (go_at_call 16; refine gA.out.mono ?_; rintro e wA ⟨rfl, hMA, hKA⟩; have hkA := hKA _ _ _ gVk.out; have gMA := Lib.hid hMA; clear hMA hKA)
          | (go_at_call 17; refine (gB.out _ gMA.out).mono ?_; rintro e wB ⟨rfl, hPB, hKB⟩; have hkB := hKB _ _ _ hkA; have gPB := Lib.hid hPB; clear hPB hKB))
        go_wp2_with fail
        refine (alike_any gPB.out id).mono ?_
        rintro e wC ⟨rfl, hC⟩
        have gPC := Lib.hid (gPB.out.below hC)
        have cC := (step_cells ((hC.block _ (lt_of_heap hkB)).trans hkB)).1
        clear hC
        go_wp2_with fail
        refine (alike_any gPC.out i).mono ?_
        rintro e wD ⟨rfl, hD⟩
        have gPD := Lib.hid (gPC.out.below hD)
        clear hD
        go_wp2_with fail
        go_roundw
        case rel => exact ⟨j + 1, by omega, by go_num, gPD.out⟩
        case measure => simp [intOf]; omega
      · go_wp2_with fail
        rw [← hV]
        clear hV
        obtain ⟨v1, b1, M1, k1, k2⟩ := pl_remove gV.out i
        have gA := Lib.hid k1
        have gB := Lib.hid k2
        clear k1 k2
        refine gA.out.mono ?_
        rintro e wA ⟨rfl, hMA, hKA⟩
        have hkA := hKA _ _ _ gVk.out
        have cA := (step_cells hkA).1
        have gMA := Lib.hid hMA
        clear hMA hKA
        go_wp2_with fail
        refine (gB.out _ gMA.out).mono ?_
        rintro e wB ⟨rfl, hPB, hKB⟩
        have hkB := hKB _ _ _ hkA
        have gPB := Lib.hid hPB
        clear hPB hKB
        go_wp2_with fail
        refine (alike_any gPB.out id).mono ?_
        rintro e wC ⟨rfl, hC⟩
        have gPC := Lib.hid (gPB.out.below hC)
        have cC := (step_cells ((hC.block _ (lt_of_heap hkB)).trans hkB)).1
        clear hC
        go_wp2_with fail
        refine (alike_any gPC.out i).mono ?_
        rintro e wD ⟨rfl, hD⟩
        have gPD := Lib.hid (gPC.out.below hD)
        clear hD
        go_wp2_with fail
        go_roundw
        case rel => exact ⟨j + 1, by omega, by go_num, gPD.out⟩
        case measure => simp [intOf]; omega
      · go_wp2_with fail
        rw [← hV]
        clear hV
        obtain ⟨i1, v1, b1, M1, k1, k2⟩ := pl_pop gV.out
        have gA := Lib.hid k1
        have gB := Lib.hid k2
        clear k1 k2
        refine gA.out.mono ?_
        rintro e wA ⟨rfl, hMA, hKA⟩
        have hkA := hKA _ _ _ gVk.out
        have cA := (step_cells hkA).1
        have gMA := Lib.hid hMA
        clear hMA hKA
        go_wp2_with fail
        refine (gB.out _ gMA.out).mono ?_
        rintro e wB ⟨rfl, hPB, hKB⟩
        have hkB := hKB _ _ _ hkA
        have gPB := Lib.hid hPB
        clear hPB hKB
        go_wp2_with fail
        refine (alike_any gPB.out id).mono ?_
        rintro e wC ⟨rfl, hC⟩
        have gPC := Lib.hid (gPB.out.below hC)
        have cC := (step_cells ((hC.block _ (lt_of_heap hkB)).trans hkB)).1
        clear hC
        go_wp2_with fail
        refine (alike_any gPC.out i).mono ?_
        rintro e wD ⟨rfl, hD⟩
        have gPD := Lib.hid (gPC.out.below hD)
        clear hD
        go_wp2_with fail
        go_roundw
        case rel => exact ⟨j + 1, by omega, by go_num, gPD.out⟩
        case measure => simp [intOf]; omega
      · go_wp2_with fail
        rw [← hV]
        clear hV
        obtain ⟨q', M1, k1, k2⟩ := pl_copy gV.out
        have gA := Lib.hid k1
        have gB := Lib.hid k2
        clear k1 k2
        refine gA.out.mono ?_
        rintro e wA ⟨rfl, hMA, hKA⟩
        have hkA := hKA _ _ _ gVk.out
        have gMA := Lib.hid hMA
        clear hMA hKA
        go_wp2_with fail
        refine (gB.out _ gMA.out).mono ?_
        rintro e wB ⟨r', rfl, hPB, hKB⟩
        have hkB := hKB _ _ _ hkA
        have gPB := Lib.hid hPB
        clear hPB hKB
        go_wp2_with fail
        refine (alike_any gPB.out id).mono ?_
        rintro e wC ⟨rfl, hC⟩
        have gPC := Lib.hid (gPB.out.below hC)
        have cC := (step_cells ((hC.block _ (lt_of_heap hkB)).trans hkB)).1
        clear hC
        go_wp2_with fail
        refine (alike_any gPC.out i).mono ?_
        rintro e wD ⟨rfl, hD⟩
        have gPD := Lib.hid (gPC.out.below hD)
        clear hD
        go_wp2_with fail
        go_roundw
        case rel => exact ⟨j + 1, by omega, by go_num, gPD.out⟩
        case measure => simp [intOf]; omega
      · go_wp2_with fail
        rw [← hV]
        clear hV
        have hkB := gVk.out
        refine (alike_any gV.out id).mono ?_
        rintro e wC ⟨rfl, hC⟩
        have gPC := Lib.hid (gV.out.below hC)
        have cC := (step_cells ((hC.block _ (lt_of_heap hkB)).trans hkB)).1
        clear hC
        go_wp2_with fail
        refine (alike_any gPC.out i).mono ?_
        rintro e wD ⟨rfl, hD⟩
        have gPD := Lib.hid (gPC.out.below hD)
        clear hD
        go_wp2_with fail
        go_roundw
        case rel => exact ⟨j + 1, by omega, by go_num, gPD.out⟩
        case measure => simp [intOf]; omega
    · obtain rfl : j = m := by omega
      rcases gI.out with ⟨rfl, rfl, hlow⟩ | ⟨P, R, n, L, rfl, rfl, hT⟩
      · have glow0 := Lib.hid hlow
        clear hlow
        go_wp2_with fail
        refine (rall_nil _).mono ?_
        rintro e _ ⟨rfl, rfl⟩
        go_wp2_with fail
        obtain ⟨z, hz⟩ : ∃ z, z = wr.heap.size := ⟨_, rfl⟩
        obtain ⟨V, hV⟩ : ∃ V, V = (wr.alloc (.cells #[.slice none 0 0] 41)).alloc (.cells #[.slice none 0 0] 42) := ⟨_, rfl⟩
        have hVz : V.heap.size = z + 2 := by rw [hV, hz]; simp
        have hVB : Below z wr V := by rw [hV, hz]; exact ((Below.refl _ wr).alloc (Nat.le_refl _) _).alloc (by simp) _
        have bX : Boxed V z 41 (.slice none 0 0) := by rw [hV, hz]; exact (Boxed.new wr 41 _).alloc _
        rw [← hV, ← hz]
        have gX := Lib.hid bX
        have gVB := Lib.hid hVB
        have gVz := Lib.hid hVz
        have gz := Lib.hid hz
        clear hV hVz hVB bX hz
        refine (all_any _ _).mono ?_
        rintro e w5 ⟨rfl, hw5⟩
        obtain ⟨lo, hlo⟩ : ∃ lo, lo = z + 3 := ⟨_, rfl⟩
        have hz4 : (V.alloc (.cells #[.int .i64 0] 3)).heap.size = lo := by rw [World.size_alloc, gVz.out, hlo]
        have bM : Boxed w5 lo 24 (.pointer none) := by rw [hw5, ← hz4]; exact Boxed.new _ 24 _
        have bN : Boxed w5 (z + 2) 3 (.int .i64 ((([] : List It).length : Nat) : Int)) := by
          rw [hw5]
          have h := Boxed.new V 3 (.int .i64 0)
          rw [gVz.out] at h
          exact h.alloc _
        have hB5 : Below (z + 2) V w5 := by rw [hw5]; exact ((Below.refl _ V).alloc (by rw [gVz.out]; exact Nat.le_refl _) _).alloc (by rw [hz4]; omega) _
        have hz5 : w5.heap.size = lo + 1 := by rw [hw5, World.size_alloc, hz4]
        rw [hz4]
        have gN := Lib.hid bN
        have gM5 := Lib.hid bM
        have gB5 := Lib.hid hB5
        have gz5 := Lib.hid hz5
        have glo := Lib.hid hlo
        clear hw5 hz4 bM bN hB5 hz5 hlo
        go_wp2_with fail
        refine (yields_any _ _ _).mono ?_
        rintro e _ ⟨rfl, rfl⟩
        go_wp2_with fail
        rename_i K1 hK1
        have q0 : z + 2 ≤ V.heap.size := by rw [gVz.out]; exact Nat.le_refl _
        have q1 : z + 2 ≤ w5.heap.size := by rw [gz5.out, glo.out]; omega
        have hseq := none_turns 5 lo w5 gM5.out.cell
        have g0z := Lib.hid (show W0.heap.size ≤ z by rw [gz.out]; exact glow0.out.size)
        refine (wpIn_wide (n := 6)).1 ?_
        refine range_turns (by omega) (gf := 69) (lb := #[.pointer (some ⟨lo, 0, none⟩)]) rfl (enters_of Try.func69 (by kernel_rfl) rfl) hseq (fun _ => rfl)
          (fun (pre : List It) U => Boxed U (z + 2) 3 (.int .i64 (pre.length : Nat)) ∧ Below (z + 2) V U)
          (fun _ (_ : List It) _ => False)
          ((abid_box _ (z + 2) 3 (fun pre : List It => .int .i64 (pre.length : Nat)) (by decide)).and (abid_below q0 q1))
          (fun _ => abid_false _)
          ⟨gN.out, gB5.out⟩
          ?b1 ?assign2 ?body2 ?done2 ?stop2
        case assign2 =>
          intro l x U K hK
          unfold encs
          gi_wp2
          exact hK
        case stop2 =>
          intro D2 c pre U _ hp hn _
          exact hn.elim
        case body2 =>
          intro l' pre x U _ h _
          exact absurd h (Nat.not_lt_zero _)
        case done2 =>
          rintro D2 ys U hD2 rfl ⟨hi, hBU⟩ hKU
          refine hK1 _ _ ?_
          clear hK1 K1
          have c7 := (show Boxed U z 41 (.slice none 0 0) from (hBU.block _ (by omega)).trans gX.out).cell
          have hW0R : w.heap.size < W0.heap.size := by rw [gZ0.out]; omega
          have hR : Boxed U w.heap.size 4 (.bool false) := ((hBU.block _ (by have := g0z.out; omega)).trans ((gVB.out.block _ (by have := g0z.out; omega)).trans ((glow0.out.block _ hW0R).trans gR0.out)))
          have gRU := Lib.hid hR
          have k1 := hi.cell
          have gBU := Lib.hid hBU
          have gKU := Lib.hid hKU
          have gD2 := Lib.hid hD2
          have gbel := Lib.hid (show Below w.heap.size w U by
            have h1 := gB0.out.trans (glow0.out.mono gB0.out.size)
            have h2 := h1.trans (gVB.out.mono (by rw [gz.out]; exact h1.size))
            exact h2.trans (hBU.mono (by have := g0z.out; omega)))
          clear hi hBU hKU hD2 hseq q0 q1 hR hW0R
          go_wp2_with fail
          refine (works_any _).mono ?_
          rintro e w9 ⟨rfl, hB9⟩
          have hRW : Boxed w9 w.heap.size 4 (.bool false) := (hB9.block _ (lt_of_heap gRU.out)).trans gRU.out
          have r1 := hRW.cell
          have r2 := hRW.frozen
          have gB9 := Lib.hid hB9
          have gRW := Lib.hid hRW
          clear hB9 hRW
          go_wp2_with fail
          gi_wp2_with fail
          have hDne : D2 ≠ w.heap.size := by have h1 := gD2.out; have h2 := gz5.out; have h3 := glo.out; have h4 := g0z.out; have h5 := gZ0.out; omega
          have s2 : (w9.setCell ⟨w.heap.size, 0, none⟩ (.bool true)).heap[D2]? = some (.deferred (some [])) := (Below.heap_setCell _ _ _ D2 hDne).trans ((gB9.out.block _ (lt_of_heap gKU.out)).trans gKU.out)
          have hend : Below w.heap.size w ((w9.setCell ⟨w.heap.size, 0, none⟩ (.bool true)).putObj D2 (.deferred none)) :=
            ((gbel.out.trans (gB9.out.mono gbel.out.size)).setCell (Nat.le_refl _) _).trans (belowK_b (w := w) (Nat.le_refl _) _ D2 _ _ (by have h1 := gD2.out; have h2 := gz5.out; have h3 := glo.out; have h4 := g0z.out; have h5 := gZ0.out; omega) s2 rfl rfl)
          have gRF := Boxed.cell (show Boxed ((w9.setCell ⟨w.heap.size, 0, none⟩ (.bool true)).putObj D2 (.deferred none)) w.heap.size 4 (.bool true) from (World.putObj_heap_other hDne.symm).trans (gRW.out.set _))
          refine ⟨by simp, .inl ⟨_, _, rfl, run_takeDeferred s2, ?_⟩⟩
          refine ⟨.bool true, ?_, rfl, hend⟩
          clear hend s2
          simp [results, Try.results3, go_sem, gRF]
      · have gQ := Lib.hid hT
        clear hT
        obtain ⟨T, hT1, hT2⟩ := rising_of iord _ gQ.out.1.nodup
        have gT := Lib.hid (And.intro hT1 hT2)
        obtain ⟨bI, cI, bP, cP, hr⟩ := gQ.out.2
        have gr := Lib.hid (rall hr T hT1 hT2)
        have hlen : T.length ≤ 1024 := by
          rw [hT2.length_eq, marked_len]
          exact Nat.le_trans List.countP_le_length (by rw [hr.len]; exact hr.top)
        clear hr hT1 hT2
        go_wp2_with fail
        refine gr.out.mono ?_
        rintro e w3 ⟨vi, vo, rfl, hi, ho, hb3⟩
        obtain ⟨Ai, ci, rfl⟩ := own_slice hi
        obtain ⟨Ao, co, rfl⟩ := own_slice ho
        have gi := Lib.hid hi
        have go := Lib.hid ho
        have gb3 := Lib.hid hb3
        clear hi ho hb3
        go_wp2_with fail
        obtain ⟨z, hz⟩ : ∃ z, z = w3.heap.size := ⟨_, rfl⟩
        obtain ⟨V, hV⟩ : ∃ V, V = (w3.alloc (.cells #[.slice Ai T.length ci] 41)).alloc (.cells #[.slice Ao T.length co] 42) := ⟨_, rfl⟩
        have hVz : V.heap.size = z + 2 := by rw [hV, hz]; simp
        have hVB : Below z w3 V := by rw [hV, hz]; exact ((Below.refl _ w3).alloc (Nat.le_refl _) _).alloc (by simp) _
        have bX : Boxed V z 41 (.slice Ai T.length ci) := by rw [hV, hz]; exact (Boxed.new w3 41 _).alloc _
        have bY : Boxed V (z + 1) 42 (.slice Ao T.length co) := by
          rw [hV, hz]
          have h := Boxed.new (w3.alloc (.cells #[.slice Ai T.length ci] 41)) 42 (.slice Ao T.length co)
          rwa [World.size_alloc] at h
        rw [← hV, ← hz]
        have gX := Lib.hid bX
        have gY := Lib.hid bY
        have gVB := Lib.hid hVB
        have gVz := Lib.hid hVz
        have gz := Lib.hid hz
        clear hV hVz hVB bX bY hz
        refine (all_any _ _).mono ?_
        rintro e w5 ⟨rfl, hw5⟩
        obtain ⟨lo, hlo⟩ : ∃ lo, lo = z + 3 := ⟨_, rfl⟩
        have hz4 : (V.alloc (.cells #[.int .i64 0] 3)).heap.size = lo := by rw [World.size_alloc, gVz.out, hlo]
        have bM : Boxed w5 lo 24 (.pointer (some ⟨P, 0, none⟩)) := by rw [hw5, ← hz4]; exact Boxed.new _ 24 _
        have bN : Boxed w5 (z + 2) 3 (.int .i64 ((([] : List It).length : Nat) : Int)) := by
          rw [hw5]
          have h := Boxed.new V 3 (.int .i64 0)
          rw [gVz.out] at h
          exact h.alloc _
        have hB5 : Below (z + 2) V w5 := by rw [hw5]; exact ((Below.refl _ V).alloc (by rw [gVz.out]; exact Nat.le_refl _) _).alloc (by rw [hz4]; omega) _
        have hz5 : w5.heap.size = lo + 1 := by rw [hw5, World.size_alloc, hz4]
        rw [hz4]
        have gN := Lib.hid bN
        have gM5 := Lib.hid bM
        have gB5 := Lib.hid hB5
        have gz5 := Lib.hid hz5
        have glo := Lib.hid hlo
        clear hw5 hz4 bM bN hB5 hz5 hlo
        go_wp2_with fail
        refine (yields_any _ _ _).mono ?_
        rintro e _ ⟨rfl, rfl⟩
        go_wp2_with fail
        rename_i K1 hK1
        have q0 : z + 2 ≤ V.heap.size := by rw [gVz.out]; exact Nat.le_refl _
        have q1 : z + 2 ≤ w5.heap.size := by rw [gz5.out, glo.out]; omega
        have hlow : Below W0.heap.size W0 w3 := gI.out.low.trans (gb3.out.mono gI.out.low.size)
        have h0z : W0.heap.size ≤ z := by rw [gz.out]; exact hlow.size
        have hB35 : Below w3.heap.size w3 w5 := by
          have h := gVB.out
          rw [gz.out] at h
          exact h.trans (gB5.out.mono (by rw [gz.out]; omega))
        have hBr5 : Below wr.heap.size wr w5 := gb3.out.trans (hB35.mono gb3.out.size)
        have hseq := all_turns 5 lo P n W0 w5 _ T gM5.out.cell (gQ.out.1.below hBr5) gT.out.1 gT.out.2
        have glow := Lib.hid hlow
        have g0z := Lib.hid h0z
        clear hlow h0z hB35 hBr5
        refine (wpIn_wide (n := 6)).1 ?_
        refine range_turns (by omega) (gf := 69) (lb := #[.pointer (some ⟨lo, 0, none⟩)]) rfl (enters_of Try.func69 (by kernel_rfl) rfl) hseq (fun _ => rfl)
          (fun (pre : List It) U => Boxed U (z + 2) 3 (.int .i64 (pre.length : Nat)) ∧ Below (z + 2) V U)
          (fun _ (pre : List It) _ => ¬ pre <+: T)
          ((abid_box _ (z + 2) 3 (fun pre : List It => .int .i64 (pre.length : Nat)) (by decide)).and (abid_below q0 q1))
          (fun _ => abid_prop _ _)
          ⟨gN.out, gB5.out⟩
          ?a1 ?assign ?body ?done ?stop
        case assign =>
          intro l x U K hK
          unfold encs
          gi_wp2
          exact hK
        case stop =>
          intro D2 c pre U _ hp hn _
          exact absurd hp hn
        case body =>
          rintro l' pre x U ⟨hi, hBU⟩ hltT hUs
          have c7 := (show Boxed U z 41 (.slice Ai T.length ci) from (hBU.block _ (by omega)).trans gX.out).cell
          have c8 := (show Boxed U (z + 1) 42 (.slice Ao T.length co) from (hBU.block _ (by omega)).trans gY.out).cell
          have hW0R : w.heap.size < W0.heap.size := by rw [gZ0.out]; omega
          have hR : Boxed U w.heap.size 4 (.bool false) := ((hBU.block _ (by have := g0z.out; omega)).trans ((gVB.out.block _ (by have := g0z.out; omega)).trans ((glow.out.block _ hW0R).trans gR0.out)))
          have r1 := hR.cell
          have r2 := hR.frozen
          have k1 := hi.cell
          have k2 := hi.frozen
          have gi2 := Lib.hid hi
          have gBU := Lib.hid hBU
          obtain ⟨b7, rfl, hb7, hl7, hg7⟩ := own_split gi.out (by omega)
          obtain ⟨b8, rfl, hb8, hl8, hg8⟩ := own_split go.out (by omega)
          obtain ⟨y, hy⟩ : ∃ y, T[pre.length]? = some y := ⟨_, List.getElem?_eq_getElem hltT⟩
          have hU3 : ∀ k, k < z → U.heap[k]? = w3.heap[k]? := fun k hk => (hBU.block k (by omega)).trans (gVB.out.block k hk)
          have d7 := hg7 U (hU3 _ (by rw [gz.out]; exact hl7)) pre.length (.int .i64 (y.1 : Nat)) (by rw [List.getElem?_map, hy]; rfl)
          have d8 := hg8 U (hU3 _ (by rw [gz.out]; exact hl8)) pre.length (.int .i64 y.2) (by rw [List.getElem?_map, hy]; rfl)
          have gy := Lib.hid hy
          have hk' : (pre.length : Int) < (T.length : Int) := by omega
          have hlen' : pre.length < 1024 := by omega
          clear hi hBU hR hseq q0 q1 hUs hU3 hg7 hg8 hy
          by_cases e1 : y.1 = x.1
          · have hne : (((y.1 : Nat) : Int) != ((x.1 : Nat) : Int)) = false := by rw [e1]; simp
            rw [e1] at d7
            by_cases e2 : y.2 = x.2
            · rw [e2] at d8
              clear e1 e2 hne
              gi_wp2_with fail
              exact ⟨⟨(KeepsOthers.setCell _ _ _).from _, spares_box gi2.out (by decide) _⟩, by simpa using gi2.out.set (.int .i64 ((pre.length : Int) + 1)), gBU.out.setCell (Nat.le_refl _) _⟩
            · have gn := Lib.hid (not_prefix gy.out (fun e => e2 (by rw [e])))
              have e3 : (y.2 != x.2) = true := by simpa using e2
              clear e1 hne
              gi_wp2_with fail
              exact ⟨(KeepsOthers.setCell _ _ _).from _, gn.out⟩
          · have e2 : ¬ ((y.1 : Nat) : Int) = ((x.1 : Nat) : Int) := by omega
            have gn := Lib.hid (not_prefix gy.out (fun e => e1 (by rw [e])))
            clear e1
            gi_wp2_with fail
            exact ⟨(KeepsOthers.setCell _ _ _).from _, gn.out⟩
        case done =>
          rintro D2 ys U hD2 rfl ⟨hi, hBU⟩ hKU
          refine hK1 _ _ ?_
          clear hK1 K1
          have c7 := (show Boxed U z 41 (.slice Ai ys.length ci) from (hBU.block _ (by omega)).trans gX.out).cell
          have hW0R : w.heap.size < W0.heap.size := by rw [gZ0.out]; omega
          have hR : Boxed U w.heap.size 4 (.bool false) := ((hBU.block _ (by have := g0z.out; omega)).trans ((gVB.out.block _ (by have := g0z.out; omega)).trans ((glow.out.block _ hW0R).trans gR0.out)))
          have gRU := Lib.hid hR
          have k1 := hi.cell
          have gBU := Lib.hid hBU
          have gKU := Lib.hid hKU
          have gD2 := Lib.hid hD2
          have gbel := Lib.hid (show Below w.heap.size w U by
            have h1 := gB0.out.trans (glow.out.mono gB0.out.size)
            have h2 := h1.trans (gVB.out.mono (by rw [gz.out]; exact h1.size))
            exact h2.trans (hBU.mono (by have := g0z.out; omega)))
          clear hi hBU hKU hD2 hseq q0 q1 hR hW0R
          go_wp2_with fail
          refine (works_any _).mono ?_
          rintro e w9 ⟨rfl, hB9⟩
          have hRW : Boxed w9 w.heap.size 4 (.bool false) := (hB9.block _ (lt_of_heap gRU.out)).trans gRU.out
          have r1 := hRW.cell
          have r2 := hRW.frozen
          have gB9 := Lib.hid hB9
          have gRW := Lib.hid hRW
          clear hB9 hRW
          go_wp2_with fail
          gi_wp2_with fail
          have hDne : D2 ≠ w.heap.size := by have h1 := gD2.out; have h2 := gz5.out; have h3 := glo.out; have h4 := g0z.out; have h5 := gZ0.out; omega
          have s2 : (w9.setCell ⟨w.heap.size, 0, none⟩ (.bool true)).heap[D2]? = some (.deferred (some [])) := (Below.heap_setCell _ _ _ D2 hDne).trans ((gB9.out.block _ (lt_of_heap gKU.out)).trans gKU.out)
          have hend : Below w.heap.size w ((w9.setCell ⟨w.heap.size, 0, none⟩ (.bool true)).putObj D2 (.deferred none)) :=
            ((gbel.out.trans (gB9.out.mono gbel.out.size)).setCell (Nat.le_refl _) _).trans (belowK_b (w := w) (Nat.le_refl _) _ D2 _ _ (by have h1 := gD2.out; have h2 := gz5.out; have h3 := glo.out; have h4 := g0z.out; have h5 := gZ0.out; omega) s2 rfl rfl)
          have gRF := Boxed.cell (show Boxed ((w9.setCell ⟨w.heap.size, 0, none⟩ (.bool true)).putObj D2 (.deferred none)) w.heap.size 4 (.bool true) from (World.putObj_heap_other hDne.symm).trans (gRW.out.set _))
          refine ⟨by simp, .inl ⟨_, _, rfl, run_takeDeferred s2, ?_⟩⟩
          refine ⟨.bool true, ?_, rfl, hend⟩
          clear hend s2
          simp [results, Try.results3, go_sem, gRF]
theorem plays_walk (s : Int) (A : Option Addr) (m cap : Nat) (ts : List Stp) (id : Int) (w : World) (h : StS w A m ts) (hcap : m ≤ cap ∧ cap ≤ 9223372036854775807) :
    Calls Try.prog 3 #[.int .i64 s, .slice A m cap, .int .i64 id] w fun e w' => e = .returned (.bool true) ∧ Below w.heap.size w w' := by
  by_cases hm : 150 < m ∨ (m ≤ 150 ∧ 40 < s ∧ s ≤ 1024)
  · exact plays_early s A m cap id w hm
  · by_cases hs : s ≤ 40
    · exact plays_small s A m cap ts id w h hcap hs (by omega)
    · exact plays_large s A m cap ts id w h hcap ⟨hs, by omega⟩ (by omega)
theorem pqueuePlays_walk (a0 : Int) (a1 : Option Addr) (len1 cap1 : Nat) (z1 : List Stp) (a2 : Int) (w : World) (_w0 : (Lit.int .i64 a0).wf = true) (w1 : StS w a1 len1 z1) (c1 : len1 ≤ cap1 ∧ cap1 ≤ 9223372036854775807) (_w2 : (Lit.int .i64 a2).wf = true) :
    Calls Try.prog 3 #[.int .i64 a0, .slice a1 len1 cap1, .int .i64 a2] w fun e w' => e = .returned (.bool true) ∧ Below w.heap.size w w' := plays_walk a0 a1 len1 cap1 z1 a2 w w1 c1
end Go.Proofs.Ytepgdeokjgjapaa
