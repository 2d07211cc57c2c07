/- SlotsetPlays: the walk. -/
import Derived.Test.YtpdipcgchhibeaaSt
import Derived.Test.YtpdipcgchhibeaaSteps
import Derived.Deep.RegionHeld3
import Derived.Deep.CutBlock
import Derived.Deep.CutRange
namespace Go.Proofs.Ytpdipcgchhibeaa
open Go.RowKit
abbrev boxO (d i : Int) (A : Option Addr) (len cap : Nat) : Obj := .cells #[.int .i64 d, .int .i64 i, .slice A len cap] 26 (0, 0)
theorem box_cells {W : World} {z : Nat} {d i : Int} {A : Option Addr} {len cap : Nat} (h : W.heap[z]? = some (boxO d i A len cap)) : W.cell? ⟨z, 0, none⟩ = some (.int .i64 d) ∧ W.cell? ⟨z, 1, none⟩ = some (.int .i64 i) ∧ W.cell? ⟨z, 2, none⟩ = some (.slice A len cap) :=
  ⟨cell_of_row W z 0 _ _ (0, 0) h, cell_of_row W z 1 _ _ (0, 0) h, cell_of_row W z 2 _ _ (0, 0) h⟩
theorem IsRow.at {w : World} {A : Option Addr} {len cap : Nat} {zs : List Int} (h : IsRow .i64 w A len cap zs) {j : Nat} (hj : j < len) : ∃ b o v, A = some ⟨b, o, none⟩ ∧ ∀ W, Below w.heap.size w W → W.cell? ⟨b, o + j, none⟩ = some (.int .i64 v) := by
  rcases h with ⟨_, rfl, _⟩ | ⟨x, rfl, hl, hm, hz, hc, hw⟩
  · omega
  · obtain ⟨b, o, sp⟩ := x
    have h00 := hc 0 (by omega)
    have h0 := hc j (by omega)
    have hs : sp = none := by simpa [Addr.add] using World.cell?_spot h00
    subst hs
    rw [add_plain] at h0
    exact ⟨b, o, _, rfl, fun W hW => (hW.cell (lt_of_cell h0)).trans h0⟩
set_option maxRecDepth 1000000 in
set_option maxHeartbeats 16000000 in
theorem slotsetPlays_walk (a0 : Int) (a1 : Int) (a2 : Option Addr) (len2 cap2 : Nat) (z2 : List Stp) (a3 : Int) (w : World) (_w0 : (Lit.int .i64 a0).wf = true) (_w1 : (Lit.int .i64 a1).wf = true) (w2 : StS w a2 len2 z2) (c2 : len2 ≤ cap2 ∧ cap2 ≤ 9223372036854775807) (_w3 : (Lit.int .i64 a3).wf = true) :
    Calls Try.prog 3 #[.int .i64 a0, .int .i64 a1, .slice a2 len2 cap2, .int .i64 a3] w fun e w' => e = .returned (.bool true) ∧ Below w.heap.size w w' := by
  have gS := Lib.hid w2
  clear w2 _w0 _w1 _w3
  by_cases hm : (100 : Int) < (len2 : Int)
  · go_enter Try.func3, Try.ntmps3
    go_wp2_with fail
    refine (works_any _).mono ?_
    rintro e w1 ⟨rfl, hb⟩
    have gb := Lib.hid hb
    clear hb
    go_wp2_with fail
    go_ret
    exact ⟨rfl, gb.out⟩
  have hm2 : len2 ≤ 100 := by omega
  go_enter Try.func3, Try.ntmps3
  go_wp2_with fail
  go_loop [9] (fun i => ∃ k : Nat, k ≤ len2 ∧ i = .int .i64 (k : Nat)) (fun i => len2 - (intOf i).toNat)
  case atStart => exact ⟨0, Nat.zero_le _, rfl⟩
  case round =>
    obtain ⟨k, hk, rfl⟩ := hrel
    by_cases hlt : k < len2
    · obtain ⟨b, o, ⟨d, i, A, len, cap, zs⟩, _, rfl, hr, e0, e1, e2⟩ := gS.out.at (Below.refl _ w) hlt
      dsimp only at hr e0 e1 e2
      have gr := hr.len
      have k0 : (0 : Int) ≤ (k : Int) := by omega
      have k1 : (k : Int) < (len2 : Int) := by omega
      clear hr
      by_cases h40 : (40 : Int) < (len : Int)
      · go_wp2_with fail
        refine (works_any _).mono ?_
        rintro e w1 ⟨rfl, hb⟩
        have gb := Lib.hid hb
        clear hb
        go_wp2_with fail
        go_ret
        exact ⟨rfl, gb.out⟩
      · have h40' : len ≤ 40 := by omega
        go_wp2_with fail
        go_round
        case rel => exact ⟨k + 1, by omega, by simp⟩
        case measure => simp [intOf] <;> omega
    · obtain rfl : k = len2 := by omega
      clear hlt
      go_wp2_with fail
      refine (st_first a0 w).mono ?_
      rintro e w1 ⟨p0, rfl, g⟩
      obtain ⟨F0, h1, h2⟩ := g.out
      have g1 := Lib.hid h1
      have g2 := Lib.hid h2
      have gn1 := Lib.hid h1.nil_iff
      clear h1 h2 g
      go_wp2_with fail
      refine (st_second a0 g1.out g2.out).mono ?_
      rintro e w2 ⟨r0, rfl, gP⟩
      obtain ⟨n, hn⟩ : ∃ n, n = newn a0 := ⟨_, rfl⟩
      obtain ⟨b, hb1, hb2⟩ : ∃ b : Bool, (∀ W, (binOp .eql 27 (.pointer p0) (.pointer none)).run Try.prog W = .ok (.bool b) W) ∧ (∀ W, (binOp .eql 31 (.pointer r0) (.pointer none)).run Try.prog W = .ok (.bool b) W) := by
        obtain ⟨F1, F2, k1, k2, _⟩ := gP.out
        rcases k1.nil_iff with ⟨q1, rfl⟩ | ⟨q1, a, rfl⟩
        · rcases k2.nil_iff with ⟨q2, rfl⟩ | ⟨q2, a', rfl⟩
          · exact ⟨true, fun W => by simp [go_sem, Try.underlying27], fun W => by simp [go_sem, Try.underlying31]⟩
          · exact absurd q1 q2
        · rcases k2.nil_iff with ⟨q2, rfl⟩ | ⟨q2, a', rfl⟩
          · exact absurd q2 q1
          · exact ⟨false, fun W => by simp [go_sem, Try.underlying27], fun W => by simp [go_sem, Try.underlying31]⟩
      rw [← hn] at gP
      clear hn g1 g2 gn1
      go_wp2_with fail
      clear hb1 hb2
      go_loopw [10, 12, 14] (fun m10 m12 i wr => ∃ (j : Nat) (p r : Option Addr) (m : Nat), j ≤ k ∧ i = .int .i64 (j : Nat) ∧ m10 = .pointer p ∧ m12 = .pointer r ∧ Hid (St0 w p r n m wr)) (fun _ _ i _ => k - (intOf i).toNat)
      case atStart => exact ⟨0, _, _, 0, Nat.zero_le _, rfl, rfl, rfl, gP.out⟩
      case round =>
        obtain ⟨j, p, r, m, hj, rfl, rfl, rfl, gR⟩ := hrel
        clear gP
        by_cases hlt : j < k
        · obtain ⟨b, o, ⟨d, i, A, len, cap, zs⟩, _, rfl, hr, e0, e1, e2⟩ := gS.out.at gR.out.low hlt
          dsimp only at hr e0 e1 e2
          have gr := Lib.hid hr
          have hlen := hr.len
          have j0 : (0 : Int) ≤ (j : Int) := by omega
          have j1 : (j : Int) < (k : Int) := by omega
          obtain ⟨z, hz⟩ : ∃ z, z = wr.heap.size := ⟨_, rfl⟩
          obtain ⟨V, hV⟩ : ∃ V, V = wr.alloc (boxO d i A len cap) := ⟨_, rfl⟩
          have gVB := Lib.hid (show Below wr.heap.size wr V by rw [hV]; exact alloc_below _ _)
          have gVk := Lib.hid (show V.heap[z]? = some (boxO d i A len cap) by rw [hV, hz]; exact World.alloc_heap_new wr _)
          have gz := Lib.hid (Nat.le_of_eq hz.symm)
          clear hr
          go_wp2_with fail
          rw [← hV, ← hz]
          refine (st_new3 gR.out gVB.out gVk.out gz.out a1).mono ?_
          rintro e w3 ⟨q, rfl, g3⟩
          clear hV hz gR gVB gVk gz e0 e1 e2
          go_wp2_with fail
          refine (st_new4 g3.out a1 rfl).mono ?_
          rintro e w4 ⟨u, rfl, g4⟩
          obtain ⟨n2, hn2⟩ : ∃ n2, n2 = newn a1 := ⟨_, rfl⟩
          rw [← hn2] at g4
          clear hn2 g3
          go_wp2_with fail
          obtain ⟨wo, hwo⟩ : ∃ wo : World, wo = wr := ⟨_, rfl⟩
          subst hwo
          go_loopw [20] (fun c wx => ∃ (l t : Nat), l ≤ len ∧ c = .int .i64 (l : Nat) ∧ Hid (St w z (boxO d i A len cap) p r q u n m m n2 t t wx)) (fun c _ => len - (intOf c).toNat)
          case atStart => exact ⟨0, 0, Nat.zero_le _, rfl, g4.out⟩
          case round =>
            obtain ⟨l, t, hl, rfl, gI⟩ := hrel
            have cz := (box_cells gI.out.box).2.2
            clear g4
            by_cases hll : l < len
            · obtain ⟨bL, oL, v, rfl, hc⟩ := gr.out.at hll
              have cv := hc _ gI.out.low
              have gc := Lib.hid hc
              have gV := Lib.hid (gI.out.below ((Below.refl _ _).drew))
              have l0 : (0 : Int) ≤ (l : Int) := by omega
              have l1 : (l : Int) < (len : Int) := by omega
              clear hc
              go_wp2_with fail
              go_region_held3 (fun w' => w'.cell? ⟨z, 2, none⟩ = some (.slice (some ⟨bL, oL, none⟩) len cap) ∧ w'.cell? ⟨bL, oL + l, none⟩ = some (.int .i64 v)) (first | exact ⟨cz, cv⟩ | exact ⟨cA, vA⟩ | go_keep)
                (first
                | (go_at_call 15; (with_reducible refine (st_add3 gV.out v).mono ?_); rintro e wA ⟨rfl, gA⟩; have cA := (box_cells gA.out.box).2.2; have vA := gc.out _ gA.out.low; clear gV)
                | (go_at_call 16; (with_reducible refine (st_add4 gA.out v).mono ?_); rintro e wB ⟨rfl, gB⟩; have cA := (box_cells gB.out.box).2.2; have vA := gc.out _ gB.out.low; clear gA))
              clear cA vA cz cv
              go_wp2_with fail
              go_roundw
              case rel => exact ⟨l + 1, _, by omega, by simp, gB.out⟩
              case measure => simp [intOf] <;> omega
            · obtain rfl : l = len := by omega
              clear hll
              have cd := (box_cells gI.out.box).1
              go_upto_block 6 with (fail)
              go_cut [10, 12] from 111 to 156 (fun s1 s2 wx => ∃ (p' r' : Option Addr) (m' : Nat), s1 = .pointer p' ∧ s2 = .pointer r' ∧ Hid (St w z (boxO d i A l cap) p' r' q u n m' m' n2 t t wx))
              case rest =>
                obtain ⟨p', r', m', rfl, rfl, gP⟩ := hcut
                clear gI cd cz
                go_wp2_with fail
                refine (st_next1 gP.out a3).mono ?_
                rintro e wC ⟨rfl, hb⟩
                have gC := Lib.hid (gP.out.below hb)
                clear hb gP
                go_wp2_with fail
                refine (st_next2 gC.out a3).mono ?_
                rintro e wD ⟨rfl, hb⟩
                have gD := Lib.hid (gC.out.below hb)
                clear hb gC
                go_wp2_with fail
                refine (st_lowest1 gD.out).mono ?_
                rintro e wE ⟨rfl, hb⟩
                have gE := Lib.hid (gD.out.below hb)
                clear hb gD
                go_wp2_with fail
                refine (st_lowest2 gE.out).mono ?_
                rintro e wF ⟨rfl, hb⟩
                have gF := Lib.hid (gE.out.below hb)
                have gV := Lib.hid (gF.out.below ((Below.refl _ _).drew))
                have cx := (box_cells gF.out.box).2.1
                clear hb gE
                go_wp2_with fail
                go_region_held3 (fun w' => w'.cell? ⟨z, 1, none⟩ = some (.int .i64 i)) (first | exact cx | exact cA | go_keep)
                  (first
                  | (go_at_call 29; (with_reducible refine (st_has1 gV.out i).mono ?_); rintro e _ ⟨rfl, rfl⟩)
                  | (go_at_call 30; (with_reducible refine (st_has2 gV.out i).mono ?_); rintro e _ ⟨rfl, rfl⟩)
                  | (go_at_call 31; (with_reducible refine (st_size1 gV.out).mono ?_); rintro e _ ⟨rfl, rfl⟩)
                  | (go_at_call 32; (with_reducible refine (st_size2 gV.out).mono ?_); rintro e _ ⟨rfl, rfl⟩)
                  | (go_at_call 34; (with_reducible refine (st_all2 gV.out).mono ?_); rintro e wG ⟨A1, d1, rfl, gA⟩; have gG := Lib.hid (gV.out.below gA.out.2); have cA := (box_cells gG.out.box).2.1)
                  | (go_at_call 33; (with_reducible refine (st_same1 gG.out gA.out.1).mono ?_); rintro e wH ⟨rfl, hb⟩; have gH := Lib.hid (gG.out.below hb); have cA := (box_cells gH.out.box).2.1; clear hb gA)
                  | (go_at_call 34; (with_reducible refine (st_all4 gH.out).mono ?_); rintro e wI ⟨A2, d2, rfl, gA2⟩; have gI2 := Lib.hid (gH.out.below gA2.out.2); have cA := (box_cells gI2.out.box).2.1)
                  | (go_at_call 33; (with_reducible refine (st_same3 gI2.out gA2.out.1).mono ?_); rintro e wJ ⟨rfl, hb⟩; have gJ := Lib.hid (gI2.out.below hb); have cA := (box_cells gJ.out.box).2.1; clear hb gA2))
                go_wp2_with fail
                go_roundw
                case rel => exact ⟨j + 1, _, _, _, by omega, by simp, rfl, rfl, gJ.out.rest⟩
                case measure => simp [intOf] <;> omega
              case first =>
                by_cases h0 : d = 0
                · subst h0
                  have ci := (box_cells gI.out.box).2.1
                  have gV := Lib.hid (gI.out.below ((Below.refl _ _).drew))
                  go_wp2_with fail
                  go_region_held3 (fun w' => w'.cell? ⟨z, 1, none⟩ = some (.int .i64 i)) (first | exact ci | exact cA | go_keep)
                    (first
                    | (go_at_call 15; (with_reducible refine (st_add1 gV.out i).mono ?_); rintro e wA ⟨rfl, gA⟩; have cA := (box_cells gA.out.box).2.1; clear gV)
                    | (go_at_call 16; (with_reducible refine (st_add2 gA.out i).mono ?_); rintro e wB ⟨rfl, gP⟩; have cA := (box_cells gP.out.box).2.1; clear gA))
                  clear cA ci gI cd cz
                  go_wp2_with fail
                  go_meet
                  exact ⟨_, _, _, rfl, rfl, gP.out⟩
                · have f0 : (d == 0) = false := by simpa using h0
                  clear h0
                  by_cases h1 : d = 1
                  · subst h1
                    have ci := (box_cells gI.out.box).2.1
                    have gV := Lib.hid (gI.out.below ((Below.refl _ _).drew))
                    go_wp2_with fail
                    go_region_held3 (fun w' => w'.cell? ⟨z, 1, none⟩ = some (.int .i64 i)) (first | exact ci | exact cA | go_keep)
                      (first
                      | (go_at_call 17; (with_reducible refine (st_remove1 gV.out i).mono ?_); rintro e wA ⟨rfl, gA⟩; have cA := (box_cells gA.out.box).2.1; clear gV)
                      | (go_at_call 18; (with_reducible refine (st_remove2 gA.out i).mono ?_); rintro e wB ⟨rfl, gP⟩; have cA := (box_cells gP.out.box).2.1; clear gA))
                    clear cA ci gI cd cz
                    go_wp2_with fail
                    go_meet
                    exact ⟨_, _, _, rfl, rfl, gP.out⟩
                  · have f1 : (d == 1) = false := by simpa using h1
                    clear h1
                    by_cases h2 : d = 2
                    · subst h2
                      go_wp2_with fail
                      refine (st_union1 gI.out).mono ?_
                      rintro e wA ⟨rfl, gA⟩
                      clear gI
                      go_wp2_with fail
                      refine (st_union2 gA.out).mono ?_
                      rintro e wB ⟨rfl, gP⟩
                      clear gA cd cz
                      go_wp2_with fail
                      go_meet
                      exact ⟨_, _, _, rfl, rfl, gP.out⟩
                    · have f2 : (d == 2) = false := by simpa using h2
                      clear h2
                      by_cases h3 : d = 3
                      · subst h3
                        go_wp2_with fail
                        refine (st_minus1 gI.out).mono ?_
                        rintro e wA ⟨rfl, gA⟩
                        clear gI
                        go_wp2_with fail
                        refine (st_minus2 gA.out).mono ?_
                        rintro e wB ⟨rfl, gP⟩
                        clear gA cd cz
                        go_wp2_with fail
                        go_meet
                        exact ⟨_, _, _, rfl, rfl, gP.out⟩
                      · have f3 : (d == 3) = false := by simpa using h3
                        clear h3
                        by_cases h4 : d = 4
                        · subst h4
                          go_wp2_with fail
                          refine (st_copy1 gI.out).mono ?_
                          rintro e wA ⟨p', rfl, gA⟩
                          clear gI
                          go_wp2_with fail
                          refine (st_copy2 gA.out).mono ?_
                          rintro e wB ⟨r', rfl, gP⟩
                          clear gA cd cz
                          go_wp2_with fail
                          go_meet
                          exact ⟨_, _, _, rfl, rfl, gP.out⟩
                        · have f4 : (d == 4) = false := by simpa using h4
                          clear h4
                          have gP := Lib.hid gI.out
                          clear gI
                          go_wp2_with fail
                          go_meet
                          exact ⟨_, _, _, rfl, rfl, gP.out⟩
        · obtain rfl : j = k := by omega
          have gE := Lib.hid gR.out.low
          clear hlt
          go_wp2_with fail
          refine (works_any _).mono ?_
          rintro e w1 ⟨rfl, hb⟩
          have gb := Lib.hid (gE.out.trans (hb.mono gE.out.size))
          clear hb
          go_wp2_with fail
          go_ret
          exact ⟨rfl, gb.out⟩
end Go.Proofs.Ytpdipcgchhibeaa
