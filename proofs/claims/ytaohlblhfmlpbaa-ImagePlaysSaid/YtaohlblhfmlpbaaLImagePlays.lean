/- ImagePlays: the walk. -/
import Derived.Test.YtaohlblhfmlpbaaNode
import Derived.Test.YtaohlblhfmlpbaaSteps
import Derived.Deep.RegionHeld3
import Derived.Deep.CutBlock
import Derived.Deep.CutRange
namespace Go.Proofs.Ytaohlblhfmlpbaa
open Go.RowKit
abbrev boxO (d : Int) (A : Option Addr) (len cap : Nat) (n : Int) : Obj := .cells #[.int .i64 d, .slice A len cap, .int .i64 n] 25 (0, 0)
theorem box_cells {W : World} {z : Nat} {d n : Int} {A : Option Addr} {len cap : Nat} (h : W.heap[z]? = some (boxO d A len cap n)) : W.cell? ⟨z, 0, none⟩ = some (.int .i64 d) ∧ W.cell? ⟨z, 1, none⟩ = some (.slice A len cap) ∧ W.cell? ⟨z, 2, none⟩ = some (.int .i64 n) :=
  ⟨cell_of_row W z 0 _ _ (0, 0) h, cell_of_row W z 1 _ _ (0, 0) h, cell_of_row W z 2 _ _ (0, 0) h⟩
set_option maxRecDepth 1000000 in
set_option maxHeartbeats 16000000 in
theorem imagePlays_walk (a0 : Int) (a1 : Option Addr) (len1 cap1 : Nat) (z1 : List Stp) (a2 : Int) (a3 : Int) (w : World) (_w0 : (Lit.int .i64 a0).wf = true) (w1 : StS w a1 len1 z1) (c1 : len1 ≤ cap1 ∧ cap1 ≤ 9223372036854775807) (w2 : (Lit.int .i64 a2).wf = true) (w3 : (Lit.int .i64 a3).wf = true) :
    Calls Try.prog 3 #[.int .i64 a0, .slice a1 len1 cap1, .int .i64 a2, .int .i64 a3] w fun e w' => e = .returned (.bool true) ∧ Below w.heap.size w w' := by
  have gS := Lib.hid w1
  have g2 := Lib.hid (i64_lt w2)
  have g3 := Lib.hid (i64_lt w3)
  obtain ⟨m, hm⟩ : ∃ m, m = min len1 101 := ⟨_, rfl⟩
  have hmi : (min (len1 : Int) 101) = (m : Nat) := by omega
  have hmn : m ≤ len1 := by omega
  have hsl : ∀ w' : World, (Instr.slice 22 (.slice a1 len1 cap1) none (some (.int .i64 (m : Int))) none).run Try.prog w' = .ok (.slice a1 m cap1) w' := by
    intro w'
    have i1 : m ≤ cap1 := by omega
    cases a1 <;> simp [Instr.slice, run_underlying Try.underlying22, Instr.sliceBounds, Instr.sliceBound, asIntOf, i1, Addr.add]
  clear w1 w2 w3 _w0 hm
  go_enter Try.func3, Try.ntmps3
  go_wp2_with fail
  go_loopw [9, 11, 28] (fun m9 _ i wr => ∃ (k : Nat) (x : Int), k ≤ m ∧ i = .int .i64 (k : Nat) ∧ m9 = .int .i64 x ∧ Hid (Below w.heap.size w wr)) (fun _ _ i _ => m - (intOf i).toNat)
  case atStart => exact ⟨0, 0, Nat.zero_le _, rfl, rfl, Below.refl _ _⟩
  case round =>
    obtain ⟨k, x, hk, rfl, rfl, gI⟩ := hrel
    by_cases hlt : k < m
    · obtain ⟨b, o, ⟨d, A, len, cap, xs, n⟩, rfl, hok, e0, e1, e2⟩ := gS.out.at gI.out (show k < len1 by omega)
      dsimp only at e0 e1 e2
      have hb := lit_b wr (.cells #[.int .i64 d, .slice A len cap, .int .i64 n] 25)
      have gN := Lib.hid (gI.out.trans (hb.mono gI.out.size))
      clear hsl hmi hok hb
      go_wp2_with fail
      go_roundw
      case rel => exact ⟨k + 1, _, by omega, by simp, rfl, gN⟩
      case measure => simp [intOf] <;> omega
    · obtain rfl : k = m := by omega
      clear hsl hmi hlt
      by_cases h100 : (100 : Int) < (len1 : Int)
      · go_wp2_with fail
        refine (works_any _).mono ?_
        rintro e wE ⟨rfl, hb⟩
        have gE := Lib.hid (gI.out.trans (hb.mono gI.out.size))
        clear hb
        go_wp2_with fail
        go_ret
        exact ⟨rfl, gE.out⟩
      by_cases h3000 : (3000 : Int) < x
      · go_wp2_with fail
        refine (works_any _).mono ?_
        rintro e wE ⟨rfl, hb⟩
        have gE := Lib.hid (gI.out.trans (hb.mono gI.out.size))
        clear hb
        go_wp2_with fail
        go_ret
        exact ⟨rfl, gE.out⟩
      by_cases hsz : 1 ≤ a0 ∧ a0 ≤ 8192
      · obtain ⟨n, rfl⟩ : ∃ n : Nat, a0 = n := ⟨a0.toNat, by omega⟩
        obtain ⟨Mid, k1, k2⟩ := node_new n wr (by omega) (by omega)
        have gK1 := Lib.hid k1
        have gK2 := Lib.hid k2
        clear k1 k2 hsz
        go_wp2_with fail
        refine gK1.out.mono ?_
        rintro e wA ⟨rfl, gM⟩
        go_wp2_with fail
        refine (gK2.out _ gM.out).mono ?_
        rintro e wB ⟨Q, rfl, gFr⟩
        obtain ⟨P, hP⟩ : ∃ P, P = wr.heap.size := ⟨_, rfl⟩
        rw [← hP] at gFr ⊢
        have gSt := Lib.hid (st_start gFr.out gI.out)
        clear gK1 gK2 gM gFr hP gI h100 h3000
        go_wp2_with fail
        go_loopw [12, 14, 16, 17, 19, 20, 21, 71] (fun m12 m14 m16 m17 _ _ _ i wr => ∃ (j : Nat) (P Q : Nat) (p2 q2 : Option Addr), j ≤ len1 ∧ i = .int .i64 (j : Nat) ∧ m12 = .pointer (some ⟨P, 0, none⟩) ∧ m14 = .pointer (some ⟨Q, 0, none⟩) ∧ m16 = .pointer p2 ∧ m17 = .pointer q2 ∧ Hid (St w P Q p2 q2 wr)) (fun _ _ _ _ _ _ _ i _ => len1 - (intOf i).toNat)
        case atStart => exact ⟨0, P, Q, none, none, Nat.zero_le _, rfl, rfl, rfl, rfl, rfl, gSt.out⟩
        case round =>
          obtain ⟨j, P', Q', p2, q2, hj, rfl, rfl, rfl, rfl, rfl, gR⟩ := hrel
          clear gSt
          by_cases hlt : j < len1
          · obtain ⟨b, o, ⟨d, A, len, cap, xs, n2⟩, rfl, hok, e0, e1, e2⟩ := gS.out.at gR.out.low hlt
            dsimp only at e0 e1 e2
            have gok := Lib.hid hok
            obtain ⟨z, hz⟩ : ∃ z, z = wr.heap.size := ⟨_, rfl⟩
            obtain ⟨V, hV⟩ : ∃ V, V = wr.alloc (boxO d A len cap n2) := ⟨_, rfl⟩
            have gVB := Lib.hid (show Below wr.heap.size wr V by rw [hV]; exact lit_b _ _)
            have gVk := Lib.hid (show V.heap[z]? = some (boxO d A len cap n2) by rw [hV, hz]; exact World.alloc_heap_new wr _)
            have gz := Lib.hid (Nat.le_of_eq hz.symm)
            clear hok
            go_upto_block 4 with (fail)
            rw [← hV, ← hz]
            clear hV hz e0 e1 e2
            go_cut [12, 14, 16, 17, 20, 21] from 75 to 118 (fun s12 s14 s16 s17 s20 s21 wx => ∃ (P3 Q3 : Nat) (p3 q3 : Option Addr) (c : Int), s12 = .pointer (some ⟨P3, 0, none⟩) ∧ s14 = .pointer (some ⟨Q3, 0, none⟩) ∧ s16 = .pointer p3 ∧ s17 = .pointer q3 ∧ s20 = .int .i64 c ∧ s21 = .int .i64 c ∧ Hid (St w P3 Q3 p3 q3 wx))
            case rest =>
              obtain ⟨P3, Q3, p3, q3, c, rfl, rfl, rfl, rfl, rfl, rfl, gP⟩ := hcut
              clear gR gok gVB gVk gz
              go_wp2_with fail
              refine (gP.out.shows a2 a3 g2.out g3.out).mono ?_
              rintro e wC ⟨rfl, hb⟩
              have gC := Lib.hid (gP.out.below hb)
              clear hb gP
              rcases gC.out.old with ⟨rfl, rfl⟩ | ⟨P4, Q4, rfl, rfl⟩
              · go_wp2_with fail
                go_roundw
                case rel => exact ⟨j + 1, P3, Q3, none, none, by omega, by simp, rfl, rfl, rfl, rfl, gC⟩
                case measure => simp [intOf] <;> omega
              · go_wp2_with fail
                refine (gC.out.shows2 a2 a3 g2.out g3.out).mono ?_
                rintro e wD ⟨rfl, hb⟩
                have gD := Lib.hid (gC.out.below hb)
                clear hb gC
                go_wp2_with fail
                go_roundw
                case rel => exact ⟨j + 1, P3, Q3, _, _, by omega, by simp, rfl, rfl, rfl, rfl, gD⟩
                case measure => simp [intOf] <;> omega
            case first =>
              have cd := (box_cells gVk.out).1
              by_cases h0 : d = 0
              · subst h0
                have ci := (box_cells gVk.out).2.1
                obtain ⟨c, Mid, k1, k2⟩ := st_append gR.out (V := V.drew) (z := z) (gVB.out.drew) gVk.out gz.out gok.out.1 gok.out.2.1
                have gK1 := Lib.hid k1
                have gK2 := Lib.hid k2
                clear k1 k2
                go_wp2_with fail
                go_region_held3 (fun w' => w'.cell? ⟨z, 1, none⟩ = some (.slice A len cap)) (first | exact ci | exact cA | go_keep)
                  (first
                  | (go_at_call 13; (with_reducible refine gK1.out.mono ?_); rintro e wA ⟨rfl, gA⟩; have cA := (box_cells gA.out.2).2.1)
                  | (go_at_call 14; (with_reducible refine (gK2.out _ gA.out.1).mono ?_); rintro e wB ⟨rfl, gB⟩; have cA := (box_cells gB.out.2).2.1; clear gA))
                clear cA ci cd gR gVB gVk gok gK1 gK2
                go_wp2_with fail
                go_meet
                exact ⟨P', Q', p2, q2, c, rfl, rfl, rfl, rfl, rfl, rfl, gB.out.1⟩
              · have f0 : (d == 0) = false := by simpa using h0
                clear h0
                by_cases h1 : d = 1
                · subst h1
                  obtain ⟨Mid, k1, k2⟩ := st_sync (gR.out.below gVB.out)
                  have gK1 := Lib.hid k1
                  have gK2 := Lib.hid k2
                  clear k1 k2 gR gVB gVk gok f0
                  go_wp2_with fail
                  refine gK1.out.mono ?_
                  rintro e wA ⟨rfl, gM⟩
                  go_wp2_with fail
                  refine (gK2.out _ gM.out).mono ?_
                  rintro e wB ⟨rfl, gB⟩
                  clear gK1 gK2 gM cd
                  go_wp2_with fail
                  go_meet
                  exact ⟨P', Q', p2, q2, 0, rfl, rfl, rfl, rfl, rfl, rfl, gB.out⟩
                · have f1 : (d == 1) = false := by simpa using h1
                  clear h1
                  by_cases h2 : d = 2
                  · subst h2
                    have ci := (box_cells gVk.out).2.2
                    obtain ⟨c, Mid, k1, k2⟩ := st_crash gR.out (V := V.drew) (z := z) (gVB.out.drew) gVk.out gz.out n2 gok.out.2.2.2
                    have gK1 := Lib.hid k1
                    have gK2 := Lib.hid k2
                    clear k1 k2
                    go_wp2_with fail
                    go_region_held3 (fun w' => w'.cell? ⟨z, 2, none⟩ = some (.int .i64 n2)) (first | exact ci | exact cA | go_keep)
                      (first
                      | (go_at_call 17; (with_reducible refine gK1.out.mono ?_); rintro e wA ⟨rfl, gA⟩; have cA := (box_cells gA.out.2).2.2)
                      | (go_at_call 18; (with_reducible refine (gK2.out _ gA.out.1).mono ?_); rintro e wB ⟨rfl, gB⟩; have cA := (box_cells gB.out.2).2.2; clear gA))
                    clear cA ci cd gR gVB gVk gok gK1 gK2
                    go_wp2_with fail
                    go_meet
                    exact ⟨P', Q', p2, q2, c, rfl, rfl, rfl, rfl, rfl, rfl, gB.out.1⟩
                  · have f2 : (d == 2) = false := by simpa using h2
                    clear h2
                    by_cases h3 : d = 3
                    · subst h3
                      obtain ⟨Mid, k1, k2⟩ := st_erase (gR.out.below gVB.out)
                      have gK1 := Lib.hid k1
                      have gK2 := Lib.hid k2
                      clear k1 k2 gR gVB gVk gok f0 f1 f2
                      go_wp2_with fail
                      refine gK1.out.mono ?_
                      rintro e wA ⟨rfl, gM⟩
                      go_wp2_with fail
                      refine (gK2.out _ gM.out).mono ?_
                      rintro e wB ⟨rfl, gB⟩
                      clear gK1 gK2 gM cd
                      go_wp2_with fail
                      go_meet
                      exact ⟨P', Q', p2, q2, 0, rfl, rfl, rfl, rfl, rfl, rfl, gB.out⟩
                    · have f3 : (d == 3) = false := by simpa using h3
                      clear h3
                      by_cases h4 : d = 4
                      · subst h4
                        obtain ⟨P5, Mid, k1, k2⟩ := st_copy (gR.out.below gVB.out)
                        have gK1 := Lib.hid k1
                        have gK2 := Lib.hid k2
                        clear k1 k2 gR gVB gVk gok f0 f1 f2 f3
                        go_wp2_with fail
                        refine gK1.out.mono ?_
                        rintro e wA ⟨rfl, gM⟩
                        go_wp2_with fail
                        refine (gK2.out _ gM.out).mono ?_
                        rintro e wB ⟨Q5, rfl, gB⟩
                        clear gK1 gK2 gM cd
                        go_wp2_with fail
                        go_meet
                        exact ⟨P5, Q5, some ⟨P', 0, none⟩, some ⟨Q', 0, none⟩, 0, rfl, rfl, rfl, rfl, rfl, rfl, gB.out⟩
                      · have f4 : (d == 4) = false := by simpa using h4
                        clear h4
                        have gB := Lib.hid (gR.out.below gVB.out)
                        clear gR gVB gVk gok
                        go_wp2_with fail
                        go_meet
                        exact ⟨P', Q', p2, q2, 0, rfl, rfl, rfl, rfl, rfl, rfl, gB.out⟩
          · obtain rfl : j = len1 := by omega
            clear hlt
            go_wp2_with fail
            refine (gR.out.shows a2 a3 g2.out g3.out).mono ?_
            rintro e wE ⟨rfl, hb⟩
            have gE := Lib.hid (gR.out.below hb).low
            clear hb gR
            go_wp2_with fail
            refine (works_any _).mono ?_
            rintro e wF ⟨rfl, hb⟩
            have gF := Lib.hid (gE.out.trans (hb.mono gE.out.size))
            clear hb
            go_wp2_with fail
            go_ret
            exact ⟨rfl, gF.out⟩
      · have hsz' : a0 < 1 ∨ 8192 < a0 := by omega
        have gZ := Lib.hid hsz'
        clear hsz hsz'
        go_wp2_with fail
        refine (new_bad a0 _ gZ.out).mono ?_
        rintro e _ ⟨rfl, rfl⟩
        go_wp2_with fail
        refine (rnew_bad a0 _ gZ.out).mono ?_
        rintro e _ ⟨rfl, rfl⟩
        go_wp2_with fail
        refine (works_any _).mono ?_
        rintro e wE ⟨rfl, hb⟩
        have gE := Lib.hid (gI.out.trans (hb.mono gI.out.size))
        clear hb
        go_wp2_with fail
        go_ret
        exact ⟨rfl, gE.out⟩
end Go.Proofs.Ytaohlblhfmlpbaa
