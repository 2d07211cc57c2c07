/- The walk of KeyRefuses. -/
import Derived.Test.YtipammomoeklnaaDoorWorks
namespace Go.Proofs.YtipammomoeklnaaDoor
open Go.RowKit Go.PlainAid
theorem fit_out (L : List Int) {x : Int} (h : x < 1 ∨ 32 < x) : fitE L x = 2 := by unfold fitE; rw [if_pos h]
theorem lit3 {w wr : World} {P : Nat} {x y z : Int} (hP : P = w.heap.size) (hb : Below (P + 1) (w.alloc (.cells #[.int .i64 x, .int .i64 y, .int .i64 z] 3)) wr) :
    wr.cell? ⟨P, 0, none⟩ = some (.int .i64 x) ∧ wr.cell? ⟨P, 1, none⟩ = some (.int .i64 y) ∧ wr.cell? ⟨P, 2, none⟩ = some (.int .i64 z) := by
  subst hP
  have h := heap_alloc_new w (.cells #[.int .i64 x, .int .i64 y, .int .i64 z] 3)
  have c := fun (i : Nat) => (hb.cell (p := ⟨w.heap.size, i, none⟩) (by show w.heap.size < w.heap.size + 1; omega)).trans (cell_of_row _ w.heap.size i _ 3 (0, 0) h)
  exact ⟨(c 0).trans rfl, (c 1).trans rfl, (c 2).trans rfl⟩
theorem long_chk (n : Nat) (h : 33 ≤ n) : chkE (bts (rep 97 n)) = 12 := by
  unfold chkE
  rw [bts_rep _ _ (by omega), List.length_replicate, if_neg (by omega), if_pos ?_, if_pos (by omega)]
  rw [List.all_eq_true]
  intro z hz
  rw [List.eq_of_mem_replicate hz]; rfl
theorem long_bad (n : Nat) : chkE (bts (rep 97 n ++ ⟨#[65]⟩)) = 2 := by
  have hs : (rep 97 n ++ ⟨#[65]⟩).size = n + 1 := by rw [ByteArray.size_append, rep_size]; rfl
  refine chkE_bad (i := n) (by omega) ?_
  rw [← bts_getD, bts_append, bts_rep _ _ (by omega), List.getD, List.getElem?_append_right (by simp)]
  simp [bts, kch]
theorem next_bad (s : ByteArray) (h : chkE (bts s) ≠ 0) : nxs (bts s) = ⟨#[]⟩ ∧ nxb (bts s) = false := nxs_none (by unfold nxt; rw [if_neg h])
theorem next_cases (s : ByteArray) : (∃ v, chkE (bts s) = v ∧ (v == 0) = false ∧ nxs (bts s) = ⟨#[]⟩ ∧ nxb (bts s) = false) ∨ (chkE (bts s) = 0 ∧ s = rep 122 32 ∧ nxs (bts s) = ⟨#[]⟩ ∧ nxb (bts s) = false) ∨
    (chkE (bts s) = 0 ∧ (s.toList == (rep 122 32).toList) = false ∧ nxb (bts s) = true) := by
  by_cases h : chkE (bts s) = 0
  · by_cases h2 : s = rep 122 32
    · have := nxs_none ((nxt_top h).2 (by rw [h2, bts_rep _ _ (by omega)]))
      exact .inr (.inl ⟨h, h2, this.1, this.2⟩)
    · refine .inr (.inr ⟨h, by rw [toList_beq]; exact decide_eq_false h2, ?_⟩)
      cases hn : nxt (bts s) with
      | none =>
        have := (nxt_top h).1 hn
        exact absurd (bts_inj (this.trans (bts_rep 122 32 (by omega)).symm)) h2
      | some n => unfold nxb; rw [hn]; rfl
  · exact .inl ⟨_, rfl, beq_eq_false_iff_ne.2 h, (next_bad s h).1, (next_bad s h).2⟩

set_option maxRecDepth 100000 in
set_option maxHeartbeats 8000000 in
theorem refuses_core (m : Nat) (s : ByteArray) (w : World) (htab : Pow w) (hm : m < 65536) (hs : s.size ≤ 9223372036854775807) :
    Calls Tryd.prog 10 #[.int .u16 (m : Int), .string s] w fun e w' => e = .returned (.bool true) ∧ Below w.heap.size w w' := by
  have m0 : (0 : Int) ≤ (m : Int) := by omega
  have q1 : IntKind.i64.wrap (m : Int) = m := IntWalk.i64_in _ ⟨by omega, by omega⟩
  obtain ⟨P, hP⟩ : ∃ P, P = w.heap.size := ⟨_, rfl⟩
  go_enter Tryd.func10, Tryd.ntmps10
  go_wp2_with fail
  rw [← hP]
  generalize hW : w.alloc _ = W
  have hB0 : Below w.heap.size w W := by rw [← hW]; exact (Below.refl _ _).alloc (Nat.le_refl _) _
  have hsz : W.heap.size = P + 1 := by rw [← hW, hP]; simp
  have hl := fun (wr : World) (h : Below (P + 1) W wr) => lit3 (w := w) hP (by rw [hW]; exact h)
  have gl := Lib.hid hl
  have gB0 := Lib.hid hB0
  have gsz := Lib.hid hsz
  clear hl hB0 hsz hW hP q1
  go_loopw [25] (fun i wr => ∃ k : Nat, k ≤ 3 ∧ i = .int .i64 k ∧ Hid (Below (P + 1) W wr)) (fun i _ => 3 - (intOf i).toNat)
  case atStart => exact ⟨0, by omega, rfl, Below.refl _ _⟩
  case round =>
    obtain ⟨k, hk, rfl, gI⟩ := hrel
    by_cases hlt : k < 3
    · have hc := gl.out wr gI.out
      have hx : ∃ x : Int, wr.cell? ⟨P, k, none⟩ = some (.int .i64 x) ∧ (x < 1 ∨ 32 < x) := by
        rcases (show k = 0 ∨ k = 1 ∨ k = 2 by omega) with rfl | rfl | rfl
        · exact ⟨_, hc.1, by omega⟩
        · exact ⟨_, hc.2.1, by omega⟩
        · exact ⟨_, hc.2.2, by omega⟩
      obtain ⟨x, hx1, hx2⟩ := hx
      have f1 := Lib.hid (fun w => fits_is ⟨#[]⟩ x 2 (by decide) (fit_out _ hx2) w)
      have f2 := Lib.hid (fun w => fits_is (rep 97 40) x 2 (by rw [rep_size]; omega) (fit_out _ hx2) w)
      have gs := Lib.hid (show P + 1 ≤ wr.heap.size by have := gI.out.size; rw [gsz.out] at this; exact this)
      clear hc hx2
      go_wp2_with fail
      refine (f1.out _).mono ?_
      rintro e W1 ⟨rfl, hB⟩
      have g1 := Lib.hid hB
      clear hB
      go_wp2_with fail
      refine (repeat_any 97 40 (by omega) _).mono ?_
      rintro e W2 ⟨rfl, hB⟩
      have g2 := Lib.hid (bchain g1.out hB)
      clear hB
      go_wp2_with fail
      refine (f2.out _).mono ?_
      rintro e W3 ⟨rfl, hB⟩
      have g3 := Lib.hid (bchain g2.out hB)
      clear hB
      go_wp2_with fail
      go_roundw
      case rel => exact ⟨k + 1, by omega, by go_num, gI.out.trans (g3.out.mono gs.out)⟩
      case measure => simp [intOf]; omega
    · obtain ⟨V0, hV0⟩ : ∃ V0, V0 = wr := ⟨_, rfl⟩
      subst hV0
      have gW := Lib.hid (gB0.out.trans (gI.out.mono (by have := gB0.out.size; have := gsz.out; omega)))
      obtain ⟨Q, hQ⟩ : ∃ Q, Q = V0.heap.size := ⟨_, rfl⟩
      clear gI gl gB0 gsz
      go_wp2_with fail
      rw [← hQ]
      generalize hV : V0.alloc _ = V
      have hB0 : Below w.heap.size w V := by rw [← hV]; exact gW.out.alloc gW.out.size _
      have hsz : V.heap.size = Q + 1 := by rw [← hV, hQ]; simp
      have hl := fun (wr' : World) (h : Below (Q + 1) V wr') => lit3 (w := V0) hQ (by rw [hV]; exact h)
      have gl := Lib.hid hl
      have gB0 := Lib.hid hB0
      have gsz := Lib.hid hsz
      clear hl hB0 hsz hV hQ hlt hk
      go_loopw [45] (fun i wr => ∃ k : Nat, k ≤ 3 ∧ i = .int .i64 k ∧ Hid (Below (Q + 1) V wr)) (fun i _ => 3 - (intOf i).toNat)
      case atStart => exact ⟨0, by omega, rfl, Below.refl _ _⟩
      case round =>
        obtain ⟨k, hk, rfl, gI⟩ := hrel
        have gX := Lib.hid (gB0.out.trans (gI.out.mono (by have := gB0.out.size; have := gsz.out; omega)))
        by_cases hlt : k < 3
        · have hc := gl.out wr gI.out
          have hx : ∃ x : Int, wr.cell? ⟨Q, k, none⟩ = some (.int .i64 x) ∧ (x < 0 ∨ 999999 < x) := by
            rcases (show k = 0 ∨ k = 1 ∨ k = 2 by omega) with rfl | rfl | rfl
            · exact ⟨_, hc.1, by omega⟩
            · exact ⟨_, hc.2.1, by omega⟩
            · exact ⟨_, hc.2.2, by omega⟩
          obtain ⟨x, hx1, hx2⟩ := hx
          have f1 := Lib.hid (fun w h => name_is x ⟨#[]⟩ 3 (nam_out hx2).1 (nam_out hx2).2 w h)
          have gs := Lib.hid (show Q + 1 ≤ wr.heap.size by have := gI.out.size; rw [gsz.out] at this; exact this)
          clear hc hx2
          go_wp2_with fail
          refine (f1.out _ (htab.below gX.out)).mono ?_
          rintro e W1 ⟨rfl, hB⟩
          have g1 := Lib.hid hB
          clear hB
          go_wp2_with fail
          go_roundw
          case rel => exact ⟨k + 1, by omega, by go_num, gI.out.trans (g1.out.mono gs.out)⟩
          case measure => simp [intOf]; omega
        · clear gI gl gB0 gsz gW
          by_cases h300 : 300 < s.size
          · go_wp2_with fail
            refine (works_any _ (htab.below gX.out)).mono ?_
            rintro e W1 ⟨rfl, hB⟩
            go_wp2_with fail
            go_ret
            exact ⟨rfl, bchain gX.out hB⟩
          · obtain ⟨n, hn⟩ : ∃ n, n = 33 + m % 100 := ⟨_, rfl⟩
            have e1 : (33 : Int) + (m : Int) % 100 = (n : Int) := by omega
            have hn2 : 33 ≤ n ∧ n ≤ 132 := by omega
            have r1 := Lib.hid (fun w => repeat_any 97 n (by omega) w)
            have lc := long_chk n (by omega)
            have lb := next_bad (rep 97 n) (by rw [lc]; decide)
            have f1 := Lib.hid (fun w => next_is (rep 97 n) _ _ (by rw [rep_size]; omega) lb.1 lb.2 w)
            have f2 := Lib.hid (fun w => check_is (rep 97 n) _ (by rw [rep_size]; omega) lc w)
            have f3 := Lib.hid (fun w => check_is (rep 97 n ++ ⟨#[65]⟩) _ (by rw [ByteArray.size_append, rep_size]; show n + 1 ≤ _; omega) (long_bad n) w)
            have z1 := rep_size 97 n
            have z4 : (⟨#[65]⟩ : ByteArray).size = 1 := rfl
            have hz := next_cases s
            have gn := Lib.hid (fun w t p (h1 : nxs (bts s) = t) (h2 : nxb (bts s) = p) => next_is s t p (by omega) h1 h2 w)
            have gc := Lib.hid (fun w v (h : chkE (bts s) = v) => check_is s v (by omega) h w)
            obtain ⟨l, hl⟩ : ∃ l, l = rep 97 n := ⟨_, rfl⟩
            rw [← hl] at z1
            have gl2 := Lib.hid hl
            clear hn lc lb hl
            go_wp2_with fail
            refine (r1.out _).mono ?_
            rintro e W1 ⟨rfl, hB⟩
            have g1 := Lib.hid (bchain gX.out hB)
            clear hB
            go_wp2_with fail
            refine (f1.out _).mono ?_
            rintro e W2 ⟨rfl, hB⟩
            have g2 := Lib.hid (bchain g1.out hB)
            clear hB
            rcases hz with ⟨v, v1, v2, v3, v4⟩ | ⟨v1, v2, v3, v4⟩ | ⟨v1, v2, v4⟩
            · have c1 := Lib.hid (fun w => gn.out w _ _ v3 v4)
              have c2 := Lib.hid (fun w => gc.out w _ v1)
              clear v1 v3 v4
              go_wp2_with fail
              refine (c1.out _).mono ?_
              rintro e W3 ⟨rfl, hB⟩
              have g3 := Lib.hid (bchain g2.out hB)
              clear hB
              go_wp2_with fail
              refine (f2.out _).mono ?_
              rintro e W4 ⟨rfl, hB⟩
              have g4 := Lib.hid (bchain g3.out hB)
              clear hB
              rw [← gl2.out]
              go_wp2_with fail
              rw [gl2.out]
              refine (f3.out _).mono ?_
              rintro e W5 ⟨rfl, hB⟩
              have g5 := Lib.hid (bchain g4.out hB)
              clear hB
              go_wp2_with fail
              refine (c2.out _).mono ?_
              rintro e W6 ⟨rfl, hB⟩
              have g6 := Lib.hid (bchain g5.out hB)
              clear hB
              go_wp2_with fail
              refine (works_any _ (htab.below g6.out)).mono ?_
              rintro e W7 ⟨rfl, hB⟩
              go_wp2_with fail
              go_ret
              exact ⟨rfl, bchain g6.out hB⟩
            · have c1 := Lib.hid (fun w => gn.out w _ _ v3 v4)
              have c2 := Lib.hid (fun w => gc.out w _ v1)
              have c3 := Lib.hid (show ∀ w, Calls Tryd.prog 25 #[.string ⟨#[122]⟩, .int .i64 32] w fun e w' => e = .returned (.string s) ∧ Below w.heap.size w w' from fun w => by rw [v2]; exact repeat_any 122 32 (by omega) w)
              clear v1 v2 v3 v4
              go_wp2_with fail
              refine (c1.out _).mono ?_
              rintro e W3 ⟨rfl, hB⟩
              have g3 := Lib.hid (bchain g2.out hB)
              clear hB
              go_wp2_with fail
              refine (f2.out _).mono ?_
              rintro e W4 ⟨rfl, hB⟩
              have g4 := Lib.hid (bchain g3.out hB)
              clear hB
              rw [← gl2.out]
              go_wp2_with fail
              rw [gl2.out]
              refine (f3.out _).mono ?_
              rintro e W5 ⟨rfl, hB⟩
              have g5 := Lib.hid (bchain g4.out hB)
              clear hB
              go_wp2_with fail
              refine (c2.out _).mono ?_
              rintro e W6 ⟨rfl, hB⟩
              have g6 := Lib.hid (bchain g5.out hB)
              clear hB
              go_wp2_with fail
              refine (c3.out _).mono ?_
              rintro e W8 ⟨rfl, hB⟩
              have g8 := Lib.hid (bchain g6.out hB)
              clear hB
              go_wp2_with fail
              refine (works_any _ (htab.below g8.out)).mono ?_
              rintro e W7 ⟨rfl, hB⟩
              go_wp2_with fail
              go_ret
              exact ⟨rfl, bchain g8.out hB⟩
            · have c1 := Lib.hid (fun w => gn.out w _ _ rfl v4)
              have c2 := Lib.hid (fun w => gc.out w _ v1)
              have c3 := Lib.hid (show ∀ w, Calls Tryd.prog 25 #[.string ⟨#[122]⟩, .int .i64 32] w fun e w' => e = .returned (.string (rep 122 32)) ∧ Below w.heap.size w w' from fun w => by exact repeat_any 122 32 (by omega) w)
              have v5 : (s.toList != (rep 122 32).toList) = true := by rw [bne, v2]; rfl
              generalize rep 122 32 = zz at c3 v2 v5
              clear v1 v4
              go_wp2_with fail
              refine (c1.out _).mono ?_
              rintro e W3 ⟨rfl, hB⟩
              have g3 := Lib.hid (bchain g2.out hB)
              clear hB
              go_wp2_with fail
              refine (f2.out _).mono ?_
              rintro e W4 ⟨rfl, hB⟩
              have g4 := Lib.hid (bchain g3.out hB)
              clear hB
              rw [← gl2.out]
              go_wp2_with fail
              rw [gl2.out]
              refine (f3.out _).mono ?_
              rintro e W5 ⟨rfl, hB⟩
              have g5 := Lib.hid (bchain g4.out hB)
              clear hB
              go_wp2_with fail
              refine (c2.out _).mono ?_
              rintro e W6 ⟨rfl, hB⟩
              have g6 := Lib.hid (bchain g5.out hB)
              clear hB
              go_wp2_with fail
              refine (c3.out _).mono ?_
              rintro e W8 ⟨rfl, hB⟩
              have g8 := Lib.hid (bchain g6.out hB)
              clear hB
              go_wp2_with fail
              refine (works_any _ (htab.below g8.out)).mono ?_
              rintro e W7 ⟨rfl, hB⟩
              go_wp2_with fail
              go_ret
              exact ⟨rfl, bchain g8.out hB⟩
theorem keyRefuses_walk (a0 : Int) (a1 : ByteArray) (w : World) (htab : Pow w) (w0 : (Lit.int .u16 a0).wf = true) (w1 : a1.size ≤ maxLen) :
    Calls Tryd.prog 10 #[.int .u16 a0, .string a1] w fun e w' => e = .returned (.bool true) ∧ Below w.heap.size w w' := by
  unfold maxLen at w1
  have hb := bounds_u16 w0
  obtain ⟨m, rfl⟩ := Int.eq_ofNat_of_zero_le hb.1
  exact refuses_core m a1 w htab (by omega) (by omega)
end Go.Proofs.YtipammomoeklnaaDoor
