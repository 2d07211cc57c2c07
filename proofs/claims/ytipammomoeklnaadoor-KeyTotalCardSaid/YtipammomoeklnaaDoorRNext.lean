/- Contract of the specification's own Next. -/
import Derived.Test.YtipammomoeklnaaDoorNext
namespace Go.Proofs.YtipammomoeklnaaDoor
open Go.RowKit Go.PlainAid

theorem letters_same (w : World) : Calls Tryd.prog 32 #[] w fun e w' => e = .returned (.string lets) ∧ w' = w := (letters_any w).mono fun _ _ h => ⟨h.1, h.2.symm⟩
theorem str_ext (s : ByteArray) (L : List Int) (h : bts s = L) : s = strOfNums L := by rw [← h, str_bts]
theorem extract_size (s : ByteArray) (a b : Nat) (h : b ≤ s.size) (_ : a ≤ b) : (s.extract a b).size = b - a := by
  rw [ByteArray.size_extract]; omega
theorem lets_one (j : Nat) (h : j < 39) : bts (lets.extract j (j + 1)) = [chr j] := by
  rw [bts_extract, show j + 1 - j = 1 by omega]
  have h1 : j < (bts lets).length := by rw [bts_length]; exact h
  rw [List.take_one, List.head?_drop]
  have h2 := bts_getD lets j
  rw [List.getD, List.getElem?_eq_getElem h1, bt_lets j h] at h2
  rw [List.getElem?_eq_getElem h1]
  simpa using h2

set_option maxRecDepth 100000 in
set_option maxHeartbeats 4000000 in
theorem rnext_any (s : ByteArray) (w : World) (hs : s.size ≤ 140737488355328) : Calls Tryd.prog 21 #[.string s] w fun e w' => e = .returned (.tuple #[.string (nxs (bts s)), .bool (nxb (bts s))]) ∧ Below w.heap.size w w' := by
  have hck := rcheck_any s w hs
  by_cases hv : chkE (bts s) = 0
  · rw [hv] at hck
    have gv := Lib.hid hv
    have hsz : s.size ≤ 32 := by have := (chkE_ok hv).2.1; rwa [bts_length] at this
    clear hv
    have hz := lets_size
    by_cases h32 : s.size < 32
    · have gn := Lib.hid (nxs_some (L := bts s) (n := bts s ++ [45]) (by unfold nxt; rw [if_pos gv.out, if_pos (by rw [bts_length]; exact h32)]))
      have e1 : (lets.extract 0 1).size = 1 := rfl
      have ge := Lib.hid (show s ++ lets.extract 0 1 = strOfNums (bts s ++ [45]) from str_ext _ _ (by rw [bts_append, lets_one 0 (by omega)]; rfl))
      go_enter Tryd.func21, Tryd.ntmps21
      go_wp2_with (first
        | (go_at_call 13; refine hck.mono ?_; rintro e w' ⟨rfl, rfl⟩)
        | (go_at_call 32; refine (letters_any _).mono ?_; rintro e w' ⟨rfl, rfl⟩))
      go_ret2
      exact ⟨ret_sb (by rw [gn.out.1, ← ge.out]) gn.out.2.symm, Below.refl _ _⟩
    · have h33 : s.size = 32 := by omega
      have gn : Hid (nxt (bts s) = nx (bts s) 32) := by
        show nxt (bts s) = nx (bts s) 32
        have h := nx_is (bts s)
        rw [bts_length, h33] at h
        unfold nxt
        rw [if_pos gv.out, bts_length, if_neg h32, h]
      have gk := Lib.hid (show ∀ i, i < 32 → kch (bt s i) = true from fun i hi => kch_nth gv.out (by omega))
      have hg := get_bt s
      clear gv hsz h32
      go_enter Tryd.func21, Tryd.ntmps21
      go_wp2_with (go_at_call 13; refine hck.mono ?_; rintro e w' ⟨rfl, rfl⟩)
      go_loopw [4] (fun i wr => ∃ m : Nat, m ≤ 32 ∧ i = .int .i64 ((m : Int) - 1) ∧ Hid (nxt (bts s) = nx (bts s) m) ∧ wr = w) (fun i _ => (intOf i + 1).toNat)
      case atStart => exact ⟨32, Nat.le_refl _, rfl, gn.out, rfl⟩
      case round =>
        obtain ⟨m, hm, rfl, gI, rfl⟩ := hrel
        cases m with
        | zero =>
          have g0 := Lib.hid (nxs_none (L := bts s) gI.out)
          have em : ((0 : Nat) : Int) - 1 = -1 := rfl
          rw [em]
          go_wp2_with fail
          go_ret2
          exact ⟨ret_sb g0.out.1.symm g0.out.2.symm, Below.refl _ _⟩
        | succ k =>
          have em : ((k + 1 : Nat) : Int) - 1 = (k : Int) := by omega
          rw [em]
          have hk := gk.out k (by omega)
          have hp := plc_bd (bt s k)
          have hl := plc_last _ hk
          have hp0 : 0 ≤ plc (bt s k) := by have := plc_kch (bt s k); rw [hk] at this; simpa using this
          obtain ⟨j, hj⟩ : ∃ j : Nat, plc (bt s k) = j := ⟨(plc (bt s k)).toNat, by omega⟩
          have hpl := fun w => place_any (bt s k) w
          rw [hj] at hpl hl hp
          have hklt : k < 32 := by omega
          by_cases h122 : bt s k = 122
          · have gJ := Lib.hid (show nxt (bts s) = nx (bts s) k by rw [gI.out, nx, bts_getD, if_pos h122])
            have hj38 : ¬ (j : Int) < 38 := by have := hl.2 h122; omega
            clear h122 hl hj
            go_wp2_with (first
              | (go_at_call 29; refine (hpl _).mono ?_; rintro e w' ⟨rfl, rfl⟩)
              | (go_at_call 32; refine (letters_any _).mono ?_; rintro e w' ⟨rfl, rfl⟩))
            go_roundw
            case rel => exact ⟨k, by omega, by go_num, gJ.out, trivial⟩
            case measure => simp [intOf]
          · have hj38 : (j : Int) < 38 := by have := fun h => h122 (hl.1 h); omega
            have g0 := Lib.hid (nxs_some (L := bts s) (by rw [gI.out, nx, bts_getD, if_neg h122]))
            have e1 : (lets.extract (j + 1) (j + 2)).size = 1 := by rw [extract_size _ _ _ (by rw [lets_size]; omega) (by omega)]; omega
            have e2 : (s.extract 0 k).size = k := by rw [extract_size _ _ _ (by omega) (by omega)]; omega
            have ge := Lib.hid (show s.extract 0 k ++ lets.extract (j + 1) (j + 2) = strOfNums ((bts s).take k ++ [suc (bt s k)]) from str_ext _ _ (by
              rw [bts_append, bts_extract, lets_one (j + 1) (by omega), List.drop_zero, Nat.sub_zero]
              unfold suc; rw [hj]; rfl))
            clear h122 hl hj
            go_wp2_with (first
              | (go_at_call 29; refine (hpl _).mono ?_; rintro e w' ⟨rfl, rfl⟩)
              | (go_at_call 32; refine (letters_any _).mono ?_; rintro e w' ⟨rfl, rfl⟩))
            go_quiet ((go_at_call 32; exact Calls.quiet_of_same (letters_same _)))
            go_wp2_with fail
            go_ret2
            exact ⟨ret_sb (by rw [g0.out.1, ← ge.out]) g0.out.2.symm, below_drewN (Below.refl _ _) _⟩
  · have h1 : (chkE (bts s) != 0) = true := by simpa using hv
    have h2 := Lib.hid (nxs_none (L := bts s) (by unfold nxt; rw [if_neg hv]))
    clear hv
    go_enter Tryd.func21, Tryd.ntmps21
    go_wp2_with (go_at_call 13; refine hck.mono ?_; rintro e w' ⟨rfl, rfl⟩)
    go_ret2
    exact ⟨ret_sb h2.out.1.symm h2.out.2.symm, Below.refl _ _⟩
end Go.Proofs.YtipammomoeklnaaDoor
