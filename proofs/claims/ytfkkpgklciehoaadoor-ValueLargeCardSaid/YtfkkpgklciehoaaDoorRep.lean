/- Contract of package value's Repeat. -/
import Derived.Test.YtfkkpgklciehoaaDoorVal
namespace Go.Proofs.YtfkkpgklciehoaaDoor
open Go.RowKit Go.PlainAid

set_option maxHeartbeats 2000000 in
theorem repeat_go (s : ByteArray) (n : Nat) (w : World) (hs : s.size ≤ 1000000) (h0 : 0 < s.size) (hn : n ≤ 512) : Calls Tryd.prog 20 #[.string s, .int .i64 (n : Int)] w fun e w' => e = .returned (.tuple #[.string (strOfNums (repL s n)), .int .i64 0]) ∧ Below w.heap.size w w' := by
  have he := not_empty_of h0
  have hg := get_bt s
  have gN := Lib.hid (bld_new w)
  have gA := Lib.hid ((Below.refl w.heap.size w).alloc (Nat.le_refl _) (.cells #[.pointer none, .slice none 0 0] 37))
  go_enter Tryd.func20, Tryd.ntmps20
  go_wp2_with fail
  go_loopw [7, 21] (fun _ i wr => ∃ j : Nat, j ≤ n ∧ i = .int .i64 j ∧ Hid (Bld w.heap.size (repL s j) wr ∧ Below w.heap.size w wr)) (fun _ i _ => n - (intOf i).toNat)
  case atStart => exact ⟨0, Nat.zero_le _, rfl, gN.out, gA.out⟩
  case round =>
    obtain ⟨j, hj, rfl, gI⟩ := hrel
    by_cases hlt : j < n
    · obtain ⟨r, hr⟩ : ∃ r, r = j % s.size := ⟨_, rfl⟩
      have hrl : r < s.size := by rw [hr]; exact Nat.mod_lt _ h0
      have q1 : (j : Int) % (s.size : Int) = (r : Int) := by rw [hr]; exact (Int.natCast_emod j s.size).symm
      have q2 : (j : Int).tmod (s.size : Int) = (r : Int) := by rw [Int.tmod_eq_emod_of_nonneg (by omega), q1]
      have gr := Lib.hid hr
      clear hr
      go_wp2_with fail
      go_at_call 31
      refine (writeByte_any _ _ _ _ gI.out.1 (by rw [repL_length]; omega)).mono ?_
      rintro e w1 ⟨rfl, h1, b1⟩
      have g1 := Lib.hid h1
      have gb := Lib.hid (gI.out.2.trans b1)
      clear h1 b1
      go_wp2_with fail
      go_roundw
      case rel => exact ⟨j + 1, by omega, by go_num, by rw [repL_succ, ← gr.out]; exact g1.out, gb.out⟩
      case measure => simp [intOf]; omega
    · obtain rfl : j = n := by omega
      go_wp2_with fail
      go_at_call 26
      refine (string_any _ _ _ gI.out.1 (repL_bd s j)).mono ?_
      rintro e w2 ⟨rfl, b2⟩
      have gb := Lib.hid (gI.out.2.trans b2)
      clear b2
      go_wp2_with fail
      go_ret2
      exact ⟨rfl, gb.out⟩

set_option maxHeartbeats 2000000 in
theorem repeat_none (s : ByteArray) (w : World) (h0 : s.size = 0) : Calls Tryd.prog 20 #[.string s, .int .i64 0] w fun e w' => e = .returned (.tuple #[.string (strOfNums []), .int .i64 0]) ∧ Below w.heap.size w w' := by
  have he := empty_of h0
  have gN := Lib.hid (bld_new w)
  have gA := Lib.hid ((Below.refl w.heap.size w).alloc (Nat.le_refl _) (.cells #[.pointer none, .slice none 0 0] 37))
  go_enter Tryd.func20, Tryd.ntmps20
  go_wp2_with fail
  go_loopw [7, 21] (fun _ i wr => i = .int .i64 0 ∧ Hid (Bld w.heap.size [] wr ∧ Below w.heap.size w wr)) (fun _ _ _ => 0)
  case atStart => exact ⟨rfl, gN.out, gA.out⟩
  case round =>
    obtain ⟨rfl, gI⟩ := hrel
    go_wp2_with fail
    go_at_call 26
    refine (string_any _ _ _ gI.out.1 (fun _ h => by cases h)).mono ?_
    rintro e w2 ⟨rfl, b2⟩
    have gb := Lib.hid (gI.out.2.trans b2)
    clear b2
    go_wp2_with fail
    go_ret2
    exact ⟨rfl, gb.out⟩

set_option maxHeartbeats 1000000 in
theorem repeat_any (s : ByteArray) (n : Int) (w : World) (hs : s.size ≤ 1000000) : Calls Tryd.prog 20 #[.string s, .int .i64 n] w fun e w' => e = .returned (.tuple #[.string (repS s n), .int .i64 (repE s n)]) ∧ Below w.heap.size w w' := by
  have bad : ∀ v : Int, v ≠ 0 → repE s n = v → repS s n = ⟨#[]⟩ := fun v hv h => by unfold repS; rw [if_neg (by omega)]
  by_cases h1 : n < 0
  · have e2 : repE s n = 2 := by unfold repE; rw [if_pos (.inl h1)]
    have e1 := bad 2 (by decide) e2
    rw [e1, e2]
    clear e1 e2 bad
    go_enter Tryd.func20, Tryd.ntmps20
    go_wp2_with fail
    go_ret2
    exact ⟨rfl, Below.refl _ _⟩
  by_cases h0 : s.size = 0
  · by_cases hn : n = 0
    · subst hn
      have e2 : repE s 0 = 0 := by unfold repE; rw [if_neg (by simp), if_neg (by omega)]
      have e1 : repS s 0 = strOfNums [] := by unfold repS; rw [if_pos e2]; rfl
      rw [e1, e2]
      exact repeat_none s w h0
    · have e2 : repE s n = 2 := by unfold repE; rw [if_pos (.inr ⟨h0, hn⟩)]
      have e1 := bad 2 (by decide) e2
      have he := empty_of h0
      have ht : (n == 0) = false := by simp [hn]
      have ht2 : (n != 0) = true := by simp [hn]
      rw [e1, e2]
      clear e1 e2 bad hn
      go_enter Tryd.func20, Tryd.ntmps20
      go_wp2_with fail
      go_ret2
      exact ⟨rfl, Below.refl _ _⟩
  · by_cases h2 : 512 < n
    · have e2 : repE s n = 12 := by unfold repE; rw [if_neg (by omega), if_pos h2]
      have e1 := bad 12 (by decide) e2
      have he := not_empty_of (show 0 < s.size by omega)
      rw [e1, e2]
      clear e1 e2 bad
      go_enter Tryd.func20, Tryd.ntmps20
      go_wp2_with fail
      go_ret2
      exact ⟨rfl, Below.refl _ _⟩
    · have e2 : repE s n = 0 := by unfold repE; rw [if_neg (by omega), if_neg h2]
      have e1 : repS s n = strOfNums (repL s n.toNat) := by unfold repS; rw [if_pos e2]
      rw [e1, e2]
      obtain ⟨m, rfl⟩ := Int.eq_ofNat_of_zero_le (show 0 ≤ n by omega)
      exact repeat_go s m w hs (by omega) (by omega)
end Go.Proofs.YtfkkpgklciehoaaDoor
