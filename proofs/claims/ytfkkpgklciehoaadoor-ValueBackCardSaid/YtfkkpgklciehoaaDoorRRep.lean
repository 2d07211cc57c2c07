/- Contract of the specification's Repeat. -/
import Derived.Test.YtfkkpgklciehoaaDoorRPrs
namespace Go.Proofs.YtfkkpgklciehoaaDoor
open Go.RowKit Go.PlainAid

set_option maxRecDepth 100000 in
set_option maxHeartbeats 2000000 in
theorem rrepeat_go (s : ByteArray) (n : Nat) (w : World) (hs : s.size ≤ 1000000) (h0 : 0 < s.size) (hn : n ≤ 512) : Calls Tryd.prog 21 #[.string s, .int .i64 (n : Int)] w fun e w' => e = .returned (.tuple #[.string (strOfNums (repL s n)), .int .i64 0]) ∧ Below w.heap.size w w' := by
  have he := not_empty_of h0
  have hz : ((s.size : Int) == 0) = false := beq_eq_false_iff_ne.2 (by omega)
  have hg := get_bt s
  obtain ⟨i0, hi0, hz0, hz1, hz2⟩ := info_parts info5
  have Hi0 := Lib.hid hi0
  have Hz0 := Lib.hid hz0
  have Hz1 := Lib.hid hz1
  have Hz2 := Lib.hid hz2
  clear hi0 hz0 hz1 hz2
  go_enter Tryd.func21, Tryd.ntmps21
  go_wp2_with fail
  go_loopw [6, 7] (fun v i wr => ∃ j : Nat, j ≤ n ∧ i = .int .i64 j ∧ Hid (wr.ownsRow w.heap.size 5 1 v j ((repL s j).map (Value.int .u8)) ∧ Below w.heap.size w wr)) (fun _ i _ => n - (intOf i).toNat)
  case atStart => exact ⟨0, Nat.zero_le _, rfl, World.ownsRow_nil _ _ _ _, Below.refl _ _⟩
  case round =>
    obtain ⟨j, hj, rfl, gI⟩ := hrel
    by_cases hlt : j < n
    · obtain ⟨r, hr⟩ : ∃ r, r = j % s.size := ⟨_, rfl⟩
      have hrl : r < s.size := by rw [hr]; exact Nat.mod_lt _ h0
      have q1 : (j : Int) % (s.size : Int) = (r : Int) := by rw [hr]; exact (Int.natCast_emod j s.size).symm
      have q2 : (j : Int).tmod (s.size : Int) = (r : Int) := by rw [Int.tmod_eq_emod_of_nonneg (by omega), q1]
      have gr := Lib.hid (show repL s (j + 1) = repL s j ++ [bt s r] by rw [repL_succ, hr])
      have hbs := gI.out.2.size
      clear hr
      go_wp2_with (at_builtin; refine wpList_append_own _ rfl (.tmp 25) (.tmp 32) 35 rfl w.heap.size 5 i0 (.int .u8 0) 1 1 Tryd.underlying35 Hi0.out Hz0.out Hz1.out Hz2.out rfl (by omega) _ j _ rfl (gI.out.1.alloc _) ⟨wr.heap.size, 0, none⟩ 1 1 [.int .u8 (bt s r)] rfl rfl (World.news_of_block (heap_alloc_new _ _)) (by simp [Value.oneCell']) (by unfold maxLen; omega) (by omega) (by simp; omega) ?_; intro v2 w2 hown2 hg2 _)
      have ge := Lib.hid ((gI.out.2.alloc hbs _).grown hg2 (by simp; omega) (fun q hq => (gI.out.1.lt q hq).1))
      have gf := Lib.hid (show w2.ownsRow w.heap.size 5 1 v2 (j + 1) ((repL s (j + 1)).map (Value.int .u8)) by rw [gr.out, List.map_append]; exact hown2)
      clear hown2 hg2
      go_roundw
      case rel => exact ⟨j + 1, by omega, by go_num, gf.out, ge.out⟩
      case measure => simp [intOf]; omega
    · obtain rfl : j = n := by omega
      obtain ⟨A, c, rfl, hI⟩ := own_form_n gI.out.1 (repL_bd _ _)
      have hcv := conv_bytes wr A _ c _ hI
      clear hI
      go_wp2_with fail
      go_ret2
      exact ⟨rfl, gI.out.2⟩

set_option maxHeartbeats 2000000 in
theorem rrepeat_none (s : ByteArray) (w : World) (h0 : s.size = 0) : Calls Tryd.prog 21 #[.string s, .int .i64 0] w fun e w' => e = .returned (.tuple #[.string (strOfNums []), .int .i64 0]) ∧ Below w.heap.size w w' := by
  have he := empty_of h0
  go_enter Tryd.func21, Tryd.ntmps21
  go_wp2_with fail
  go_loopw [6, 7] (fun v i wr => i = .int .i64 0 ∧ v = .slice none 0 0 ∧ Hid (Below w.heap.size w wr)) (fun _ _ _ => 0)
  case atStart => exact ⟨rfl, rfl, Below.refl _ _⟩
  case round =>
    obtain ⟨rfl, rfl, gI⟩ := hrel
    have hcv := conv_zero wr none 0
    go_wp2_with fail
    go_ret2
    exact ⟨rfl, gI.out⟩

set_option maxHeartbeats 1000000 in
theorem rrepeat_any (s : ByteArray) (n : Int) (w : World) (hs : s.size ≤ 1000000) : Calls Tryd.prog 21 #[.string s, .int .i64 n] w fun e w' => e = .returned (.tuple #[.string (repS s n), .int .i64 (repE s n)]) ∧ Below w.heap.size w w' := by
  have bad : ∀ v : Int, v ≠ 0 → repE s n = v → repS s n = ⟨#[]⟩ := fun v hv h => by unfold repS; rw [if_neg (by omega)]
  by_cases h1 : n < 0
  · have e2 : repE s n = 2 := by unfold repE; rw [if_pos (.inl h1)]
    have e1 := bad 2 (by decide) e2
    rw [e1, e2]
    clear e1 e2 bad
    go_enter Tryd.func21, Tryd.ntmps21
    go_wp2_with fail
    go_ret2
    exact ⟨rfl, Below.refl _ _⟩
  by_cases h0 : s.size = 0
  · by_cases hn : n = 0
    · subst hn
      have e2 : repE s 0 = 0 := by unfold repE; rw [if_neg (by simp), if_neg (by omega)]
      have e1 : repS s 0 = strOfNums [] := by unfold repS; rw [if_pos e2]; rfl
      rw [e1, e2]
      exact rrepeat_none s w h0
    · have e2 : repE s n = 2 := by unfold repE; rw [if_pos (.inr ⟨h0, hn⟩)]
      have e1 := bad 2 (by decide) e2
      have he := empty_of h0
      have hp : 0 < n := by omega
      rw [e1, e2]
      clear e1 e2 bad hn h1
      go_enter Tryd.func21, Tryd.ntmps21
      go_wp2_with fail
      go_ret2
      exact ⟨rfl, Below.refl _ _⟩
  · by_cases h2 : 512 < n
    · have e2 : repE s n = 12 := by unfold repE; rw [if_neg (by omega), if_pos h2]
      have e1 := bad 12 (by decide) e2
      have he := not_empty_of (show 0 < s.size by omega)
      rw [e1, e2]
      clear e1 e2 bad
      go_enter Tryd.func21, Tryd.ntmps21
      go_wp2_with fail
      go_ret2
      exact ⟨rfl, Below.refl _ _⟩
    · have e2 : repE s n = 0 := by unfold repE; rw [if_neg (by omega), if_neg h2]
      have e1 : repS s n = strOfNums (repL s n.toNat) := by unfold repS; rw [if_pos e2]
      rw [e1, e2]
      obtain ⟨m, rfl⟩ := Int.eq_ofNat_of_zero_le (show 0 ≤ n by omega)
      exact rrepeat_go s m w hs (by omega) (by omega)
end Go.Proofs.YtfkkpgklciehoaaDoor
