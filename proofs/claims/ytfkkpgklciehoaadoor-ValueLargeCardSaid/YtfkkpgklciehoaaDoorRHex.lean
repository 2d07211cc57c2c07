/- Contracts of the specification's own functions on bytes: hex, digit, Check, Text, Parse, Repeat. -/
import Derived.Test.YtfkkpgklciehoaaDoorSho
import Derived.Deep.QuietTactic
import Derived.BigQuiet
namespace Go.Proofs.YtfkkpgklciehoaaDoor
open Go.RowKit Go.PlainAid

theorem rhex_step {w wr w2 : World} {B n j cap2 g2 : Nat} {z : Int} {zs : List Int} {v : Value} {o : Obj} (hB : B ≤ wr.heap.size) (hzn : zs.length = n) (hj : j < n) (hz : z = zs.getD j 0)
    (hown : wr.ownsRow B 5 1 v (2 * j) ((hexL (zs.take j)).map (Value.int .u8))) (hbl : Below B w wr)
    (hown2 : w2.ownsRow B 5 1 (.slice (some ⟨g2, 0, none⟩) (2 * j + 2) cap2) (2 * j + 2) ((hexL (zs.take j)).map (Value.int .u8) ++ [.int .u8 (hexd (z / 16)), .int .u8 (hexd (z % 16))]))
    (hg : (wr.alloc o).drew.grownBy w2 v.ownBlock) :
    w2.ownsRow B 5 1 (.slice (some ⟨g2, 0, none⟩) (2 * j + 2) cap2) (2 * (j + 1)) ((hexL (zs.take (j + 1))).map (Value.int .u8)) ∧ Below B w w2 := by
  constructor
  · have e : zs.take (j + 1) = zs.take j ++ [z] := by rw [take_succ_ints zs j (by omega), hz]
    rw [e, hexL_snoc, List.map_append]
    exact hown2
  · have h1 : Below B w (wr.alloc o).drew := (hbl.alloc hB o).drew
    exact h1.grown hg (by simp; omega) (fun k hk => (hown.lt k hk).1)

set_option maxRecDepth 100000 in
set_option maxHeartbeats 4000000 in
theorem rhex_any (s : ByteArray) (w : World) (hs : s.size ≤ 1000000) : Calls Tryd.prog 27 #[.string s] w fun e w' => e = .returned (.string (strOfNums (hexL (bts s)))) ∧ Below w.heap.size w w' := by
  obtain ⟨i0, hi0, hz0, hz1, hz2⟩ := info_parts info5
  have Hi0 := Lib.hid hi0
  have Hz0 := Lib.hid hz0
  have Hz1 := Lib.hid hz1
  have Hz2 := Lib.hid hz2
  have hzn := Lib.hid (bts_length s)
  clear hi0 hz0 hz1 hz2
  go_enter Tryd.func27, Tryd.ntmps27
  go_wp2_with fail
  go_loopw [3, 4] (fun v i wr => ∃ j : Nat, j ≤ s.size ∧ i = .int .i64 j ∧ Hid (wr.ownsRow w.heap.size 5 1 v (2 * j) ((hexL ((bts s).take j)).map (Value.int .u8))) ∧ Hid (Below w.heap.size w wr)) (fun _ i _ => s.size - (intOf i).toNat)
  case atStart => exact ⟨0, Nat.zero_le _, rfl, World.ownsRow_nil _ _ _ _, Below.refl _ _⟩
  case round =>
    obtain ⟨j, hj, rfl, hown, hbl⟩ := hrel
    by_cases hlt : j < s.size
    · have hgj := get_bt s j hlt
      have b1 := bt_nonneg s j
      have b2 := bt_le s j
      obtain ⟨z, hz⟩ : ∃ z, z = bt s j := ⟨_, rfl⟩
      rw [← hz] at hgj b1 b2
      have Hz := Lib.hid (hz.trans (bts_getD s j).symm)
      clear hz
      have x1 := fun w => idx_hex (z / 16) (by omega) (by omega) w
      have x2 := fun w => idx_hex (z % 16) (by omega) (by omega) w
      have q1 : z.tdiv 16 = z / 16 := Int.tdiv_eq_ediv_of_nonneg b1
      have q2 : z.tmod 16 = z % 16 := Int.tmod_eq_emod_of_nonneg b1
      have q3 : IntKind.u8.wrap (z / 16) = z / 16 := by rw [IntKind.wrap_u8]; omega
      have q4 : IntKind.u8.wrap (z % 16) = z % 16 := by rw [IntKind.wrap_u8]; omega
      have hsz := hbl.out.size
      go_wp2_with fail
      go_region_law ((refine step_append_lies _ rfl (.tmp 11) (.tmp 22) 35 rfl w.heap.size 5 i0 (.int .u8 0) 1 1 Tryd.underlying35 Hi0.out Hz0.out Hz1.out Hz2.out rfl (by omega) _ (2 * j) ((hexL ((bts s).take j)).map (Value.int .u8)) (by rfl) ((hown.out.alloc _).drew) ⟨wr.heap.size, 0, none⟩ 2 2 [.int .u8 (hexd (z / 16)), .int .u8 (hexd (z % 16))] (by rfl) rfl (World.news_of_block (heap_alloc_new _ _)) (by simp [Value.oneCell']) (by omega) (by unfold maxLen; omega) (by omega) (by simp; exact Nat.le_succ_of_le hsz) (wr.heap.size + 1) (by simp) ?_; intro g2 cap2 w2 hown2 hg2 hat2 hlt2))
      go_wp2_with fail
      all_goals have hst := rhex_step hsz hzn.out hlt Hz.out hown.out hbl.out hown2 hg2
      all_goals go_roundw
      all_goals first
        | (case rel => exact ⟨j + 1, by omega, by go_num, hst.1, hst.2⟩)
        | (case measure => simp [intOf]; omega)
    · obtain rfl : j = s.size := by omega
      have h1 := hown.out
      rw [List.take_of_length_le (by rw [hzn.out]; exact Nat.le_refl _), show 2 * s.size = (hexL (bts s)).length by rw [hexL_length, hzn.out]] at h1
      obtain ⟨A, c, rfl, hI⟩ := own_form h1 (hexL_bd _ (bts_bd s))
      have hcv := conv_bytes wr A _ c _ hI
      clear h1 hI
      go_wp2_with fail
      go_ret
      exact ⟨rfl, hbl.out⟩
end Go.Proofs.YtfkkpgklciehoaaDoor
