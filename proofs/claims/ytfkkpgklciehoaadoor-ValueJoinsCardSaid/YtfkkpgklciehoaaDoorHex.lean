/- Contracts of codec's Hex and ParseHex. -/
import Derived.Test.YtfkkpgklciehoaaDoorBase
namespace Go.Proofs.YtfkkpgklciehoaaDoor
open Go.RowKit Go.PlainAid

theorem idx_hex (d : Int) (h0 : 0 ≤ d) (h1 : d < 16) (w : World) : (Instr.index 9 (.string ⟨#[48, 49, 50, 51, 52, 53, 54, 55, 56, 57, 97, 98, 99, 100, 101, 102]⟩) (.int .u8 d)).run Tryd.prog w = .ok (.int .u8 (hexd d)) w := by
  obtain ⟨n, rfl⟩ := Int.eq_ofNat_of_zero_le h0
  have : n < 16 := by omega
  have h16 : n = 0 ∨ n = 1 ∨ n = 2 ∨ n = 3 ∨ n = 4 ∨ n = 5 ∨ n = 6 ∨ n = 7 ∨ n = 8 ∨ n = 9 ∨ n = 10 ∨ n = 11 ∨ n = 12 ∨ n = 13 ∨ n = 14 ∨ n = 15 := by omega
  rcases h16 with rfl | rfl | rfl | rfl | rfl | rfl | rfl | rfl | rfl | rfl | rfl | rfl | rfl | rfl | rfl | rfl <;> (clear h0 h1; exact (show _ = _ from by kernel_rfl))

theorem and15 (z : Int) (h0 : 0 ≤ z) (h1 : z ≤ 255) : bits .and .u8 z 15 = z % 16 := by
  obtain ⟨n, rfl⟩ := Int.eq_ofNat_of_zero_le h0
  have h := u8_and_nat n 15 (by omega) (by omega)
  have e : n &&& 15 = n % 16 := Nat.and_two_pow_sub_one_eq_mod n 4
  rw [e] at h
  exact h
theorem hex_step {w wr w2 : World} {B n j g cap g2 cap2 : Nat} {z : Int} {zs : List Int} {o : Obj} (hB : B ≤ wr.heap.size) (hzn : zs.length = n) (hj : j < n) (hz : z = zs.getD j 0)
    (hown : wr.ownsRow B 5 1 (.slice (some ⟨g, 0, none⟩) (2 * j) cap) (2 * j) ((hexL (zs.take j)).map (Value.int .u8))) (hbl : Below B w wr)
    (hown2 : w2.ownsRow B 5 1 (.slice (some ⟨g2, 0, none⟩) (2 * j + 2) cap2) (2 * j + 2) ((hexL (zs.take j)).map (Value.int .u8) ++ [.int .u8 (hexd (z / 16)), .int .u8 (hexd (z % 16))]))
    (hg : (wr.alloc o).drew.grownBy w2 (Value.slice (some ⟨g, 0, none⟩) (2 * j) cap).ownBlock) :
    ∃ (j' g' cap' : Nat), j' ≤ n ∧ Value.int .i64 ((j : Int) + 1) = .int .i64 j' ∧ Value.slice (some ⟨g2, 0, none⟩) (2 * j + 2) cap2 = .slice (some ⟨g', 0, none⟩) (2 * j') cap' ∧ w2.ownsRow B 5 1 (.slice (some ⟨g', 0, none⟩) (2 * j') cap') (2 * j') ((hexL (zs.take j')).map (Value.int .u8)) ∧ Below B w w2 := by
  refine ⟨j + 1, g2, cap2, by omega, by go_num, rfl, ?_, ?_⟩
  · have e : zs.take (j + 1) = zs.take j ++ [z] := by
      rw [take_succ_ints zs j (by omega), hz, List.getD]
    rw [e, hexL_snoc, List.map_append]
    exact hown2
  · have h1 : Below B w (wr.alloc o).drew := (hbl.alloc hB o).drew
    exact h1.grown hg (by simp; omega) (fun k hk => (hown.lt k hk).1)

set_option maxHeartbeats 1000000 in
theorem hex_any (A : Option Addr) (n c : Nat) (zs : List Int) (w : World) (hb : BI w A n zs) (hn : n ≤ 70368744177664) :
   Calls Tryd.prog 25 #[.slice A n c] w fun e w' => e = .returned (.string (strOfNums (hexL zs))) ∧ Below w.heap.size w w' := by
  have hmk := make_bytes 0 (2 * n) (by omega) (by omega)
  rw [show ((2 * n : Nat) : Int) = 2 * (n : Int) from by omega, show ((0 : Nat) : Int) = 0 from rfl] at hmk
  go_enter Tryd.func25, Tryd.ntmps25
  go_wp2_with fail
  have hzn := Lib.hid hb.1
  have hzb := Lib.hid hb.2.1
  obtain ⟨i0, hi0, hz0, hz1, hz2⟩ := info_parts info5
  have Hi0 := Lib.hid hi0
  have Hz0 := Lib.hid hz0
  have Hz1 := Lib.hid hz1
  have Hz2 := Lib.hid hz2
  clear hi0 hz0 hz1 hz2 hmk
  have hbw : Below w.heap.size w (w.alloc (.cells (byteZeros (2 * n)) 5)) := (Below.refl _ _).alloc (Nat.le_refl _) _
  have hown0 : (w.alloc (.cells (byteZeros (2 * n)) 5)).ownsRow w.heap.size 5 1 (.slice (some ⟨w.heap.size, 0, none⟩) 0 (2 * n)) 0 [] :=
    ⟨rfl, .inr ⟨w.heap.size, 2 * n, byteZeros (2 * n), rfl, Nat.le_refl _, heap_alloc_new w _, Nat.zero_le _, by unfold maxLen; omega, by simp [byteZeros, size_madeCells], by simp⟩⟩
  go_loopw [3, 12] (fun v i wr => ∃ (j g cap : Nat), j ≤ n ∧ i = .int .i64 j ∧ v = .slice (some ⟨g, 0, none⟩) (2 * j) cap ∧ wr.ownsRow w.heap.size 5 1 (.slice (some ⟨g, 0, none⟩) (2 * j) cap) (2 * j) ((hexL (zs.take j)).map (Value.int .u8)) ∧ Below w.heap.size w wr) (fun _ i _ => n - (intOf i).toNat)
  case atStart => exact ⟨0, w.heap.size, 2 * n, Nat.zero_le _, rfl, rfl, hown0, hbw⟩
  case round =>
    obtain ⟨j, g, cap, hj, rfl, rfl, hown, hbl⟩ := hrel
    by_cases hlt : j < n
    · obtain ⟨b, o, rfl, hcell⟩ := hb.2.2 (by omega)
      have hc0 := hcell j hlt
      have hc := (hbl.cell (lt_of_cell hc0)).trans hc0
      obtain ⟨z, hz⟩ : ∃ z, z = zs.getD j 0 := ⟨_, rfl⟩
      rw [← hz] at hc
      have Hz := Lib.hid hz
      have hzr : 0 ≤ z ∧ z ≤ 255 := by
        rw [hz, List.getD, List.getElem?_eq_getElem (by rw [hzn.out]; omega)]
        exact hzb.out _ (List.getElem_mem _)
      have x1 := fun w => idx_hex (z / 16) (by omega) (by omega) w
      have x2 := fun w => idx_hex (z % 16) (by omega) (by omega) w
      obtain ⟨z1, z2⟩ := hzr
      have ha := and15 z z1 z2
      clear hz hcell hc0
      go_wp2
      go_region_law ((refine step_append_lies _ rfl (.tmp 16) (.tmp 23) 35 rfl w.heap.size 5 i0 (.int .u8 0) 1 1 Tryd.underlying35 Hi0.out Hz0.out Hz1.out Hz2.out rfl (by omega) (.slice (some ⟨g, 0, none⟩) (2 * j) cap) (2 * j) ((hexL (zs.take j)).map (Value.int .u8)) (by rfl) ((hown.alloc _).drew) ⟨wr.heap.size, 0, none⟩ 2 2 [.int .u8 (hexd (z / 16)), .int .u8 (hexd (z % 16))] (by rfl) rfl (World.news_of_block (heap_alloc_new _ _)) (by simp [Value.oneCell']) (by omega) (by unfold maxLen; omega) (by omega) (by simp; exact Nat.le_succ_of_le hbl.size) (wr.heap.size + 1) (by simp) ?_; intro g2 cap2 w2 hown2 hg2 hat2 hlt2))
      go_wp2
      all_goals go_roundw
      all_goals first
        | (case rel => exact hex_step hbl.size hzn.out hlt Hz.out hown hbl hown2 hg2)
        | (case measure => simp [intOf]; omega)
    · obtain rfl : j = n := by omega
      have hl := hzn.out
      have e : zs.take j = zs := List.take_of_length_le (by omega)
      rw [e] at hown
      have hconv := conv_bytes wr (some ⟨g, 0, none⟩) (2 * j) cap (hexL zs) (own_bi hown (hexL_bd zs hzb.out))
      clear e hl hown
      go_wp2
      go_ret
      exact ⟨rfl, hbl⟩

set_option maxHeartbeats 400000 in
theorem hexValue_any (c : Int) (w : World) (h0 : 0 ≤ c) (h1 : c ≤ 255) : Calls Tryd.prog 35 #[.int .u8 c] w fun e w' => e = .returned (.tuple #[.int .u8 (hv c), .bool (hok c)]) ∧ w = w' := by
  by_cases a1 : 48 ≤ c
  all_goals by_cases a2 : c ≤ 57
  all_goals by_cases a3 : 97 ≤ c
  all_goals by_cases a4 : c ≤ 102
  all_goals try omega
  all_goals (
    go_enter Tryd.func35, Tryd.ntmps35
    go_wp2
    go_ret2
    refine ⟨?_, rfl⟩
    simp [hv, hok, *])
  all_goals omega

def HexParsed (s : ByteArray) (w : World) (e : Ending) (w' : World) : Prop :=
  ∃ (A : Option Addr) (m : Nat), e = .returned (.tuple #[.slice A m m, .int .i64 (if hexOkS s then 0 else 8)]) ∧ BI w' A m (if hexOkS s then hexS s (s.size / 2) else []) ∧ Below w.heap.size w w'
theorem hexParsed_no {s : ByteArray} {w w' : World} (h : hexOkS s = false) (hb : Below w.heap.size w w') : HexParsed s w (.returned (.tuple #[.slice none 0 0, .int .i64 8])) w' :=
  ⟨none, 0, by rw [h]; rfl, by rw [h]; exact BI.nil _ _, hb⟩
theorem or_hex (a b : Int) (ha : 0 ≤ a ∧ a ≤ 15) (hb : 0 ≤ b ∧ b ≤ 15) : bits .or .u8 (a * 16 % 256) b = a * 16 + b := by
  obtain ⟨a, rfl⟩ := Int.eq_ofNat_of_zero_le ha.1
  obtain ⟨b, rfl⟩ := Int.eq_ofNat_of_zero_le hb.1
  rw [Int.emod_eq_of_lt (by omega) (by omega)]
  have h := u8_or_nat (a * 16) b (by omega) (by omega)
  have h3 := Nat.two_pow_add_eq_or_of_lt (i := 4) (b := b) (by omega) a
  rw [show (2 : Nat) ^ 4 = 16 from rfl, Nat.mul_comm] at h3
  rw [← h3] at h
  rw [show ((a : Int) * 16) = ((a * 16 : Nat) : Int) from by omega, h]
  omega
theorem hexS_set (s : ByteArray) (j m : Nat) (h : j < m) : (hexS s j ++ List.replicate (m - j) 0).set j (hv (bt s (2 * j)) * 16 + hv (bt s (2 * j + 1))) = hexS s (j + 1) ++ List.replicate (m - (j + 1)) 0 := by
  rw [List.set_append_right _ _ (by rw [hexS_length]; omega), hexS_length, Nat.sub_self]
  obtain ⟨d, rfl⟩ : ∃ d, m = j + 1 + d := ⟨m - (j + 1), by omega⟩
  rw [show j + 1 + d - j = d + 1 from by omega, show j + 1 + d - (j + 1) = d from by omega, List.replicate_succ, List.set_cons_zero, hexS_succ, List.append_assoc]
  rfl
set_option maxHeartbeats 1000000 in
theorem parseHex_any (s : ByteArray) (w : World) (hs : s.size ≤ 140737488355328) : Calls Tryd.prog 28 #[.string s] w (HexParsed s w) := by
  by_cases hp : s.size % 2 = 0
  · have hp1 : (((s.size : Int) % 2) != 0) = false := by simp; omega
    have hmk := make_bytes (s.size / 2) (s.size / 2) (Nat.le_refl _) (by omega)
    rw [show ((s.size / 2 : Nat) : Int) = (s.size : Int) / 2 from by omega] at hmk
    have Hp := Lib.hid hp
    clear hp
    have hg := get_bt s
    go_enter Tryd.func28, Tryd.ntmps28
    go_wp2_with fail
    have hbw : Below w.heap.size w (w.alloc (.cells (byteZeros (s.size / 2)) 5)) := (Below.refl _ _).alloc (Nat.le_refl _) _
    have hrow0 : Row (w.alloc (.cells (byteZeros (s.size / 2)) 5)) w.heap.size (hexS s 0 ++ List.replicate (s.size / 2 - 0) 0) := by
      have := row_zeros w (s.size / 2)
      simpa [hexS] using this
    clear hmk hp1
    go_loopw [20] (fun i wr => ∃ j : Nat, j ≤ s.size / 2 ∧ i = .int .i64 j ∧ Row wr w.heap.size (hexS s j ++ List.replicate (s.size / 2 - j) 0) ∧ Pref s (2 * j) ∧ Below w.heap.size w wr) (fun i _ => s.size / 2 - (intOf i).toNat)
    case atStart => exact ⟨0, Nat.zero_le _, rfl, hrow0, fun i hi => absurd hi (by omega), hbw⟩
    case round =>
      obtain ⟨j, hj, rfl, hrow, hpre, hbl⟩ := hrel
      by_cases hlt : j < s.size / 2
      · have b1 := bt_nonneg s (2 * j)
        have b2 := bt_le s (2 * j)
        have b3 := bt_nonneg s (2 * j + 1)
        have b4 := bt_le s (2 * j + 1)
        cases k1 : hok (bt s (2 * j)) with
        | false =>
          have hno := no_of k1 (by omega)
          cases k2 : hok (bt s (2 * j + 1)) with
          | false =>
            go_wp2_with (go_at_call 35; refine (hexValue_any _ _ (by assumption) (by assumption)).mono ?_; rintro e w' ⟨rfl, rfl⟩)
            go_ret2
            exact hexParsed_no hno hbl
          | true =>
            go_wp2_with (go_at_call 35; refine (hexValue_any _ _ (by assumption) (by assumption)).mono ?_; rintro e w' ⟨rfl, rfl⟩)
            go_ret2
            exact hexParsed_no hno hbl
        | true =>
          cases k2 : hok (bt s (2 * j + 1)) with
          | false =>
            have hno := no_of k2 (by omega)
            go_wp2_with (go_at_call 35; refine (hexValue_any _ _ (by assumption) (by assumption)).mono ?_; rintro e w' ⟨rfl, rfl⟩)
            go_ret2
            exact hexParsed_no hno hbl
          | true =>
            have hlen : j < (hexS s j ++ List.replicate (s.size / 2 - j) 0).length := by simp [hexS_length]; omega
            obtain ⟨v0, hc0⟩ : ∃ v0, wr.cell? ⟨w.heap.size, j, none⟩ = some v0 := ⟨_, hrow.cell hlen⟩
            have hfz := hrow.frozen j
            have hrow' := hrow.store j (hv (bt s (2 * j)) * 16 + hv (bt s (2 * j + 1)))
            rw [hexS_set s j _ hlt] at hrow'
            clear hlen
            go_wp2_with (go_at_call 35; refine (hexValue_any _ _ (by assumption) (by assumption)).mono ?_; rintro e w' ⟨rfl, rfl⟩)
            go_roundw
            case rel => exact ⟨j + 1, by omega, by go_num, (by rw [or_hex _ _ (hv_bd _) (hv_bd _)]; exact hrow'), (fun i hi => by
              rcases (show i < 2 * j ∨ i = 2 * j ∨ i = 2 * j + 1 from by omega) with h | rfl | rfl
              · exact hpre i h
              · exact k1
              · exact k2), hbl.setCell (Nat.le_refl _) _⟩
            case measure => simp [intOf]; omega
      · obtain rfl : j = s.size / 2 := by omega
        have hyes := yes_of hpre Hp.out
        have hrow2 : Row wr w.heap.size (hexS s (s.size / 2)) := by simpa using hrow
        clear hrow
        go_wp2
        go_ret2
        exact ⟨some ⟨w.heap.size, 0, none⟩, s.size / 2, by rw [hyes]; rfl, by rw [hyes]; exact hrow2.bi (hexS_length _ _) (hexS_bd _ _), hbl⟩
  · have hno : hexOkS s = false := by simp [hexOkS]; omega
    have hp1 : (((s.size : Int) % 2) != 0) = true := by simp; omega
    clear hp
    go_enter Tryd.func28, Tryd.ntmps28
    go_wp2_with fail
    go_ret2
    exact hexParsed_no hno (Below.refl _ _)
end Go.Proofs.YtfkkpgklciehoaaDoor
