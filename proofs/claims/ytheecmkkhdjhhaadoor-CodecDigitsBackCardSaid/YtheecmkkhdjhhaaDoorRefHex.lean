/- Contracts of the specification's own functions on hexadecimal strings. -/
import Derived.Test.YtheecmkkhdjhhaaDoorLCodecHexBack
import Derived.Deep.QuietTactic
import Derived.BigQuiet
namespace Go.Proofs.YtheecmkkhdjhhaaDoor
open Go.RowKit Go.PlainAid

set_option maxHeartbeats 400000 in
theorem rdigit_any (d : Int) (h0 : 0 ≤ d) (h1 : d < 16) (w : World) : Calls Tryd.prog 34 #[.int .i64 d] w fun e w' => e = .returned (.string (strOfNums [hexd d])) ∧ w' = w := by
  obtain ⟨n, rfl⟩ := Int.eq_ofNat_of_zero_le h0
  have h16 : n = 0 ∨ n = 1 ∨ n = 2 ∨ n = 3 ∨ n = 4 ∨ n = 5 ∨ n = 6 ∨ n = 7 ∨ n = 8 ∨ n = 9 ∨ n = 10 ∨ n = 11 ∨ n = 12 ∨ n = 13 ∨ n = 14 ∨ n = 15 := by omega
  clear h0 h1
  rcases h16 with rfl | rfl | rfl | rfl | rfl | rfl | rfl | rfl | rfl | rfl | rfl | rfl | rfl | rfl | rfl | rfl
  all_goals go_enter Tryd.func34, Tryd.ntmps34
  all_goals go_wp2
  all_goals go_ret
  all_goals exact ⟨rfl, rfl⟩

theorem str_app (a b : List Int) : strOfNums a ++ strOfNums b = strOfNums (a ++ b) := by
  apply ByteArray.ext
  rw [ByteArray.data_append]
  simp [strOfNums]
theorem str_snoc2 (a : List Int) (x y : Int) : strOfNums (a ++ [x, y]) = strOfNums a ++ strOfNums [x] ++ strOfNums [y] := by
  rw [str_app, str_app, List.append_assoc]; rfl

set_option maxHeartbeats 1000000 in
theorem rhex_any (A : Option Addr) (n c : Nat) (zs : List Int) (w : World) (hb : BI w A n zs) (hn : n ≤ 70368744177664) :
   Calls Tryd.prog 23 #[.slice A n c] w fun e w' => e = .returned (.string (strOfNums (hexL zs))) ∧ Below w.heap.size w w' := by
  have hzn := Lib.hid hb.1
  have hzb := Lib.hid hb.2.1
  go_enter Tryd.func23, Tryd.ntmps23
  go_wp2_with fail
  go_loopw [3, 4] (fun v i wr => ∃ j : Nat, j ≤ n ∧ i = .int .i64 j ∧ v = .string (strOfNums (hexL (zs.take j))) ∧ Below w.heap.size w wr) (fun _ i _ => n - (intOf i).toNat)
  case atStart => exact ⟨0, Nat.zero_le _, rfl, rfl, Below.refl _ _⟩
  case round =>
    obtain ⟨j, hj, rfl, rfl, hbl⟩ := hrel
    by_cases hlt : j < n
    · obtain ⟨b, o, rfl, hcell⟩ := hb.2.2 (by omega)
      have hc0 := hcell j hlt
      have hc := (hbl.cell (lt_of_cell hc0)).trans hc0
      obtain ⟨z, hz⟩ : ∃ z, z = zs.getD j 0 := ⟨_, rfl⟩
      rw [← hz] at hc
      have Hz := Lib.hid hz
      have hzr : 0 ≤ z ∧ z ≤ 255 := by
        rw [hz, List.getD, List.getElem?_eq_getElem (by rw [hzn.out]; omega)]
        exact hzb.out _ (List.getElem_mem _)
      obtain ⟨z1, z2⟩ := hzr
      obtain ⟨t, ht⟩ : ∃ t, t = strOfNums (hexL (zs.take j)) := ⟨_, rfl⟩
      rw [← ht]
      have hts : t.size ≤ 140737488355328 := by rw [ht, strOfNums_size, hexL_length, List.length_take]; omega
      have HT := Lib.hid ht
      clear hz hcell ht hc0
      have j0 : (0 : Int) ≤ j := by omega
      have j1 : (j : Int) < n := by omega
      have zd0 : 0 ≤ z / 16 := by omega
      have zd1 : z / 16 < 16 := by omega
      have zm0 : 0 ≤ z % 16 := by omega
      have zm1 : z % 16 < 16 := by omega
      have q1 : z.tdiv 16 = z / 16 := Int.tdiv_eq_ediv_of_nonneg z1
      have q2 : z.tmod 16 = z % 16 := Int.tmod_eq_emod_of_nonneg z1
      have q3 : IntKind.i64.wrap (z / 16) = z / 16 := IntWalk.i64_in _ ⟨by omega, by omega⟩
      have q4 : IntKind.i64.wrap (z % 16) = z % 16 := IntWalk.i64_in _ ⟨by omega, by omega⟩
      have q5 : IntKind.i64.wrap z = z := IntWalk.i64_in _ ⟨by omega, by omega⟩
      have s1 : (strOfNums [hexd (z / 16)]).size = 1 := strOfNums_size _
      have s2 : (strOfNums [hexd (z % 16)]).size = 1 := strOfNums_size _
      go_wp2_with fail
      go_quiet ((go_at_call 34; exact Calls.quiet_of_same (rdigit_any _ (by assumption) (by assumption) _)))
      go_wp2_with fail
      go_roundw
      case rel =>
        refine ⟨j + 1, by omega, by go_num, ?_, below_drewN hbl _⟩
        have e : zs.take (j + 1) = zs.take j ++ [z] := by
          rw [take_succ_ints zs j (by rw [hzn.out]; exact hlt), Hz.out, List.getD]
        rw [e, hexL_snoc, HT.out, str_snoc2]
      case measure => simp [intOf]; omega
    · obtain rfl : j = n := by omega
      have e : zs.take j = zs := List.take_of_length_le (by rw [hzn.out]; exact Nat.le_refl _)
      rw [e]
      clear e
      go_wp2_with fail
      go_ret
      exact ⟨rfl, hbl⟩

/-- The value of the pair of digits at 2 j, and whether it is one. -/
def pok (s : ByteArray) (j : Nat) : Bool := hok (bt s (2 * j)) && hok (bt s (2 * j + 1))
def pval (s : ByteArray) (j : Nat) : Int := hv (bt s (2 * j)) * 16 + hv (bt s (2 * j + 1))
def rp (s : ByteArray) (j : Nat) : List Int := (List.range j).flatMap fun i => if pok s i then [pval s i] else []
def rq (s : ByteArray) (j k : Nat) : List Int := rp s j ++ (if pok s j && decide (pval s j < k) then [pval s j] else [])

theorem ownsRow_drewN {w : World} {base : Nat} {e : TypeId} {size : Nat} {v : Value} {n : Nat} {xs : List Value} (h : w.ownsRow base e size v n xs) (q : Nat) : (w.drewN q).ownsRow base e size v n xs := h
theorem extract_two (s : ByteArray) (a : Nat) (h : a + 2 ≤ s.size) : s.extract a (a + 2) = strOfNums [bt s a, bt s (a + 1)] := by
  have e : ∀ i (hi : i < s.size), UInt8.ofNat (bt s i).toNat = s[i] := fun i hi => by
    rw [← get_bt s i hi, Int.toNat_natCast]; exact UInt8.ofNat_toNat
  apply ByteArray.ext
  rw [ByteArray.data_extract]
  have hsz : s.data.size = s.size := rfl
  apply Array.ext
  · simp [strOfNums]; omega
  · intro i h1 h2
    have h2' : i < 2 := by simpa [strOfNums] using h2
    rw [Array.getElem_extract]
    rcases (show i = 0 ∨ i = 1 from by omega) with rfl | rfl
    · exact (e a (by omega)).symm
    · exact (e (a + 1) (by omega)).symm
theorem pair_test (s : ByteArray) (j : Nat) (z : Int) (hj : 2 * j + 1 < s.size) (z0 : 0 ≤ z) (z1 : z < 256) :
    ((s.extract (2 * j) (2 * j + 2)).toList == (strOfNums [hexd (z / 16)] ++ strOfNums [hexd (z % 16)]).toList) = (pok s j && decide (pval s j = z)) := by
  have b1 := bt_nonneg s (2 * j)
  have b2 := bt_le s (2 * j)
  have b3 := bt_nonneg s (2 * j + 1)
  have b4 := bt_le s (2 * j + 1)
  have d1 := hexd_bd (z / 16) (by omega) (by omega)
  have d2 := hexd_bd (z % 16) (by omega) (by omega)
  rw [extract_two s _ (by omega), str_app]
  rw [strs_eq (by intro y hy; simp at hy; rcases hy with rfl | rfl <;> omega) (by intro y hy; simp at hy; rcases hy with rfl | rfl <;> omega)]
  rw [Bool.eq_iff_iff]
  simp only [decide_eq_true_iff, Bool.and_eq_true, List.cons_append, List.nil_append, List.cons.injEq, and_true]
  have k1 := hexd_ok (z / 16) (by omega) (by omega)
  have k2 := hexd_ok (z % 16) (by omega) (by omega)
  have v1 := hv_bd (bt s (2 * j))
  have v2 := hv_bd (bt s (2 * j + 1))
  have ep : pval s j = hv (bt s (2 * j)) * 16 + hv (bt s (2 * j + 1)) := rfl
  have ek : pok s j = true ↔ (hok (bt s (2 * j)) = true ∧ hok (bt s (2 * j + 1)) = true) := by unfold pok; rw [Bool.and_eq_true]
  rw [ek, ep]
  constructor
  · rintro ⟨h1, h2⟩
    rw [h1, h2]
    exact ⟨⟨k1.1, k2.1⟩, by rw [k1.2, k2.2]; omega⟩
  · rintro ⟨⟨h1, h2⟩, h3⟩
    have e1 := hexd_hv _ h1
    have e2 := hexd_hv _ h2
    constructor
    · rw [← e1]; congr 1; omega
    · rw [← e2]; congr 1; omega
theorem pval_bd (s : ByteArray) (j : Nat) : 0 ≤ pval s j ∧ pval s j ≤ 255 := by
  have v1 := hv_bd (bt s (2 * j))
  have v2 := hv_bd (bt s (2 * j + 1))
  unfold pval; omega
theorem rq_zero (s : ByteArray) (j : Nat) : rq s j 0 = rp s j := by
  have := pval_bd s j
  unfold rq
  rw [if_neg (by simp; intro; omega)]
  simp
theorem rq_end (s : ByteArray) (j : Nat) : rq s j 256 = rp s (j + 1) := by
  have := pval_bd s j
  unfold rq rp
  rw [List.range_succ, List.flatMap_append]
  congr 1
  have h : decide (pval s j < ((256 : Nat) : Int)) = true := by simp; omega
  rw [h]
  simp
theorem rq_hit (s : ByteArray) (j k : Nat) (h : (pok s j && decide (pval s j = k)) = true) : rq s j (k + 1) = rq s j k ++ [(k : Int)] := by
  simp at h
  unfold rq
  rw [if_pos (by simp [h.1]; omega), if_neg (by simp; intro; omega), h.2]
  simp
theorem rq_miss (s : ByteArray) (j k : Nat) (h : (pok s j && decide (pval s j = k)) = false) : rq s j (k + 1) = rq s j k := by
  unfold rq
  congr 2
  cases hp : pok s j with
  | false => rfl
  | true =>
    simp [hp] at h
    simp
    omega
theorem rq_len (s : ByteArray) (j k : Nat) : (rq s j k).length ≤ (rp s j).length + 1 := by
  unfold rq
  rw [List.length_append]
  split <;> simp
theorem rp_len (s : ByteArray) : ∀ j, (rp s j).length ≤ j
  | 0 => by simp [rp]
  | j + 1 => by
    have := rp_len s j
    have h2 := rq_len s j 256
    rw [rq_end] at h2
    omega

theorem rp_succ (s : ByteArray) (j : Nat) : rp s (j + 1) = rp s j ++ (if pok s j then [pval s j] else []) := by
  unfold rp
  rw [List.range_succ, List.flatMap_append]
  simp
theorem rp_bd (s : ByteArray) (j : Nat) : ∀ z ∈ rp s j, 0 ≤ z ∧ z ≤ 255 := by
  intro z hz
  simp only [rp, List.mem_flatMap] at hz
  obtain ⟨i, _, hz⟩ := hz
  split at hz
  · simp at hz; subst hz; exact pval_bd s i
  · cases hz
theorem rp_all (s : ByteArray) : ∀ j, (∀ i, i < j → pok s i = true) → rp s j = hexS s j
  | 0, _ => rfl
  | j + 1, h => by
    rw [rp_succ, rp_all s j (fun i hi => h i (by omega)), if_pos (h j (by omega)), hexS_succ]
    rfl
theorem rp_short (s : ByteArray) : ∀ j, (rp s j).length = j → ∀ i, i < j → pok s i = true
  | 0, _ => fun i hi => absurd hi (by omega)
  | j + 1, h => by
    rw [rp_succ, List.length_append] at h
    have hl := rp_len s j
    by_cases hp : pok s j = true
    · rw [if_pos hp] at h
      have := rp_short s j (by simpa using h)
      intro i hi
      rcases (show i < j ∨ i = j from by omega) with h1 | rfl
      · exact this i h1
      · exact hp
    · rw [if_neg hp] at h
      simp at h; omega
theorem rp_yes (s : ByteArray) (h : 2 * (rp s (s.size / 2)).length = s.size) : hexOkS s = true ∧ rp s (s.size / 2) = hexS s (s.size / 2) := by
  have hl := rp_len s (s.size / 2)
  have hp := rp_short s (s.size / 2) (by omega)
  refine ⟨yes_of (fun i hi => ?_) (by omega), rp_all s _ hp⟩
  have := hp (i / 2) (by omega)
  simp only [pok, Bool.and_eq_true] at this
  rcases Nat.mod_two_eq_zero_or_one i with h | h
  · rw [show i = 2 * (i / 2) from by omega]; exact this.1
  · rw [show i = 2 * (i / 2) + 1 from by omega]; exact this.2
theorem rp_no (s : ByteArray) (h : ¬ 2 * (rp s (s.size / 2)).length = s.size) : hexOkS s = false := by
  cases hk : hexOkS s with
  | false => rfl
  | true =>
    have hp := pref_of hk
    have := rp_all s (s.size / 2) (fun i hi => by unfold pok; rw [Bool.and_eq_true]; exact ⟨hp.2 _ (by omega), hp.2 _ (by omega)⟩)
    rw [this, hexS_length] at h
    omega
def RHexParsed (s : ByteArray) (w : World) (e : Ending) (w' : World) : Prop :=
  ∃ (A : Option Addr) (m c : Nat), e = .returned (.tuple #[.slice A m c, .int .i64 (if hexOkS s then 0 else 8)]) ∧ BI w' A m (if hexOkS s then hexS s (s.size / 2) else []) ∧ Below w.heap.size w w'

set_option maxRecDepth 100000 in
set_option maxHeartbeats 4000000 in
theorem rparse_go (s : ByteArray) (w : World) (hs : s.size ≤ 1000000) : Calls Tryd.prog 21 #[.string s] w (RHexParsed s w) := by
  obtain ⟨i0, hi0, hz0, hz1, hz2⟩ := info_parts info5
  have Hi0 := Lib.hid hi0
  have Hz0 := Lib.hid hz0
  have Hz1 := Lib.hid hz1
  have Hz2 := Lib.hid hz2
  clear hi0 hz0 hz1 hz2
  go_enter Tryd.func21, Tryd.ntmps21
  go_wp2_with fail
  go_loopw [4, 5] (fun v i wr => ∃ j : Nat, 2 * j ≤ s.size ∧ i = .int .i64 (2 * (j : Int)) ∧ wr.ownsRow w.heap.size 5 1 v (rp s j).length ((rp s j).map (Value.int .u8)) ∧ Below w.heap.size w wr) (fun _ i _ => s.size + 1 - (intOf i).toNat)
  case atStart => exact ⟨0, by omega, rfl, World.ownsRow_nil _ _ _ _, Below.refl _ _⟩
  case round =>
    obtain ⟨j, hj, rfl, hown, hbl⟩ := hrel
    by_cases hlt : 2 * j + 1 < s.size
    · have hdec : decide (2 * (j : Int) + 1 < (s.size : Int)) = true := by simp; omega
      go_wp2_with fail
      obtain ⟨wo, hwo⟩ : ∃ wo : World, wo = wr := ⟨_, rfl⟩
      rw [← hwo] at hown hbl ⊢
      clear hwo
      go_loopw [4, 6] (fun v i wr => ∃ k : Nat, k ≤ 256 ∧ i = .int .i64 k ∧ wr.ownsRow w.heap.size 5 1 v (rq s j k).length ((rq s j k).map (Value.int .u8)) ∧ Below w.heap.size w wr) (fun _ i _ => 256 - (intOf i).toNat)
      case atStart => exact ⟨0, by omega, rfl, by rw [rq_zero]; exact hown, hbl⟩
      case round =>
        obtain ⟨k, hk, rfl, hown, hbl⟩ := hrel
        by_cases hlk : k < 256
        · obtain ⟨z, hz⟩ : ∃ z : Int, z = (k : Int) := ⟨_, rfl⟩
          rw [← hz]
          have z0 : 0 ≤ z := by omega
          have z1 : z < 256 := by omega
          have HZ := Lib.hid hz
          clear hz
          have zd0 : 0 ≤ z / 16 := by omega
          have zd1 : z / 16 < 16 := by omega
          have zm0 : 0 ≤ z % 16 := by omega
          have zm1 : z % 16 < 16 := by omega
          have q1 : z.tdiv 16 = z / 16 := Int.tdiv_eq_ediv_of_nonneg z0
          have q2 : z.tmod 16 = z % 16 := Int.tmod_eq_emod_of_nonneg z0
          have q3 : IntKind.i64.wrap (z / 16) = z / 16 := IntWalk.i64_in _ ⟨by omega, by omega⟩
          have q4 : IntKind.i64.wrap (z % 16) = z % 16 := IntWalk.i64_in _ ⟨by omega, by omega⟩
          have s1 : (strOfNums [hexd (z / 16)]).size = 1 := strOfNums_size _
          have s2 : (strOfNums [hexd (z % 16)]).size = 1 := strOfNums_size _
          have hpt := pair_test s j z hlt z0 z1
          have hlen := rq_len s j k
          have hlen2 := rp_len s j
          have HL := Lib.hid (show (rq s j k).length ≤ 1000000 from by omega)
          clear hlen hlen2
          cases hpk : (pok s j && decide (pval s j = z)) with
          | true =>
            rw [hpk] at hpt
            have HP := Lib.hid hpk
            clear hpk
            go_wp2_with fail
            go_quiet ((go_at_call 34; exact Calls.quiet_of_same (rdigit_any _ (by assumption) (by assumption) _)))
            go_wp2_with (at_builtin; refine wpList_append_own _ rfl (.tmp 31) (.tmp 34) 22 rfl w.heap.size 5 i0 (.int .u8 0) 1 1 Tryd.underlying22 Hi0.out Hz0.out Hz1.out Hz2.out rfl (by omega) _ _ _ rfl (World.ownsRow.alloc (ownsRow_drewN hown _) _) ⟨wr.heap.size, 0, none⟩ 1 1 [.int .u8 z] rfl rfl (World.news_of_block (heap_alloc_new _ _)) (by simp [Value.oneCell']) (by have := HL.out; unfold maxLen; omega) (by have := HL.out; omega) (by simp; have := hbl.size; omega) ?_; intro v2 w2 hown2 hg2 _)
            have hbl2 : Below w.heap.size w w2 := ((below_drewN hbl nq).alloc (by simpa using hbl.size) _).grown hg2 (by simp; have := hbl.size; omega) (fun q hq => (hown.lt q hq).1)
            have hown3 : w2.ownsRow w.heap.size 5 1 v2 (rq s j (k + 1)).length ((rq s j (k + 1)).map (Value.int .u8)) := by
              have hz := HZ.out
              have hp2 := HP.out
              rw [hz] at hp2
              rw [rq_hit s j k hp2, List.length_append, List.map_append, ← hz]
              exact hown2
            clear hown2 hg2
            go_roundw
            case rel => first | exact ⟨k + 1, by omega, by rw [HZ.out]; go_num, hown3, hbl2⟩ | ((repeat apply Exists.intro); refine ⟨?_, rfl⟩; exact ⟨k + 1, by omega, by rw [HZ.out]; go_num, hown3, hbl2⟩)
            case measure => simp [intOf]; omega
          | false =>
            rw [hpk] at hpt
            have HP := Lib.hid hpk
            clear hpk
            go_wp2_with fail
            go_quiet ((go_at_call 34; exact Calls.quiet_of_same (rdigit_any _ (by assumption) (by assumption) _)))
            go_wp2_with fail
            have hp2 := HP.out
            rw [HZ.out] at hp2
            have HM := Lib.hid (rq_miss s j k hp2)
            clear hp2
            go_roundw
            case rel => exact ⟨k + 1, by omega, by rw [HZ.out]; go_num, by rw [HM.out]; exact ownsRow_drewN hown _, below_drewN hbl _⟩
            case measure => simp [intOf]; omega
        · obtain rfl : k = 256 := by omega
          rw [rq_end] at hown
          go_wp2_with fail
          go_roundw
          case rel => exact ⟨j + 1, by omega, by go_num, hown, hbl⟩
          case measure => simp [intOf]; omega
    · obtain ⟨A, c, rfl, hbi⟩ := own_form hown (rp_bd s j)
      obtain rfl : j = s.size / 2 := by omega
      have hl := rp_len s (s.size / 2)
      by_cases hfull : 2 * (rp s (s.size / 2)).length = s.size
      · have HY := Lib.hid (rp_yes s hfull)
        have ht : (2 * ((rp s (s.size / 2)).length : Int) != s.size) = false := by simp; omega
        clear hfull
        go_wp2_with fail
        go_ret2
        exact ⟨A, _, c, by rw [HY.out.1]; rfl, by rw [HY.out.1, if_pos rfl, ← HY.out.2]; exact hbi, hbl⟩
      · have HN := Lib.hid (rp_no s hfull)
        have ht : (2 * ((rp s (s.size / 2)).length : Int) != s.size) = true := by simp; omega
        clear hfull
        go_wp2_with fail
        go_ret2
        exact ⟨none, 0, 0, by rw [HN.out]; rfl, by rw [HN.out]; exact BI.nil _ _, hbl⟩
end Go.Proofs.YtheecmkkhdjhhaaDoor
