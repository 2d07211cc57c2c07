/- The walk of CodecHexBack: hexadecimal strings round trip. -/
import Derived.Test.YtheecmkkhdjhhaaDoorRef
namespace Go.Proofs.YtheecmkkhdjhhaaDoor
open Go.RowKit Go.PlainAid

theorem str_size (L : List Int) : (strOfNums L).size = L.length := strOfNums_size L
theorem bt_str (L : List Int) (hL : ∀ z ∈ L, 0 ≤ z ∧ z ≤ 255) (i : Nat) (hi : i < L.length) : bt (strOfNums L) i = L.getD i 0 := by
  unfold bt
  rw [dif_pos (by rw [str_size]; exact hi)]
  have h := hL L[i] (List.getElem_mem hi)
  have e : (strOfNums L)[i]'(by rw [str_size]; exact hi) = UInt8.ofNat (L[i]).toNat := by
    show (strOfNums L).data[i]'_ = _
    simp [strOfNums]
  rw [e, List.getD, List.getElem?_eq_getElem hi, Option.getD_some]
  have : ((L[i]).toNat) % 256 = (L[i]).toNat := Nat.mod_eq_of_lt (by omega)
  simp
  omega
theorem hexd_ok (d : Int) (h0 : 0 ≤ d) (h1 : d < 16) : hok (hexd d) = true ∧ hv (hexd d) = d := by
  unfold hexd
  constructor
  · simp [hok]; split <;> omega
  · unfold hv; split <;> split <;> (try split) <;> omega
theorem hexL_cons (z : Int) (zs : List Int) : hexL (z :: zs) = hexd (z / 16) :: hexd (z % 16) :: hexL zs := rfl
theorem hexL_getD (zs : List Int) (i : Nat) (h : i < zs.length) : (hexL zs).getD (2 * i) 0 = hexd (zs.getD i 0 / 16) ∧ (hexL zs).getD (2 * i + 1) 0 = hexd (zs.getD i 0 % 16) := by
  induction zs generalizing i with
  | nil => simp at h
  | cons z zs ih =>
    cases i with
    | zero => exact ⟨rfl, rfl⟩
    | succ i =>
      have := ih i (by simpa using h)
      rw [hexL_cons]
      exact ⟨by rw [show 2 * (i + 1) = 2 * i + 1 + 1 from by omega]; simpa using this.1, by rw [show 2 * (i + 1) + 1 = 2 * i + 1 + 1 + 1 from by omega]; simpa using this.2⟩
theorem hex_back (zs : List Int) (hz : ∀ z ∈ zs, 0 ≤ z ∧ z ≤ 255) : hexOkS (strOfNums (hexL zs)) = true ∧ hexS (strOfNums (hexL zs)) zs.length = zs := by
  have hb := hexL_bd zs hz
  have hl := hexL_length zs
  have hel : ∀ i (h : i < zs.length), 0 ≤ zs.getD i 0 ∧ zs.getD i 0 ≤ 255 := fun i h => by
    rw [List.getD, List.getElem?_eq_getElem h]; exact hz _ (List.getElem_mem h)
  have hev : ∀ i, i < zs.length → bt (strOfNums (hexL zs)) (2 * i) = hexd (zs.getD i 0 / 16) ∧ bt (strOfNums (hexL zs)) (2 * i + 1) = hexd (zs.getD i 0 % 16) := fun i h => by
    rw [bt_str _ hb _ (by omega), bt_str _ hb _ (by omega)]
    exact hexL_getD zs i h
  constructor
  · apply yes_of
    · intro i hi
      rw [str_size, hl] at hi
      have h2 : i / 2 < zs.length := by omega
      have he := hel _ h2
      rcases Nat.mod_two_eq_zero_or_one i with h | h
      · rw [show i = 2 * (i / 2) from by omega, (hev _ h2).1]
        exact (hexd_ok _ (by omega) (by omega)).1
      · rw [show i = 2 * (i / 2) + 1 from by omega, (hev _ h2).2]
        exact (hexd_ok _ (by omega) (by omega)).1
    · rw [str_size, hl]; omega
  · apply List.ext_getElem
    · rw [hexS_length]
    · intro i h1 h2
      simp only [hexS, List.getElem_map, List.getElem_range]
      have he := hel _ h2
      rw [(hev _ h2).1, (hev _ h2).2, (hexd_ok _ (by omega) (by omega)).2, (hexd_ok _ (by omega) (by omega)).2]
      rw [List.getD, List.getElem?_eq_getElem h2, Option.getD_some]
      omega
theorem hexd_hv (c : Int) (h : hok c = true) : hexd (hv c) = c := by
  simp [hok] at h
  unfold hv hexd
  split <;> (try split) <;> (try split) <;> omega
theorem hexL_hexS (s : ByteArray) : ∀ j, Pref s (2 * j) → hexL (hexS s j) = (List.range (2 * j)).map (bt s)
  | 0, _ => rfl
  | j + 1, h => by
    have ih := hexL_hexS s j (fun i hi => h i (by omega))
    have h1 := hexd_hv _ (h (2 * j) (by omega))
    have h2 := hexd_hv _ (h (2 * j + 1) (by omega))
    have v1 := hv_bd (bt s (2 * j))
    have v2 := hv_bd (bt s (2 * j + 1))
    rw [hexS_succ, hexL_snoc, ih, show 2 * (j + 1) = 2 * j + 1 + 1 from by omega, List.range_succ, List.range_succ]
    rw [show (hv (bt s (2 * j)) * 16 + hv (bt s (2 * j + 1))) / 16 = hv (bt s (2 * j)) from by omega, show (hv (bt s (2 * j)) * 16 + hv (bt s (2 * j + 1))) % 16 = hv (bt s (2 * j + 1)) from by omega, h1, h2]
    simp only [List.map_append, List.map_cons, List.map_nil, List.append_assoc, List.cons_append, List.nil_append]
theorem str_of_bt (s : ByteArray) : strOfNums ((List.range s.size).map (bt s)) = s := by
  apply ByteArray.ext
  apply Array.ext
  · show (List.map _ _).toArray.size = s.data.size
    rw [List.size_toArray, List.length_map, List.length_map, List.length_range]; rfl
  · intro i h1 h2
    have hi : i < s.size := h2
    simp only [strOfNums, List.map_map, List.getElem_toArray, List.getElem_map, List.getElem_range, Function.comp]
    rw [← get_bt s i hi, Int.toNat_natCast]
    exact UInt8.ofNat_toNat
theorem pref_of {s : ByteArray} (h : hexOkS s = true) : s.size % 2 = 0 ∧ Pref s s.size := by
  simp only [hexOkS, Bool.and_eq_true, List.all_eq_true, List.mem_range, beq_iff_eq] at h
  exact h
theorem hex_there (s : ByteArray) (h : hexOkS s = true) : strOfNums (hexL (hexS s (s.size / 2))) = s := by
  have hp := pref_of h
  rw [hexL_hexS s _ (fun i hi => hp.2 i (by omega)), show 2 * (s.size / 2) = s.size from by omega, str_of_bt]

/-- A string that Hex gave is parsed back. -/
theorem parse_back (zs : List Int) (n : Nat) (hn : zs.length = n) (hn2 : n ≤ 1000000) (hz : ∀ z ∈ zs, 0 ≤ z ∧ z ≤ 255) (t : ByteArray) (ht : t = strOfNums (hexL zs)) (w : World) :
    Calls Tryd.prog 20 #[.string t] w fun e w' => ∃ A', e = .returned (.tuple #[.slice A' n n, .int .i64 0]) ∧ BI w' A' n zs ∧ Below w.heap.size w w' := by
  have hs : t.size = 2 * n := by rw [ht, str_size, hexL_length, hn]
  have hb := hex_back zs hz
  rw [← ht, hn] at hb
  refine (parseHex_any t w (by omega)).mono ?_
  rintro e w' ⟨A', m, rfl, hbi, hl⟩
  rw [hb.1, if_pos rfl, hs, show 2 * n / 2 = n from by omega, hb.2] at hbi
  obtain rfl : m = n := hbi.1.symm.trans hn
  exact ⟨A', by rw [hb.1]; rfl, hbi, hl⟩
/-- What a string is parsed to: two ways. -/
theorem parse_yes (s : ByteArray) (hs : s.size ≤ 1000000) (hk : hexOkS s = true) (w : World) :
    Calls Tryd.prog 20 #[.string s] w fun e w' => ∃ A', e = .returned (.tuple #[.slice A' (s.size / 2) (s.size / 2), .int .i64 0]) ∧ BI w' A' (s.size / 2) (hexS s (s.size / 2)) ∧ Below w.heap.size w w' := by
  refine (parseHex_any s w (by omega)).mono ?_
  rintro e w' ⟨A', m, rfl, hbi, hl⟩
  rw [hk, if_pos rfl] at hbi
  obtain rfl : m = s.size / 2 := hbi.1.symm.trans (hexS_length _ _)
  exact ⟨A', by rw [hk]; rfl, hbi, hl⟩
theorem parse_no (s : ByteArray) (hs : s.size ≤ 1000000) (hk : hexOkS s = false) (w : World) :
    Calls Tryd.prog 20 #[.string s] w fun e w' => ∃ A', e = .returned (.tuple #[.slice A' 0 0, .int .i64 8]) ∧ Below w.heap.size w w' := by
  refine (parseHex_any s w (by omega)).mono ?_
  rintro e w' ⟨A', m, rfl, hbi, hl⟩
  rw [hk] at hbi
  obtain rfl : m = 0 := hbi.1.symm
  exact ⟨A', by rw [hk]; rfl, hl⟩
theorem hex_str (A : Option Addr) (n c : Nat) (zs : List Int) (w : World) (t : ByteArray) (ht : t = strOfNums (hexL zs)) (hb : BI w A n zs) (hn : n ≤ 70368744177664) :
    Calls Tryd.prog 22 #[.slice A n c] w fun e w' => e = .returned (.string t) ∧ Below w.heap.size w w' := by
  rw [ht]; exact hex_any A n c zs w hb hn

set_option maxRecDepth 100000 in
set_option maxHeartbeats 4000000 in
theorem hexback_core (A : Option Addr) (m c : Nat) (zs : List Int) (s : ByteArray) (w : World) (wid : Wid w) (hb : BI w A m zs) (hm : m ≤ 300) (hs : s.size ≤ 9223372036854775807) (len0 : Nat) (hl : m ≤ len0) (hlc : len0 ≤ c) (hc : c ≤ 9223372036854775807) (hmin : (len0 ≤ 300 ∧ m = len0) ∨ (300 < len0 ∧ m = 300)) :
    Calls Tryd.prog 9 #[.slice A len0 c, .string s] w fun e w' => e = .returned (.bool true) ∧ Below w.heap.size w w' := by
  obtain ⟨t, ht⟩ : ∃ t, t = strOfNums (hexL zs) := ⟨_, rfl⟩
  have hts : t.size = 2 * m := by rw [ht, str_size, hexL_length, hb.1]
  have HT := Lib.hid ht
  have hzb := Lib.hid hb.2.1
  have hzn := Lib.hid hb.1
  clear ht
  rcases hmin with ⟨hsm, rfl⟩ | ⟨hsm, rfl⟩
  · go_enter Tryd.func9, Tryd.ntmps9
    go_wp2_with fail
    refine (hex_str _ _ _ _ _ t HT.out hb (by omega)).mono ?_
    rintro e wA ⟨rfl, hBA⟩
    have hbA := hb.below hBA
    have widA := wid.below hBA
    go_wp2_with fail
    refine (parse_back zs m hzn.out (by omega) hzb.out t HT.out _).mono ?_
    rintro e wB ⟨A1, rfl, hb1, hBB⟩
    have hbB := hbA.below hBB
    have widB := widA.below hBB
    go_wp2_with fail
    refine (equal_any _ _ _ _ _ _ _ _ _ hb1 hbB).mono ?_
    rintro e _ ⟨rfl, rfl⟩
    rw [decide_eq_true (rfl : zs = zs)]
    by_cases hbig : 300 < s.size
    · go_wp2_with fail
      refine (works_any _ widB).mono ?_
      rintro e wF ⟨rfl, hBF⟩
      go_wp2_with fail
      go_ret
      exact ⟨rfl, bchain (bchain hBA hBB) hBF⟩
    · cases hk : hexOkS s with
      | false =>
        go_wp2_with fail
        refine (parse_no s (by omega) hk _).mono ?_
        rintro e wC ⟨A2, rfl, hBC⟩
        have widC := widB.below hBC
        go_wp2_with fail
        refine (works_any _ widC).mono ?_
        rintro e wF ⟨rfl, hBF⟩
        go_wp2_with fail
        go_ret
        exact ⟨rfl, bchain (bchain (bchain hBA hBB) hBC) hBF⟩
      | true =>
        go_wp2_with fail
        refine (parse_yes s (by omega) hk _).mono ?_
        rintro e wC ⟨A2, rfl, hb2, hBC⟩
        have widC := widB.below hBC
        go_wp2_with fail
        refine (hex_str _ _ _ _ _ s (hex_there s hk).symm hb2 (by omega)).mono ?_
        rintro e wD ⟨rfl, hBD⟩
        have widD := widC.below hBD
        go_wp2_with fail
        refine (works_any _ widD).mono ?_
        rintro e wF ⟨rfl, hBF⟩
        go_wp2_with fail
        go_ret
        exact ⟨rfl, bchain (bchain (bchain (bchain hBA hBB) hBC) hBD) hBF⟩
  · go_enter Tryd.func9, Tryd.ntmps9
    go_wp2_with fail
    refine (hex_str _ _ _ _ _ t HT.out hb (by omega)).mono ?_
    rintro e wA ⟨rfl, hBA⟩
    have hbA := hb.below hBA
    have widA := wid.below hBA
    go_wp2_with fail
    refine (parse_back zs 300 hzn.out (by omega) hzb.out t HT.out _).mono ?_
    rintro e wB ⟨A1, rfl, hb1, hBB⟩
    have hbB := hbA.below hBB
    have widB := widA.below hBB
    go_wp2_with fail
    refine (equal_any _ _ _ _ _ _ _ _ _ hb1 hbB).mono ?_
    rintro e _ ⟨rfl, rfl⟩
    rw [decide_eq_true (rfl : zs = zs)]
    by_cases hbig : 300 < s.size
    · go_wp2_with fail
      refine (works_any _ widB).mono ?_
      rintro e wF ⟨rfl, hBF⟩
      go_wp2_with fail
      go_ret
      exact ⟨rfl, bchain (bchain hBA hBB) hBF⟩
    · cases hk : hexOkS s with
      | false =>
        go_wp2_with fail
        refine (parse_no s (by omega) hk _).mono ?_
        rintro e wC ⟨A2, rfl, hBC⟩
        have widC := widB.below hBC
        go_wp2_with fail
        refine (works_any _ widC).mono ?_
        rintro e wF ⟨rfl, hBF⟩
        go_wp2_with fail
        go_ret
        exact ⟨rfl, bchain (bchain (bchain hBA hBB) hBC) hBF⟩
      | true =>
        go_wp2_with fail
        refine (parse_yes s (by omega) hk _).mono ?_
        rintro e wC ⟨A2, rfl, hb2, hBC⟩
        have widC := widB.below hBC
        go_wp2_with fail
        refine (hex_str _ _ _ _ _ s (hex_there s hk).symm hb2 (by omega)).mono ?_
        rintro e wD ⟨rfl, hBD⟩
        have widD := widC.below hBD
        go_wp2_with fail
        refine (works_any _ widD).mono ?_
        rintro e wF ⟨rfl, hBF⟩
        go_wp2_with fail
        go_ret
        exact ⟨rfl, bchain (bchain (bchain (bchain hBA hBB) hBC) hBD) hBF⟩

theorem codecHexBack_walk (a0 : Option Addr) (len0 cap0 : Nat) (z0 : List Int) (a1 : ByteArray) (w : World) (wid : Wid w) (w0 : IsRow .u8 w a0 len0 cap0 z0) (w1 : a1.size ≤ maxLen) :
    Calls Tryd.prog 9 #[.slice a0 len0 cap0, .string a1] w fun e w' => e = .returned (.bool true) ∧ Below w.heap.size w w' := by
  have hl := w0.len
  unfold maxLen at w1
  by_cases h : len0 ≤ 300
  · exact hexback_core a0 len0 cap0 _ a1 w wid w0.bi h (by omega) len0 (Nat.le_refl _) hl.1 hl.2 (.inl ⟨h, rfl⟩)
  · exact hexback_core a0 300 cap0 _ a1 w wid (w0.bi.take 300 (by omega)) (Nat.le_refl _) (by omega) len0 (by omega) hl.1 hl.2 (.inr ⟨by omega, rfl⟩)
end Go.Proofs.YtheecmkkhdjhhaaDoor
