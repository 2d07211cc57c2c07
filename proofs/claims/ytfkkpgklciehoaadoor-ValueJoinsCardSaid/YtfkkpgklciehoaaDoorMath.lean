/- Plain mathematics for layer 6: strings as lists of bytes, hexadecimal digits, string forms, repetition. No program is named here. -/
import Derived.WalkKit
import Derived.PlainAid
import Derived.Lib.Bytealg
import Derived.Lib.Bytes
import Derived.Laws.BytesArg
namespace Go.Proofs.YtfkkpgklciehoaaDoor
open Go.RowKit Go.PlainAid

/-- The bytes of a string, as numbers. -/
def bts (s : ByteArray) : List Int := s.data.toList.map fun b => (b.toNat : Int)
theorem bts_length (s : ByteArray) : (bts s).length = s.size := by unfold bts; rw [List.length_map, Array.length_toList]; rfl
theorem bts_getD (s : ByteArray) (i : Nat) : (bts s).getD i 0 = bt s i := by
  unfold bts bt
  by_cases h : i < s.size
  · rw [dif_pos h, List.getD, List.getElem?_map, List.getElem?_eq_getElem (by rw [Array.length_toList]; exact h)]
    rfl
  · rw [dif_neg h, List.getD, List.getElem?_eq_none (by rw [List.length_map, Array.length_toList]; exact Nat.le_of_not_lt h)]
    rfl
theorem bts_bd (s : ByteArray) : ∀ z ∈ bts s, 0 ≤ z ∧ z ≤ 255 := by
  intro z hz
  obtain ⟨b, _, rfl⟩ := List.mem_map.1 hz
  have := b.toNat_lt
  omega
theorem bts_str (L : List Int) (h : ∀ z ∈ L, 0 ≤ z ∧ z ≤ 255) : bts (strOfNums L) = L := by
  unfold bts
  rw [strOfNums_data, List.map_map]
  conv => rhs; rw [← List.map_id L]
  apply List.map_congr_left
  intro z hz
  have := h z hz
  simp
  omega
theorem str_bts (s : ByteArray) : strOfNums (bts s) = s := by
  apply ByteArray.ext
  apply Array.toList_inj.1
  rw [strOfNums_data]
  unfold bts
  rw [List.map_map]
  conv => rhs; rw [← List.map_id s.data.toList]
  apply List.map_congr_left
  intro b _
  simp
theorem bts_inj {s t : ByteArray} (h : bts s = bts t) : s = t := by rw [← str_bts s, h, str_bts t]
theorem bts_append (s t : ByteArray) : bts (s ++ t) = bts s ++ bts t := by
  unfold bts
  rw [ByteArray.data_append, Array.toList_append, List.map_append]
theorem bts_extract (s : ByteArray) (a b : Nat) : bts (s.extract a b) = ((bts s).drop a).take (b - a) := by
  unfold bts
  rw [ByteArray.data_extract, Array.toList_extract, List.extract_eq_take_drop, List.map_take, List.map_drop]
theorem str_app (a b : List Int) : strOfNums a ++ strOfNums b = strOfNums (a ++ b) := by
  apply ByteArray.ext
  simp [strOfNums]
theorem toList_beq (s t : ByteArray) : (s.toList == t.toList) = decide (s = t) := by
  rw [ByteArray.toList_eq, ByteArray.toList_eq, Bool.eq_iff_iff, beq_iff_eq, decide_eq_true_iff]
  exact ⟨fun h => ByteArray.ext (Array.toList_inj.1 h), fun h => by rw [h]⟩
theorem toList_len (s : ByteArray) : s.toList.length = s.size := by rw [ByteArray.toList_eq, Array.length_toList]; rfl
theorem empty_of {s : ByteArray} (h : s.size = 0) : s.toList.isEmpty = true := by
  have : s.toList = [] := List.eq_nil_of_length_eq_zero (by rw [toList_len]; exact h)
  simp [this]
theorem not_empty_of {s : ByteArray} (h : 0 < s.size) : s.toList.isEmpty = false := by
  have : s.toList ≠ [] := by
    intro e
    have h0 : s.size = 0 := by rw [← toList_len, e]; rfl
    omega
  simp [this]
theorem nil_of_size {s : ByteArray} (h : s.size = 0) : s = ⟨#[]⟩ := by
  apply ByteArray.ext
  exact Array.eq_empty_of_size_eq_zero h
theorem take_succ_ints (l : List Int) (j : Nat) (h : j < l.length) : l.take (j + 1) = l.take j ++ [l.getD j 0] := by
  rw [List.take_succ_eq_append_getElem h, List.getD, List.getElem?_eq_getElem h]; rfl
theorem getD_bts_mem {s : ByteArray} {i : Nat} (h : i < s.size) : (bts s).getD i 0 ∈ bts s := by
  rw [List.getD, List.getElem?_eq_getElem (by rw [bts_length]; exact h)]
  exact List.getElem_mem _
theorem ext_getD {a b : List Int} (h : a.length = b.length) (k : ∀ i, i < a.length → a.getD i 0 = b.getD i 0) : a = b := by
  apply List.ext_getElem h
  intro i h1 h2
  have := k i h1
  rw [List.getD, List.getD, List.getElem?_eq_getElem h1, List.getElem?_eq_getElem h2] at this
  exact this

/-- The hexadecimal digit of a number below 16, as its byte; the digits of bytes. -/
def hexd (d : Int) : Int := if d < 10 then 48 + d else 87 + d
def hexL (zs : List Int) : List Int := zs.flatMap fun z => [hexd (z / 16), hexd (z % 16)]
theorem hexL_length (zs : List Int) : (hexL zs).length = 2 * zs.length := by
  induction zs with
  | nil => rfl
  | cons z zs ih => simp [hexL] at ih ⊢; omega
theorem hexL_append (a b : List Int) : hexL (a ++ b) = hexL a ++ hexL b := by simp [hexL]
theorem hexL_snoc (zs : List Int) (z : Int) : hexL (zs ++ [z]) = hexL zs ++ [hexd (z / 16), hexd (z % 16)] := by simp [hexL]
theorem hexd_bd (d : Int) (h0 : 0 ≤ d) (h1 : d < 16) : 0 ≤ hexd d ∧ hexd d ≤ 255 := by unfold hexd; split <;> omega
theorem hexL_bd (zs : List Int) (h : ∀ z ∈ zs, 0 ≤ z ∧ z ≤ 255) : ∀ z ∈ hexL zs, 0 ≤ z ∧ z ≤ 255 := by
  intro z hz
  simp only [hexL, List.mem_flatMap] at hz
  obtain ⟨y, hy, hz⟩ := hz
  have := h y hy
  simp only [List.mem_cons, List.not_mem_nil, or_false] at hz
  rcases hz with rfl | rfl
  · exact hexd_bd _ (by omega) (by omega)
  · exact hexd_bd _ (by omega) (by omega)
theorem hexL_pair (zs : List Int) : ∀ j, j < zs.length → (hexL zs).getD (2 * j) 0 = hexd (zs.getD j 0 / 16) ∧ (hexL zs).getD (2 * j + 1) 0 = hexd (zs.getD j 0 % 16) := by
  induction zs with
  | nil => intro j h; simp at h
  | cons z zs ih =>
    intro j h
    have e : hexL (z :: zs) = hexd (z / 16) :: hexd (z % 16) :: hexL zs := by simp [hexL]
    rw [e]
    match j, h with
    | 0, _ => exact ⟨rfl, rfl⟩
    | j + 1, h =>
      have := ih j (by simpa using h)
      exact this

/-- Whether a byte is a hexadecimal digit, its number. -/
def hok (c : Int) : Bool := decide (48 ≤ c ∧ c ≤ 57) || decide (97 ≤ c ∧ c ≤ 102)
def hv (c : Int) : Int := if 48 ≤ c ∧ c ≤ 57 then c - 48 else if 97 ≤ c ∧ c ≤ 102 then c - 87 else 0
theorem hv_bd (c : Int) : 0 ≤ hv c ∧ hv c ≤ 15 := by
  unfold hv
  split <;> (try split) <;> omega
theorem hexd_ok (d : Int) (h0 : 0 ≤ d) (h1 : d < 16) : hok (hexd d) = true ∧ hv (hexd d) = d := by
  unfold hok hv hexd
  constructor
  · simp; split <;> omega
  · split <;> (repeat' split) <;> omega
theorem hexd_hv (c : Int) (h : hok c = true) : hexd (hv c) = c := by
  unfold hok at h
  simp at h
  unfold hexd hv
  repeat' split
  all_goals omega
/-- Whether a string is hexadecimal; its first j bytes. -/
def hexOkS (s : ByteArray) : Bool := (s.size % 2 == 0) && (List.range s.size).all fun i => hok (bt s i)
def hexS (s : ByteArray) (j : Nat) : List Int := (List.range j).map fun i => hv (bt s (2 * i)) * 16 + hv (bt s (2 * i + 1))
theorem hexS_length (s : ByteArray) (j : Nat) : (hexS s j).length = j := by simp [hexS]
theorem hexS_succ (s : ByteArray) (j : Nat) : hexS s (j + 1) = hexS s j ++ [hv (bt s (2 * j)) * 16 + hv (bt s (2 * j + 1))] := by simp [hexS, List.range_succ]
theorem hexS_getD (s : ByteArray) (n j : Nat) (h : j < n) : (hexS s n).getD j 0 = hv (bt s (2 * j)) * 16 + hv (bt s (2 * j + 1)) := by
  unfold hexS
  rw [List.getD, List.getElem?_map, List.getElem?_range h]
  rfl
theorem hexS_bd (s : ByteArray) (j : Nat) : ∀ z ∈ hexS s j, 0 ≤ z ∧ z ≤ 255 := by
  intro z hz
  simp only [hexS, List.mem_map] at hz
  obtain ⟨i, _, rfl⟩ := hz
  have := hv_bd (bt s (2 * i))
  have := hv_bd (bt s (2 * i + 1))
  omega
/-- The first j bytes are digits. -/
def Pref (s : ByteArray) (j : Nat) : Prop := ∀ i, i < j → hok (bt s i) = true
theorem no_of {s : ByteArray} {i : Nat} (h : hok (bt s i) = false) (hi : i < s.size) : hexOkS s = false := by
  cases hh : hexOkS s with
  | false => rfl
  | true =>
    simp only [hexOkS, Bool.and_eq_true, List.all_eq_true] at hh
    have := hh.2 i (List.mem_range.2 hi)
    rw [h] at this
    cases this
theorem odd_of {s : ByteArray} (h : ¬ s.size % 2 = 0) : hexOkS s = false := by simp [hexOkS]; omega
theorem yes_of {s : ByteArray} (h : Pref s (2 * (s.size / 2))) (hp : s.size % 2 = 0) : hexOkS s = true := by
  simp only [hexOkS, Bool.and_eq_true, List.all_eq_true]
  exact ⟨by simp [hp], fun i hi => h i (by have := List.mem_range.1 hi; omega)⟩
theorem yes_parts {s : ByteArray} (h : hexOkS s = true) : s.size % 2 = 0 ∧ Pref s s.size := by
  simp only [hexOkS, Bool.and_eq_true, List.all_eq_true] at h
  exact ⟨by simpa using h.1, fun i hi => h.2 i (List.mem_range.2 hi)⟩

/-- What was made of bytes is decoded; what is decoded was made of these bytes. -/
theorem hex_back (zs : List Int) (h : ∀ z ∈ zs, 0 ≤ z ∧ z ≤ 255) : hexOkS (strOfNums (hexL zs)) = true ∧ hexS (strOfNums (hexL zs)) zs.length = zs := by
  have hb := hexL_bd zs h
  have hz : (strOfNums (hexL zs)).size = 2 * zs.length := by rw [strOfNums_size, hexL_length]
  have hg : ∀ i, bt (strOfNums (hexL zs)) i = (hexL zs).getD i 0 := fun i => by rw [← bts_getD, bts_str _ hb]
  have hr : ∀ j, j < zs.length → 0 ≤ zs.getD j 0 ∧ zs.getD j 0 ≤ 255 := fun j hj => by
    rw [List.getD, List.getElem?_eq_getElem hj]; exact h _ (List.getElem_mem _)
  constructor
  · refine yes_of (fun i hi => ?_) (by omega)
    rw [hz] at hi
    have hp := hexL_pair zs (i / 2) (by omega)
    have hq := hr (i / 2) (by omega)
    rw [hg]
    rcases Nat.mod_two_eq_zero_or_one i with e | e
    · rw [show i = 2 * (i / 2) from by omega, hp.1]; exact (hexd_ok _ (by omega) (by omega)).1
    · rw [show i = 2 * (i / 2) + 1 from by omega, hp.2]; exact (hexd_ok _ (by omega) (by omega)).1
  · refine ext_getD (hexS_length _ _) fun j hj => ?_
    rw [hexS_length] at hj
    have hp := hexL_pair zs j hj
    have hq := hr j hj
    rw [hexS_getD _ _ _ hj, hg, hg, hp.1, hp.2, (hexd_ok _ (by omega) (by omega)).2, (hexd_ok _ (by omega) (by omega)).2]
    omega
theorem hex_forth (s : ByteArray) (h : hexOkS s = true) : strOfNums (hexL (hexS s (s.size / 2))) = s := by
  obtain ⟨h2, hp⟩ := yes_parts h
  apply bts_inj
  rw [bts_str _ (hexL_bd _ (hexS_bd _ _))]
  refine ext_getD (by rw [hexL_length, hexS_length, bts_length]; omega) fun i hi => ?_
  rw [hexL_length, hexS_length] at hi
  obtain ⟨j, hj⟩ : ∃ j, i = 2 * j ∨ i = 2 * j + 1 := ⟨i / 2, by omega⟩
  have hq := hexL_pair (hexS s (s.size / 2)) j (by rw [hexS_length]; omega)
  rw [hexS_getD _ _ _ (by omega)] at hq
  have v1 := hv_bd (bt s (2 * j))
  have v2 := hv_bd (bt s (2 * j + 1))
  rw [bts_getD]
  rcases hj with rfl | rfl
  · rw [hq.1, show (hv (bt s (2 * j)) * 16 + hv (bt s (2 * j + 1))) / 16 = hv (bt s (2 * j)) from by omega]
    exact hexd_hv _ (hp _ (by omega))
  · rw [hq.2, show (hv (bt s (2 * j)) * 16 + hv (bt s (2 * j + 1))) % 16 = hv (bt s (2 * j + 1)) from by omega]
    exact hexd_hv _ (hp _ (by omega))

/-- The string form; what Text, Parse, Check, Repeat return. -/
def form (s : ByteArray) : ByteArray := if s.size = 0 then ⟨#[45]⟩ else strOfNums (hexL (bts s))
def txtE (s : ByteArray) : Int := if 512 < s.size then 12 else 0
def txtS (s : ByteArray) : ByteArray := if 512 < s.size then ⟨#[]⟩ else form s
def prsE (t : ByteArray) : Int := if t = ⟨#[45]⟩ then 0 else if t.size = 0 then 8 else if hexOkS t then (if 512 < t.size / 2 then 12 else 0) else 8
def prsS (t : ByteArray) : ByteArray := if t = ⟨#[45]⟩ then ⟨#[]⟩ else if prsE t = 0 then strOfNums (hexS t (t.size / 2)) else ⟨#[]⟩
def chkE (s : ByteArray) (m : Int) : Int := if m < 0 ∨ 512 < m then 2 else if m < s.size then 12 else 0
def repL (s : ByteArray) (n : Nat) : List Int := (List.range n).map fun i => bt s (i % s.size)
def repE (s : ByteArray) (n : Int) : Int := if n < 0 ∨ (s.size = 0 ∧ n ≠ 0) then 2 else if 512 < n then 12 else 0
def repS (s : ByteArray) (n : Int) : ByteArray := if repE s n = 0 then strOfNums (repL s n.toNat) else ⟨#[]⟩
theorem repL_length (s : ByteArray) (n : Nat) : (repL s n).length = n := by simp [repL]
theorem repL_succ (s : ByteArray) (n : Nat) : repL s (n + 1) = repL s n ++ [bt s (n % s.size)] := by simp [repL, List.range_succ]
theorem repL_bd (s : ByteArray) (n : Nat) : ∀ z ∈ repL s n, 0 ≤ z ∧ z ≤ 255 := by
  intro z hz
  simp only [repL, List.mem_map] at hz
  obtain ⟨i, _, rfl⟩ := hz
  exact ⟨bt_nonneg _ _, bt_le _ _⟩
theorem repL_getD (s : ByteArray) (n i : Nat) (h : i < n) : (repL s n).getD i 0 = bt s (i % s.size) := by
  unfold repL
  rw [List.getD, List.getElem?_map, List.getElem?_range h]
  rfl
end Go.Proofs.YtfkkpgklciehoaaDoor
