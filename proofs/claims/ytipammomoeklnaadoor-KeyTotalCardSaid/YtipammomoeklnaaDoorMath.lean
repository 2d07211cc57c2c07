/- Plain mathematics for layer 5: strings as lists of bytes, key characters, the order of strings, the next key. No program is named here. -/
import Derived.WalkKit
import Derived.PlainAid
import Derived.Lib.Bytealg
import Derived.Lib.Bytes
import Derived.Laws.BytesArg
namespace Go.Proofs.YtipammomoeklnaaDoor
open Go.RowKit Go.PlainAid

/-- The bytes of a string, as numbers. -/
def bts (s : ByteArray) : List Int := s.data.toList.map fun b => (b.toNat : Int)
theorem bts_length (s : ByteArray) : (bts s).length = s.size := by unfold bts; rw [List.length_map, Array.length_toList]; rfl
theorem bts_getD (s : ByteArray) (i : Nat) : (bts s).getD i 0 = bt s i := by
  unfold bts bt
  by_cases h : i < s.size
  · rw [dif_pos h, List.getD, List.getElem?_map, List.getElem?_eq_getElem (by rw [Array.length_toList]; exact h)]
    rfl
  · rw [dif_neg h, List.getD, List.getElem?_eq_none (by rw [List.length_map, Array.length_toList]; exact Nat.le_of_not_lt h)]
    rfl
theorem bts_bd (s : ByteArray) : ∀ z ∈ bts s, 0 ≤ z ∧ z ≤ 255 := by
  intro z hz
  obtain ⟨b, _, rfl⟩ := List.mem_map.1 hz
  have := b.toNat_lt
  omega
theorem bts_str (L : List Int) (h : ∀ z ∈ L, 0 ≤ z ∧ z ≤ 255) : bts (strOfNums L) = L := by
  unfold bts
  rw [strOfNums_data, List.map_map]
  conv => rhs; rw [← List.map_id L]
  apply List.map_congr_left
  intro z hz
  have := h z hz
  simp
  omega
theorem str_bts (s : ByteArray) : strOfNums (bts s) = s := by
  apply ByteArray.ext
  apply Array.toList_inj.1
  rw [strOfNums_data]
  unfold bts
  rw [List.map_map]
  conv => rhs; rw [← List.map_id s.data.toList]
  apply List.map_congr_left
  intro b _
  simp
theorem bts_inj {s t : ByteArray} (h : bts s = bts t) : s = t := by rw [← str_bts s, h, str_bts t]
theorem bts_append (s t : ByteArray) : bts (s ++ t) = bts s ++ bts t := by
  unfold bts
  rw [ByteArray.data_append, Array.toList_append, List.map_append]
theorem bts_extract (s : ByteArray) (a b : Nat) : bts (s.extract a b) = ((bts s).drop a).take (b - a) := by
  unfold bts
  rw [ByteArray.data_extract, Array.toList_extract, List.extract_eq_take_drop, List.map_take, List.map_drop]
theorem str_app (a b : List Int) : strOfNums a ++ strOfNums b = strOfNums (a ++ b) := by
  apply ByteArray.ext
  simp [strOfNums]
theorem toList_beq (s t : ByteArray) : (s.toList == t.toList) = decide (s = t) := by
  rw [ByteArray.toList_eq, ByteArray.toList_eq, Bool.eq_iff_iff, beq_iff_eq, decide_eq_true_iff]
  exact ⟨fun h => ByteArray.ext (Array.toList_inj.1 h), fun h => by rw [h]⟩
theorem toList_len (s : ByteArray) : s.toList.length = s.size := by rw [ByteArray.toList_eq, Array.length_toList]; rfl
theorem empty_of {s : ByteArray} (h : s.size = 0) : s.toList.isEmpty = true := by
  have : s.toList = [] := List.eq_nil_of_length_eq_zero (by rw [toList_len]; exact h)
  simp [this]
theorem not_empty_of {s : ByteArray} (h : 0 < s.size) : s.toList.isEmpty = false := by
  have : s.toList ≠ [] := by
    intro e
    have h0 : s.size = 0 := by rw [← toList_len, e]; rfl
    omega
  simp [this]

/-- Whether a byte is a key character; its place among them (-1: it is none); the character at a place; the next character. -/
def kch (c : Int) : Bool := decide (c = 45 ∨ c = 46 ∨ (48 ≤ c ∧ c ≤ 57) ∨ c = 95 ∨ (97 ≤ c ∧ c ≤ 122))
def plc (c : Int) : Int := if c = 45 then 0 else if c = 46 then 1 else if 48 ≤ c ∧ c ≤ 57 then c - 46 else if c = 95 then 12 else if 97 ≤ c ∧ c ≤ 122 then c - 84 else -1
def chr (i : Int) : Int := if i = 0 then 45 else if i = 1 then 46 else if i < 12 then i + 46 else if i = 12 then 95 else i + 84
def suc (c : Int) : Int := chr (plc c + 1)
theorem plc_bd (c : Int) : -1 ≤ plc c ∧ plc c ≤ 38 := by unfold plc; repeat' split <;> omega
theorem plc_kch (c : Int) : decide (0 ≤ plc c) = kch c := by
  unfold plc kch
  rw [Bool.eq_iff_iff]
  simp
  repeat' split <;> omega
theorem plc_last (c : Int) (_ : kch c = true) : plc c = 38 ↔ c = 122 := by
  unfold plc; repeat' split <;> omega
theorem chr_kch (i : Int) (h0 : 0 ≤ i) (h1 : i ≤ 38) : kch (chr i) = true := by
  unfold kch chr; simp; repeat' split <;> omega
theorem suc_kch (c : Int) (h : kch c = true) (hz : c ≠ 122) : kch (suc c) = true := by
  have := plc_bd c
  have h2 := plc_last c h
  exact chr_kch _ (by omega) (by omega)
theorem suc_gt (c : Int) (h : kch c = true) (_ : c ≠ 122) : c < suc c := by
  unfold kch at h; simp at h; unfold suc plc chr; repeat' split <;> omega
theorem suc_least (c d : Int) (_ : kch c = true) (hd : kch d = true) (hcd : c < d) : suc c ≤ d := by
  unfold kch at hd; simp at hd; unfold suc plc chr; repeat' split <;> omega
theorem kch_bd {c : Int} (h : kch c = true) : 45 ≤ c ∧ c ≤ 122 := by unfold kch at h; simp at h; omega

/-- What Check and Fits return. -/
def chkE (L : List Int) : Int := if L.length = 0 then 2 else if L.all kch then (if 32 < L.length then 12 else 0) else 2
def fitE (L : List Int) (most : Int) : Int := if most < 1 ∨ 32 < most then 2 else if chkE L = 0 then (if most < L.length then 12 else 0) else chkE L
theorem chkE_ok {L : List Int} (h : chkE L = 0) : 1 ≤ L.length ∧ L.length ≤ 32 ∧ ∀ z ∈ L, kch z = true := by
  unfold chkE at h
  split at h
  · omega
  · split at h
    · rename_i h2
      split at h
      · omega
      · exact ⟨by omega, by omega, by simpa using h2⟩
    · omega
theorem chkE_of {L : List Int} (h1 : 1 ≤ L.length) (h2 : L.length ≤ 32) (h : ∀ z ∈ L, kch z = true) : chkE L = 0 := by
  unfold chkE
  rw [if_neg (by omega), if_pos (by simpa using h), if_neg (by omega)]
theorem chkE_cases (L : List Int) : chkE L = 0 ∨ chkE L = 2 ∨ chkE L = 12 := by
  unfold chkE
  split
  · exact .inr (.inl rfl)
  · split
    · split
      · exact .inr (.inr rfl)
      · exact .inl rfl
    · exact .inr (.inl rfl)

/-- The order; the length of the longest common prefix. -/
def cmp : List Int → List Int → Int
  | [], [] => 0
  | [], _ :: _ => -1
  | _ :: _, [] => 1
  | a :: as, b :: bs => if a < b then -1 else if b < a then 1 else cmp as bs
def cmn : List Int → List Int → Nat
  | a :: as, b :: bs => if a = b then cmn as bs + 1 else 0
  | _, _ => 0
theorem cmp_nil (a : List Int) : cmp a [] = if a.length = 0 then 0 else 1 := by cases a <;> simp [cmp]
theorem nil_cmp (a : List Int) : cmp [] a = if a.length = 0 then 0 else -1 := by cases a <;> simp [cmp]
theorem cmp_cons (a b : Int) (as bs : List Int) : cmp (a :: as) (b :: bs) = if a < b then -1 else if b < a then 1 else cmp as bs := rfl
theorem cmp_bd : ∀ a b, cmp a b = -1 ∨ cmp a b = 0 ∨ cmp a b = 1
  | [], [] => by simp [cmp]
  | [], _ :: _ => by simp [cmp]
  | _ :: _, [] => by simp [cmp]
  | a :: as, b :: bs => by
    rw [cmp_cons]; have := cmp_bd as bs
    split
    · omega
    · split <;> omega
theorem cmp_neg : ∀ a b, cmp b a = - cmp a b
  | [], [] => by simp [cmp]
  | [], _ :: _ => by simp [cmp]
  | _ :: _, [] => by simp [cmp]
  | a :: as, b :: bs => by
    rw [cmp_cons, cmp_cons, cmp_neg as bs]; repeat' split <;> omega
theorem cmp_eq : ∀ {a b}, cmp a b = 0 ↔ a = b
  | [], [] => by simp [cmp]
  | [], _ :: _ => by simp [cmp]
  | _ :: _, [] => by simp [cmp]
  | a :: as, b :: bs => by
    rw [cmp_cons, List.cons.injEq, ← cmp_eq (a := as) (b := bs)]
    repeat' split <;> omega
theorem cmp_trans : ∀ a b c, cmp a b ≤ 0 → cmp b c ≤ 0 → cmp a c ≤ 0 ∧ (cmp a b < 0 → cmp a c < 0)
  | [], b, [] => by
    cases b with
    | nil => simp [cmp]
    | cons _ _ => simp [cmp]
  | [], b, c :: cs => by simp [cmp]
  | a :: as, [], c => by simp [cmp]
  | a :: as, b :: bs, [] => by simp [cmp]
  | a :: as, b :: bs, c :: cs => by
    have ih := cmp_trans as bs cs
    rw [cmp_cons, cmp_cons, cmp_cons]
    intro h1 h2
    repeat' split at h1
    · split at h2
      · rw [if_pos (by omega)]; omega
      · split at h2
        · omega
        · rw [if_pos (by omega)]; omega
    · omega
    · rw [if_neg (show ¬ a < b by omega), if_neg (show ¬ b < a by omega)]
      have hab : a = b := by omega
      subst hab
      repeat' split at h2
      · rw [if_pos (by omega)]; omega
      · omega
      · rw [if_neg (by omega), if_neg (by omega)]
        exact ih h1 h2

theorem cmn_comm : ∀ a b, cmn a b = cmn b a
  | [], [] => rfl
  | [], _ :: _ => rfl
  | _ :: _, [] => rfl
  | a :: as, b :: bs => by
    unfold cmn
    by_cases h : a = b
    · rw [if_pos h, if_pos h.symm, cmn_comm as bs]
    · rw [if_neg h, if_neg (fun e => h e.symm)]
theorem cmn_le : ∀ a b, cmn a b ≤ a.length ∧ cmn a b ≤ b.length
  | [], [] => by simp [cmn]
  | [], _ :: _ => by simp [cmn]
  | _ :: _, [] => by simp [cmn]
  | a :: as, b :: bs => by
    unfold cmn
    have := cmn_le as bs
    simp only [List.length_cons]
    split <;> omega
theorem cmn_take : ∀ a b : List Int, a.take (cmn a b) = b.take (cmn a b)
  | [], [] => rfl
  | [], _ :: _ => rfl
  | _ :: _, [] => rfl
  | a :: as, b :: bs => by
    unfold cmn
    split
    · rename_i h; subst h; simp [cmn_take as bs]
    · rfl
theorem cmn_ne : ∀ a b : List Int, cmn a b < a.length → cmn a b < b.length → a.getD (cmn a b) 0 ≠ b.getD (cmn a b) 0
  | [], [] => by simp
  | [], _ :: _ => by simp
  | _ :: _, [] => by simp
  | a :: as, b :: bs => by
    unfold cmn
    intro h1 h2
    split at h1
    · rename_i h
      rw [if_pos h] at h2 ⊢
      rw [List.getD_cons_succ, List.getD_cons_succ]
      exact cmn_ne as bs (by simpa using h1) (by simpa using h2)
    · rename_i h
      rw [if_neg h]
      simpa using h
/-- Where a common prefix ends. -/
theorem cmn_is : ∀ (a b : List Int) (j : Nat), j ≤ a.length → j ≤ b.length → a.take j = b.take j → (j = a.length ∨ j = b.length ∨ a.getD j 0 ≠ b.getD j 0) → cmn a b = j
  | [], _, j, h, _, _, _ => by have : j = 0 := by simpa using h
                               subst this; simp [cmn]
  | _ :: _, [], j, _, h, _, _ => by have : j = 0 := by simpa using h
                                    subst this; simp [cmn]
  | a :: as, b :: bs, 0, _, _, _, h => by
    unfold cmn
    rw [if_neg (by simpa using h)]
  | a :: as, b :: bs, j + 1, h1, h2, h3, h4 => by
    rw [List.take_succ_cons, List.take_succ_cons, List.cons.injEq] at h3
    unfold cmn
    rw [if_pos h3.1, cmn_is as bs j (by simpa using h1) (by simpa using h2) h3.2 (by simpa using h4)]
/-- The order by the common prefix. -/
theorem cmp_cmn : ∀ a b : List Int, cmp a b = if cmn a b = a.length ∧ cmn a b = b.length then 0 else if cmn a b = a.length ∨ (cmn a b < b.length ∧ a.getD (cmn a b) 0 < b.getD (cmn a b) 0) then -1 else 1
  | [], [] => by simp [cmn, cmp]
  | [], _ :: _ => by simp [cmn, cmp]
  | _ :: _, [] => by simp [cmn, cmp]
  | a :: as, b :: bs => by
    rw [cmp_cons]
    unfold cmn
    by_cases h : a = b
    · subst h
      rw [if_neg (by omega), if_neg (by omega), if_pos rfl, cmp_cmn as bs]
      simp
    · rw [if_neg h]
      have h1 : ¬ (0 = (a :: as).length ∧ 0 = (b :: bs).length) := by simp
      rw [if_neg h1]
      by_cases hlt : a < b
      · rw [if_pos hlt, if_pos (by simp [hlt])]
      · rw [if_neg hlt, if_pos (by omega), if_neg (by simp [hlt])]

theorem u8_lt (a b : UInt8) : (a < b) ↔ ((a.toNat : Int) < (b.toNat : Int)) := by
  rw [UInt8.lt_iff_toNat_lt]; omega
theorem compareBytes_is : ∀ a b : List UInt8, Lib.compareBytes a b = cmp (a.map fun c => (c.toNat : Int)) (b.map fun c => (c.toNat : Int))
  | [], [] => rfl
  | [], _ :: _ => rfl
  | _ :: _, [] => rfl
  | a :: as, b :: bs => by
    rw [List.map_cons, List.map_cons, cmp_cons, ← compareBytes_is as bs]
    show (if a < b then -1 else if b < a then 1 else Lib.compareBytes as bs) = _
    simp only [u8_lt]

/-- The next key: of a shorter one; of one that is as long as keys can be. -/
def nxr : List Int → Option (List Int)
  | [] => none
  | c :: r => match nxr r with
    | some r' => some (c :: r')
    | none => if c = 122 then none else some [suc c]
def nx (L : List Int) : Nat → Option (List Int)
  | 0 => none
  | n + 1 => if L.getD n 0 = 122 then nx L n else some (L.take n ++ [suc (L.getD n 0)])
theorem nx_cons (c : Int) (r : List Int) : ∀ n, n ≤ r.length → nx (c :: r) (n + 1) = match nx r n with
    | some r' => some (c :: r')
    | none => if c = 122 then none else some [suc c]
  | 0, _ => by simp [nx]
  | n + 1, h => by
    have ih := nx_cons c r n (by omega)
    rw [nx, List.getD_cons_succ, ih]
    conv => rhs; rw [nx]
    by_cases h1 : r.getD n 0 = 122
    · rw [if_pos h1, if_pos h1]
    · rw [if_neg h1, if_neg h1]; rfl
theorem nx_is : ∀ L : List Int, nx L L.length = nxr L
  | [] => rfl
  | c :: r => by
    rw [List.length_cons, nx_cons c r r.length (Nat.le_refl _), nx_is r]
    rfl
def nxt (L : List Int) : Option (List Int) := if chkE L = 0 then (if L.length < 32 then some (L ++ [45]) else nxr L) else none

theorem nxr_none : ∀ {L}, nxr L = none → L = List.replicate L.length 122
  | [], _ => rfl
  | c :: r, h => by
    unfold nxr at h
    cases hr : nxr r with
    | some r' => rw [hr] at h; cases h
    | none =>
      rw [hr] at h
      have := nxr_none hr
      by_cases hc : c = 122
      · rw [List.length_cons, List.replicate_succ, ← this, hc]
      · simp [hc] at h
theorem nxr_all (n : Nat) : nxr (List.replicate n 122) = none := by
  induction n with
  | zero => rfl
  | succ n ih => rw [List.replicate_succ, nxr, ih]; rfl
theorem nxr_good : ∀ {L n}, (∀ z ∈ L, kch z = true) → nxr L = some n → cmp L n = -1 ∧ (∀ z ∈ n, kch z = true) ∧ 1 ≤ n.length ∧ n.length ≤ L.length
  | [], n, _, h => by cases h
  | c :: r, n, hk, h => by
    unfold nxr at h
    cases hr : nxr r with
    | some r' =>
      rw [hr] at h
      obtain rfl := Option.some.inj h
      obtain ⟨h1, h2, h3, h4⟩ := nxr_good (fun z hz => hk z (List.mem_cons_of_mem _ hz)) hr
      refine ⟨by rw [cmp_cons, if_neg (by omega), if_neg (by omega)]; exact h1, ?_, by simp, by simpa using h4⟩
      intro z hz
      rcases List.mem_cons.1 hz with rfl | hz
      · exact hk _ (by simp)
      · exact h2 z hz
    | none =>
      rw [hr] at h
      by_cases hc : c = 122
      · simp [hc] at h
      · simp only [hc, if_false] at h
        obtain rfl := Option.some.inj h
        have hkc := hk c (by simp)
        refine ⟨by rw [cmp_cons, if_pos (suc_gt c hkc hc)], ?_, by simp, by simp⟩
        intro z hz
        rw [List.mem_singleton.1 hz]
        exact suc_kch c hkc hc
theorem nxr_top : ∀ {L t}, nxr L = none → t.length ≤ L.length → (∀ z ∈ t, kch z = true) → cmp t L ≤ 0
  | [], t, _, h, _ => by
    have : t = [] := List.eq_nil_of_length_eq_zero (by simpa using h)
    subst this; simp [cmp]
  | c :: r, [], _, _, _ => by simp [cmp]
  | c :: r, d :: u, h, hl, hk => by
    have hh := h
    unfold nxr at h
    cases hr : nxr r with
    | some r' => rw [hr] at h; cases h
    | none =>
      rw [hr] at h
      have hc : c = 122 := by
        by_cases hc : c = 122
        · exact hc
        · simp [hc] at h
      have hd := kch_bd (hk d (by simp))
      have := nxr_top hr (t := u) (by simpa using hl) (fun z hz => hk z (List.mem_cons_of_mem _ hz))
      rw [cmp_cons]
      repeat' split <;> omega
theorem nxr_between : ∀ {L n t}, (∀ z ∈ L, kch z = true) → nxr L = some n → t.length ≤ L.length → (∀ z ∈ t, kch z = true) → cmp t L ≤ 0 ∨ cmp n t ≤ 0
  | [], n, t, _, h, _, _ => by cases h
  | c :: r, n, [], _, h, _, _ => by simp [cmp]
  | c :: r, n, d :: u, hk, h, hl, ht => by
    have hkd := ht d (by simp)
    have hku : ∀ z ∈ u, kch z = true := fun z hz => ht z (List.mem_cons_of_mem _ hz)
    have hkr : ∀ z ∈ r, kch z = true := fun z hz => hk z (List.mem_cons_of_mem _ hz)
    have hlu : u.length ≤ r.length := by simpa using hl
    unfold nxr at h
    cases hr : nxr r with
    | some r' =>
      rw [hr] at h
      obtain rfl := Option.some.inj h
      rw [cmp_cons, cmp_cons]
      have := nxr_between hkr hr hlu hku
      repeat' split <;> omega
    | none =>
      rw [hr] at h
      by_cases hc : c = 122
      · simp [hc] at h
      · simp only [hc, if_false] at h
        obtain rfl := Option.some.inj h
        have hkc := hk c (by simp)
        rw [cmp_cons, cmp_cons]
        by_cases h1 : d < c
        · rw [if_pos h1]; omega
        · by_cases h2 : c < d
          · have h3 := suc_least c d hkc hkd h2
            right
            split
            · omega
            · rw [if_neg (by omega), nil_cmp]; split <;> omega
          · rw [if_neg h1, if_neg h2]
            exact .inl (nxr_top hr hlu hku)
theorem app_good : ∀ L, cmp L (L ++ [45]) = -1
  | [] => rfl
  | c :: r => by rw [List.cons_append, cmp_cons, if_neg (by omega), if_neg (by omega)]; exact app_good r
theorem app_between : ∀ L t, (∀ z ∈ t, kch z = true) → cmp t L ≤ 0 ∨ cmp (L ++ [45]) t ≤ 0
  | L, [], _ => by rw [nil_cmp]; split <;> omega
  | [], d :: u, h => by
    right
    have := kch_bd (h d (by simp))
    rw [List.nil_append, cmp_cons]
    split
    · omega
    · rw [if_neg (by omega), nil_cmp]; split <;> omega
  | c :: r, d :: u, h => by
    have := app_between r u (fun z hz => h z (List.mem_cons_of_mem _ hz))
    rw [List.cons_append, cmp_cons, cmp_cons]
    repeat' split <;> omega

/-- Next: a greater key, none between both. -/
theorem nxt_good {L n : List Int} (h : nxt L = some n) : cmp L n = -1 ∧ chkE n = 0 := by
  unfold nxt at h
  split at h
  · rename_i hk
    obtain ⟨k1, k2, k3⟩ := chkE_ok hk
    split at h
    · obtain rfl := Option.some.inj h
      refine ⟨app_good L, chkE_of (by simp) (by simp; omega) ?_⟩
      intro z hz
      rcases List.mem_append.1 hz with hz | hz
      · exact k3 z hz
      · rw [List.mem_singleton.1 hz]; decide
    · obtain ⟨h1, h2, h3, h4⟩ := nxr_good k3 h
      exact ⟨h1, chkE_of h3 (by omega) h2⟩
  · cases h
theorem nxt_between {L n t : List Int} (h : nxt L = some n) (ht : chkE t = 0) : cmp t L ≤ 0 ∨ cmp n t ≤ 0 := by
  obtain ⟨t1, t2, t3⟩ := chkE_ok ht
  unfold nxt at h
  split at h
  · rename_i hk
    obtain ⟨k1, k2, k3⟩ := chkE_ok hk
    split at h
    · obtain rfl := Option.some.inj h
      exact app_between L t t3
    · exact nxr_between k3 h (by omega) t3
  · cases h
theorem nxt_top {L : List Int} (hk : chkE L = 0) : nxt L = none ↔ L = List.replicate 32 122 := by
  obtain ⟨k1, k2, k3⟩ := chkE_ok hk
  unfold nxt
  rw [if_pos hk]
  split
  · refine ⟨fun h => (by cases h), fun h => ?_⟩
    have := congrArg List.length h
    rw [List.length_replicate] at this
    omega
  · constructor
    · intro h
      have := nxr_none h
      rw [show L.length = 32 from by omega] at this
      exact this
    · intro h; rw [h]; exact nxr_all 32
theorem nxt_last {L t : List Int} (hk : chkE L = 0) (h : nxt L = none) (ht : chkE t = 0) : cmp t L ≤ 0 := by
  obtain ⟨t1, t2, t3⟩ := chkE_ok ht
  obtain ⟨k1, k2, k3⟩ := chkE_ok hk
  unfold nxt at h
  rw [if_pos hk] at h
  split at h
  · cases h
  · exact nxr_top h (by omega) t3
end Go.Proofs.YtipammomoeklnaaDoor
