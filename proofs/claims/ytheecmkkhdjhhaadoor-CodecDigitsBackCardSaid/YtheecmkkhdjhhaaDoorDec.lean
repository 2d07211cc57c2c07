/- Contracts of ParseDigits. -/
import Derived.Test.YtheecmkkhdjhhaaDoorRead
import Derived.WalkKit
import Derived.WalkSpells
import Derived.WalkLawsBesides
import Derived.Handy
import Derived.Lib.Hide
import Derived.Outline
import Derived.Laws.BytesArg
import Derived.Laws.CopyOwn
import Derived.Deep.Draws
import Derived.PlainAid
namespace Go.Proofs.YtheecmkkhdjhhaaDoor
open Go.RowKit Go.PlainAid

def dig (c : Int) : Bool := decide (48 ≤ c ∧ c ≤ 57)
/-- Whether a string is decimal; the number of its first j digits. -/
def decOkS (s : ByteArray) : Bool := decide (0 < s.size) && !(decide (1 < s.size) && (bt s 0 == 48)) && (List.range s.size).all fun i => dig (bt s i)
def dval (s : ByteArray) : Nat → Int
  | 0 => 0
  | j + 1 => 10 * dval s j + (bt s j - 48)

theorem toList_len (s : ByteArray) : s.toList.length = s.size := by
  rw [ByteArray.toList_eq, Array.length_toList]; rfl
theorem empty_of {s : ByteArray} (h : s.size = 0) : s.toList.isEmpty = true := by
  have : s.toList = [] := List.eq_nil_of_length_eq_zero (by rw [toList_len]; exact h)
  simp [this]
theorem not_empty_of {s : ByteArray} (h : 0 < s.size) : s.toList.isEmpty = false := by
  have : s.toList ≠ [] := by
    intro e
    have h0 : s.size = 0 := by rw [← toList_len, e]; rfl
    omega
  simp [this]

/-- The first j bytes are digits. -/
def Digs (s : ByteArray) (j : Nat) : Prop := ∀ i, i < j → dig (bt s i) = true
theorem Digs.succ {s : ByteArray} {j : Nat} (h : Digs s j) (hd : dig (bt s j) = true) : Digs s (j + 1) := by
  intro i hi
  rcases (show i < j ∨ i = j from by omega) with h1 | rfl
  · exact h i h1
  · exact hd
theorem Digs.all {s : ByteArray} (h : Digs s s.size) : ((List.range s.size).all fun i => dig (bt s i)) = true := by
  simp only [List.all_eq_true, List.mem_range]
  exact h
theorem nodig_of {s : ByteArray} {i : Nat} (h : dig (bt s i) = false) (hi : i < s.size) : ((List.range s.size).all fun i => dig (bt s i)) = false := by
  cases hh : ((List.range s.size).all fun i => dig (bt s i)) with
  | false => rfl
  | true =>
    simp only [List.all_eq_true, List.mem_range] at hh
    have := hh i hi
    rw [h] at this
    cases this

set_option maxHeartbeats 400000 in
theorem isDecimal_any (s : ByteArray) (w : World) (hs : s.size ≤ 140737488355328) : Calls Tryd.prog 35 #[.string s] w fun e w' => e = .returned (.bool (decOkS s)) ∧ w = w' := by
  have hg := get_bt s
  by_cases h0 : s.size = 0
  · have he := empty_of h0
    have hno : decOkS s = false := by simp [decOkS, h0]
    rw [hno]
    clear h0 hno
    go_enter Tryd.func35, Tryd.ntmps35
    go_wp2
    go_ret
    exact ⟨rfl, rfl⟩
  · have he := not_empty_of (show 0 < s.size by omega)
    have hpos : 0 < s.size := by omega
    by_cases h1 : 1 < s.size ∧ bt s 0 = 48
    · have hno : decOkS s = false := by simp [decOkS, h1.1, h1.2]
      rw [hno]
      have h2 : (bt s 0 == 48) = true := by simp [h1.2]
      have h3 := h1.1
      clear h1 hno h0
      go_enter Tryd.func35, Tryd.ntmps35
      go_wp2
      go_ret
      exact ⟨rfl, rfl⟩
    · have h2 : 1 < s.size → (bt s 0 == 48) = false := fun h => by
        simp only [beq_eq_false_iff_ne, ne_eq]
        exact fun e => h1 ⟨h, e⟩
      have hk : decOkS s = (List.range s.size).all fun i => dig (bt s i) := by
        unfold decOkS
        by_cases h : 1 < s.size
        · simp [hpos, h2 h]
        · simp [hpos, h]
      have Hk := Lib.hid hk
      clear hk h1 h0
      by_cases h3 : 1 < s.size
      all_goals first | (have h4 := h2 h3; clear h2) | clear h2
      all_goals go_enter Tryd.func35, Tryd.ntmps35
      all_goals go_wp2
      all_goals go_loop [18] (fun i => ∃ j : Nat, j ≤ s.size ∧ i = .int .i64 j ∧ Digs s j) (fun i => s.size - (intOf i).toNat)
      all_goals first
        | (case atStart => exact ⟨0, Nat.zero_le _, rfl, fun i hi => absurd hi (by omega)⟩)
        | skip
      all_goals (
        obtain ⟨j, hj, rfl, hd⟩ := hrel
        by_cases hlt : j < s.size)
      all_goals first
        | (have b1 := bt_nonneg s j
           have b2 := bt_le s j
           have hlt' : j < s.size := hlt
           by_cases k1 : bt s j < 48
           · have hno := nodig_of (s := s) (i := j) (by simp [dig]; omega) hlt
             have HN := Lib.hid (Hk.out.trans hno)
             clear hno
             go_wp2
             go_ret
             exact ⟨ret_bool HN.out.symm, rfl⟩
           · by_cases k2 : 57 < bt s j
             · have hno := nodig_of (s := s) (i := j) (by simp [dig]; omega) hlt
               have HN := Lib.hid (Hk.out.trans hno)
               clear hno
               go_wp2
               go_ret
               exact ⟨ret_bool HN.out.symm, rfl⟩
             · go_wp2
               go_round
               case rel => exact ⟨j + 1, by omega, by go_num, hd.succ (by simp [dig]; omega)⟩
               case measure => simp [intOf]; omega)
        | (obtain rfl : j = s.size := by omega
           have hyes := Lib.hid (Hk.out.trans hd.all)
           go_wp2
           go_ret
           exact ⟨ret_bool hyes.out.symm, rfl⟩)

theorem dval_zero (s : ByteArray) : dval s 0 = 0 := rfl
theorem dval_succ (s : ByteArray) (j : Nat) : dval s (j + 1) = 10 * dval s j + (bt s j - 48) := rfl
theorem dval_nonneg {s : ByteArray} {m : Nat} (h : Digs s m) : ∀ j, j ≤ m → 0 ≤ dval s j
  | 0, _ => by simp [dval]
  | j + 1, hj => by
    have h1 := dval_nonneg h j (by omega)
    have h2 := h j (by omega)
    simp [dig] at h2
    rw [dval_succ]; omega
theorem dval_mono {s : ByteArray} {m : Nat} (h : Digs s m) (i : Nat) : ∀ d, i + d ≤ m → dval s i ≤ dval s (i + d)
  | 0, _ => by simp
  | d + 1, hd => by
    have h1 := dval_mono h i d (by omega)
    have h2 := h (i + d) (by omega)
    have h3 := dval_nonneg h (i + d) (by omega)
    simp [dig] at h2
    rw [← Nat.add_assoc, dval_succ]; omega

/-- What ParseDigits returns. -/
def pdE (s : ByteArray) : Int := if decOkS s then (if dval s s.size < 18446744073709551616 then 0 else 16) else 8
def pdV (s : ByteArray) : Int := if pdE s = 0 then dval s s.size else 0

theorem digs_of {s : ByteArray} (h : decOkS s = true) : Digs s s.size := by
  simp only [decOkS, Bool.and_eq_true, List.all_eq_true, List.mem_range] at h
  exact h.2

set_option maxHeartbeats 400000 in
theorem parseDigits_any (s : ByteArray) (w : World) (hs : s.size ≤ 140737488355328) : Calls Tryd.prog 24 #[.string s] w fun e w' => e = .returned (.tuple #[.int .u64 (pdV s), .int .i64 (pdE s)]) ∧ w = w' := by
  cases hk : decOkS s with
  | false =>
    have e2 : pdE s = 8 := by simp [pdE, hk]
    have e1 : pdV s = 0 := by rw [pdV, e2]; rfl
    rw [e1, e2]
    clear e1 e2
    go_enter Tryd.func24, Tryd.ntmps24
    go_wp2_with (go_at_call 35; refine (isDecimal_any _ _ hs).mono ?_; rintro e w' ⟨rfl, rfl⟩)
    go_ret2
    exact ⟨rfl, rfl⟩
  | true =>
    have hd := digs_of hk
    have hg := get_bt s
    go_enter Tryd.func24, Tryd.ntmps24
    go_wp2_with (go_at_call 35; refine (isDecimal_any _ _ hs).mono ?_; rintro e w' ⟨rfl, rfl⟩)
    go_loop [4, 12] (fun n i => ∃ j : Nat, j ≤ s.size ∧ i = .int .i64 j ∧ n = .int .u64 (dval s j) ∧ dval s j < 18446744073709551616) (fun _ i => s.size - (intOf i).toNat)
    case atStart => exact ⟨0, Nat.zero_le _, rfl, rfl, by rw [dval_zero]; decide⟩
    case round =>
      obtain ⟨j, hj, rfl, rfl, hlt64⟩ := hrel
      by_cases hlt : j < s.size
      · have b1 := hd j hlt
        simp [dig] at b1
        obtain ⟨b1, b2⟩ := b1
        have b3 := dval_nonneg hd j hj
        by_cases hov : 10 * dval s j + (bt s j - 48) < 18446744073709551616
        · go_wp2
          go_round
          case rel => exact ⟨j + 1, by omega, by go_num, rfl, by rw [dval_succ]; exact hov⟩
          case measure => simp [intOf]; omega
        · have hbig : ¬ dval s s.size < 18446744073709551616 := by
            have := dval_mono hd (j + 1) (s.size - (j + 1)) (by omega)
            rw [dval_succ, show j + 1 + (s.size - (j + 1)) = s.size from by omega] at this
            omega
          have e2 : pdE s = 16 := by simp [pdE, hk, hbig]
          have e1 : pdV s = 0 := by rw [pdV, e2]; rfl
          have E := Lib.hid (And.intro e1 e2)
          clear e1 e2 hbig
          go_wp2
          go_ret2
          exact ⟨by rw [E.out.1, E.out.2]; rfl, rfl⟩
      · obtain rfl : j = s.size := by omega
        have e2 : pdE s = 0 := by simp [pdE, hk, hlt64]
        have e1 : pdV s = dval s s.size := by rw [pdV, e2]; rfl
        have E := Lib.hid (And.intro e1 e2)
        clear e1 e2
        go_wp2
        go_ret2
        exact ⟨by rw [E.out.1, E.out.2]; rfl, rfl⟩
end Go.Proofs.YtheecmkkhdjhhaaDoor
