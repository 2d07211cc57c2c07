/- The reference's queue: Len, Peek. -/
import Derived.Test.YtepgdeokjgjapaaQJRef
namespace Go.Proofs.Ytepgdeokjgjapaa.QJ
open Go.RowKit
/-- The best of the first k ids: the first one with the least number. -/
def Best (L : List Mk) (k : Nat) : Option (Nat × Int) → Prop
  | none => ∀ j q, j < k → L[j]? ≠ some (true, q)
  | some (i, p) => i < k ∧ L[i]? = some (true, p) ∧ ∀ j q, j < k → L[j]? = some (true, q) → p ≤ q ∧ (j < i → p < q)
def idOf : Option (Nat × Int) → Int
  | none => -1
  | some (i, _) => (i : Nat)
theorem best_zero (L : List Mk) : Best L 0 none := fun j _ hj => absurd hj (Nat.not_lt_zero j)
theorem best_skip {L : List Mk} {k : Nat} {b : Option (Nat × Int)} {q : Int} (h : Best L k b) (hk : L[k]? = some (false, q)) : Best L (k + 1) b := by
  have hne : ∀ j r, j < k + 1 → L[j]? = some (true, r) → j < k := fun j r hj e => by
    rcases Nat.lt_or_ge j k with h1 | h1
    · exact h1
    · obtain rfl : j = k := by omega
      rw [hk] at e
      cases e
  cases b with
  | none => exact fun j r hj e => h j r (hne j r hj e) e
  | some x =>
    obtain ⟨i, p⟩ := x
    exact ⟨Nat.lt_succ_of_lt h.1, h.2.1, fun j r hj e => h.2.2 j r (hne j r hj e) e⟩
theorem best_first {L : List Mk} {k : Nat} {q : Int} (h : Best L k none) (hk : L[k]? = some (true, q)) : Best L (k + 1) (some (k, q)) := by
  refine ⟨Nat.lt_succ_self k, hk, fun j r hj e => ?_⟩
  rcases Nat.lt_or_ge j k with h1 | h1
  · exact absurd e (h j r h1)
  · obtain rfl : j = k := by omega
    rw [hk] at e
    cases e
    exact ⟨Int.le_refl _, fun h2 => absurd h2 (Nat.lt_irrefl _)⟩
theorem best_more {L : List Mk} {k i : Nat} {p q : Int} (h : Best L k (some (i, p))) (hk : L[k]? = some (true, q)) (hlt : q < p) : Best L (k + 1) (some (k, q)) := by
  refine ⟨Nat.lt_succ_self k, hk, fun j r hj e => ?_⟩
  rcases Nat.lt_or_ge j k with h1 | h1
  · have := (h.2.2 j r h1 e).1
    exact ⟨by omega, fun _ => by omega⟩
  · obtain rfl : j = k := by omega
    rw [hk] at e
    cases e
    exact ⟨Int.le_refl _, fun h2 => absurd h2 (Nat.lt_irrefl _)⟩
theorem best_less {L : List Mk} {k i : Nat} {p q : Int} (h : Best L k (some (i, p))) (hk : L[k]? = some (true, q)) (hge : ¬ q < p) : Best L (k + 1) (some (i, p)) := by
  refine ⟨Nat.lt_succ_of_lt h.1, h.2.1, fun j r hj e => ?_⟩
  rcases Nat.lt_or_ge j k with h1 | h1
  · exact h.2.2 j r h1 e
  · obtain rfl : j = k := by omega
    rw [hk] at e
    cases e
    exact ⟨by omega, fun h2 => by have := h.1; omega⟩
theorem below_drewN {B : Nat} {a w : World} (h : Below B a w) (n : Nat) : Below B a (w.drewN n) := h.trans ⟨rfl, rfl, rfl, Nat.le_refl _, fun _ _ => rfl⟩
section
variable {w : World} {B R n bI cI bP cP : Nat} {L : List Mk}
theorem rlen (h : ROwn w B R n bI cI bP cP L) : Calls Try.prog 67 #[.pointer (some ⟨R, 0, none⟩)] w fun e w' => e = .returned (.int .i64 (L.countP (·.1) : Nat)) ∧ w = w' := by
  have gh := Lib.hid h
  have c0 := h.c0
  have hn := h.top
  clear h
  go_enter Try.func67, Try.ntmps67
  go_wp2
  go_loopw [3, 4] (fun c i wr => ∃ k : Nat, k ≤ n ∧ i = .int .i64 k ∧ c = .int .i64 ((L.take k).countP (·.1) : Nat) ∧ (L.take k).countP (·.1) ≤ k ∧ wr = w) (fun _ i _ => n - (intOf i).toNat)
  case atStart => exact ⟨0, Nat.zero_le _, rfl, by simp, by simp, rfl⟩
  case round =>
    obtain ⟨k, hk, rfl, rfl, hck, rfl⟩ := hrel
    by_cases hlt : k < n
    · obtain ⟨x, hx⟩ : ∃ x, L[k]? = some x := ⟨_, List.getElem?_eq_getElem (by rw [gh.out.len]; exact hlt)⟩
      have d0 := gh.out.mark hx
      have gs := Lib.hid (show (L.take (k + 1)).countP (·.1) = (L.take k).countP (·.1) + (if x.1 then 1 else 0) by
        rw [List.take_add_one, hx]
        cases h1 : x.1 <;> simp [List.countP_append, h1])
      obtain ⟨c, hc⟩ : ∃ c, c = (L.take k).countP (·.1) := ⟨_, rfl⟩
      rw [← hc] at hck
      rw [← hc]
      have gc := Lib.hid hc
      have hlt' : (k : Int) < (n : Int) := by omega
      obtain ⟨m, q⟩ := x
      clear hx hc
      cases m with
      | false =>
        go_wp2_with (go_at_call 66; refine (rvalid gh.out).mono ?_; rintro e w' ⟨rfl, rfl⟩)
        have e : (L.take (k + 1)).countP (·.1) = c := by rw [gs.out, gc.out]; simp
        exact ⟨⟨k + 1, by omega, by simp, by rw [e], by omega, trivial⟩, by simp [intOf]; omega⟩
      | true =>
        go_wp2_with (go_at_call 66; refine (rvalid gh.out).mono ?_; rintro e w' ⟨rfl, rfl⟩)
        have e : (L.take (k + 1)).countP (·.1) = c + 1 := by rw [gs.out, gc.out]; simp
        exact ⟨⟨k + 1, by omega, by simp, by rw [e]; simp, by omega, trivial⟩, by simp [intOf]; omega⟩
    · obtain rfl : n = k := by omega
      have e : L.take n = L := List.take_of_length_le (by rw [gh.out.len]; exact Nat.le_refl _)
      rw [e]
      clear e
      go_wp2_with (go_at_call 66; refine (rvalid gh.out).mono ?_; rintro e w' ⟨rfl, rfl⟩)
      go_ret
      exact ⟨rfl, rfl⟩
theorem rpeek (h : ROwn w B R n bI cI bP cP L) : Calls Try.prog 63 #[.pointer (some ⟨R, 0, none⟩)] w fun e w' => (∃ b, Best L n b ∧ e = .returned (match b with | none => .tuple #[.int .i64 0, .int .i64 0, .bool false] | some (i, p) => .tuple #[.int .i64 (i : Nat), .int .i64 p, .bool true])) ∧ Below w.heap.size w w' := by
  have gh := Lib.hid h
  have hn := h.top
  clear h
  go_enter Try.func63, Try.ntmps63
  go_wp2
  go_loopw [5, 6] (fun c i wr => ∃ (k : Nat) (b : Option (Nat × Int)), k ≤ n ∧ i = .int .i64 k ∧ c = .int .i64 (idOf b) ∧ Hid (Best L k b ∧ Below w.heap.size w wr)) (fun _ i _ => n - (intOf i).toNat)
  case atStart => exact ⟨0, none, Nat.zero_le _, rfl, rfl, best_zero L, Below.refl _ _⟩
  case round =>
    obtain ⟨k, b, hk, rfl, rfl, gI⟩ := hrel
    have gW := Lib.hid (gh.out.below gI.out.2)
    have c0 := gW.out.c0
    have c1 := gW.out.c1
    by_cases hlt : k < n
    · obtain ⟨x, hx⟩ : ∃ x, L[k]? = some x := ⟨_, List.getElem?_eq_getElem (by rw [gh.out.len]; exact hlt)⟩
      have d0 := gW.out.mark hx
      have d1 := gW.out.num hx
      have hlt' : (k : Int) < (n : Int) := by omega
      obtain ⟨m, q⟩ := x
      have gx := Lib.hid hx
      clear hx
      cases m with
      | false =>
        go_wp2_with (go_at_call 66; refine (rvalid gW.out).mono ?_; rintro e w' ⟨rfl, rfl⟩)
        go_quiet (fail)
        have gq := Lib.hid (gI.out.2.trans ((below_drewN (Below.refl _ wr) nq).mono gI.out.2.size))
        generalize wr.drewN nq = wq at gq ⊢
        go_wp2
        exact ⟨⟨k + 1, b, by omega, by simp, rfl, best_skip gI.out.1 gx.out, gq.out⟩, by simp [intOf]; omega⟩
      | true =>
        cases b with
        | none =>
          unfold idOf
          go_wp2_with (go_at_call 66; refine (rvalid gW.out).mono ?_; rintro e w' ⟨rfl, rfl⟩)
          go_quiet (fail)
          have gq := Lib.hid (gI.out.2.trans ((below_drewN (Below.refl _ wr) nq).mono gI.out.2.size))
          generalize wr.drewN nq = wq at gq ⊢
          go_wp2
          exact ⟨⟨k + 1, some (k, q), by omega, by simp, rfl, best_first gI.out.1 gx.out, gq.out⟩, by simp [intOf]; omega⟩
        | some y =>
          obtain ⟨i, p⟩ := y
          have hi : i < n := by have := gI.out.1.1; omega
          have hi' : (i : Int) < (n : Int) := by omega
          have hi0 : (0 : Int) ≤ (i : Int) := by omega
          have d2 := gW.out.num gI.out.1.2.1
          unfold idOf
          by_cases hlt2 : q < p
          · go_wp2_with (go_at_call 66; refine (rvalid gW.out).mono ?_; rintro e w' ⟨rfl, rfl⟩)
            go_quiet (fail)
            have gq := Lib.hid (gI.out.2.trans ((below_drewN (Below.refl _ wr) nq).mono gI.out.2.size))
            generalize wr.drewN nq = wq at gq ⊢
            go_wp2
            exact ⟨⟨k + 1, some (k, q), by omega, by simp, rfl, best_more gI.out.1 gx.out hlt2, gq.out⟩, by simp [intOf]; omega⟩
          · go_wp2_with (go_at_call 66; refine (rvalid gW.out).mono ?_; rintro e w' ⟨rfl, rfl⟩)
            go_quiet (fail)
            have gq := Lib.hid (gI.out.2.trans ((below_drewN (Below.refl _ wr) nq).mono gI.out.2.size))
            generalize wr.drewN nq = wq at gq ⊢
            go_wp2
            exact ⟨⟨k + 1, some (i, p), by omega, by simp, rfl, best_less gI.out.1 gx.out (Int.not_lt.2 hlt2), gq.out⟩, by simp [intOf]; omega⟩
    · obtain rfl : n = k := by omega
      cases b with
      | none =>
        unfold idOf
        go_wp2_with (go_at_call 66; refine (rvalid gW.out).mono ?_; rintro e w' ⟨rfl, rfl⟩)
        go_ret3
        exact ⟨⟨none, gI.out.1, rfl⟩, gI.out.2⟩
      | some y =>
        obtain ⟨i, p⟩ := y
        have hi' : (i : Int) < (n : Int) := by have := gI.out.1.1; omega
        have hi0 : (0 : Int) ≤ (i : Int) := by omega
        have d2 := gW.out.num gI.out.1.2.1
        unfold idOf
        go_wp2_with (go_at_call 66; refine (rvalid gW.out).mono ?_; rintro e w' ⟨rfl, rfl⟩)
        go_quiet (fail)
        have gq := Lib.hid (gI.out.2.trans ((below_drewN (Below.refl _ wr) nq).mono gI.out.2.size))
        generalize wr.drewN nq = wq at gq ⊢
        go_wp2
        go_ret3
        exact ⟨⟨some (i, p), gI.out.1, rfl⟩, gq.out⟩
end
end Go.Proofs.Ytepgdeokjgjapaa.QJ
