/- Both queues: Copy, New, and what alike compares. -/
import Derived.Test.YtepgdeokjgjapaaQJRAll
namespace Go.Proofs.Ytepgdeokjgjapaa.QJ
open Go.RowKit
section
variable {w0 w w' : World} {P R n : Nat} {S : List It} {L : List Mk} {q r : Value}
theorem pl_copy (h : Pl w0 w q r) : ∃ (q' : Value) (M : World → Prop), (Calls Try.prog 22 #[q] w fun e w1 => e = .returned q' ∧ M w1 ∧ K32 w w1) ∧
    ∀ w1, M w1 → Calls Try.prog 23 #[r] w1 fun e w2 => ∃ r', e = .returned r' ∧ Pl w0 w2 q' r' ∧ K32 w1 w2 := by
  have hlow := h.low
  rcases h with ⟨rfl, rfl, hB⟩ | ⟨P, R, n, L, rfl, rfl, hT⟩
  · refine ⟨.pointer none, fun w1 => w = w1, (QL.copy_bad none w (.inl rfl)).mono fun e w' h => ⟨h.1, h.2, .same h.2⟩, ?_⟩
    rintro w1 rfl
    refine (rcopy_nil w).mono ?_
    rintro e w2 ⟨rfl, rfl⟩
    exact ⟨_, rfl, .inl ⟨rfl, rfl, hB⟩, .refl _⟩
  · obtain ⟨hq, bI, cI, bP, cP, hr⟩ := hT
    refine ⟨.pointer (some ⟨w.heap.size, 0, none⟩), fun w1 => QHas w w1 w.heap.size n (marked 0 L), (has_copy hq).mono fun e w' h => ⟨h.1, h.2.out, .below (by obtain ⟨_, _, _, _, _, k⟩ := h.2.out; exact k)⟩, ?_⟩
    intro w1 h1
    have hb1 : Below w.heap.size w w1 := by
      obtain ⟨_, _, _, _, _, h⟩ := h1
      exact h
    refine (rcopy (hr.below hb1)).mono ?_
    rintro e w2 ⟨R', bI', cI', bP', cP', rfl, r2, b2⟩
    refine ⟨_, rfl, .inr ⟨w.heap.size, R', n, L, rfl, rfl, (h1.below b2).rebase hlow, bI', cI', bP', cP', r2.rebase (by have := hlow.size; have := hb1.size; omega)⟩, .below b2⟩
theorem pl_new (w : World) (s : Int) : ∃ (q : Value) (v : Int) (M : World → Prop), ((q = .pointer none ∧ v = 2) ∨ (∃ a, q = .pointer (some a)) ∧ v = 0) ∧ (Calls Try.prog 12 #[.int .i64 s] w fun e w1 => e = .returned (.tuple #[q, .int .i64 v]) ∧ M w1) ∧
    ∀ w1, M w1 → Calls Try.prog 13 #[.int .i64 s] w1 fun e w2 => ∃ r, e = .returned (.tuple #[r, .int .i64 v]) ∧ ((q = .pointer none ∧ r = .pointer none) ∨ (∃ a, q = .pointer (some a)) ∧ ∃ b, r = .pointer (some b)) ∧ Pl w w2 q r := by
  by_cases hs : s < 1 ∨ 1024 < s
  · refine ⟨.pointer none, 2, fun w1 => w = w1, .inl ⟨rfl, rfl⟩, new_bad s w hs, ?_⟩
    rintro w1 rfl
    refine (rnew_bad s hs w).mono ?_
    rintro e w2 ⟨rfl, rfl⟩
    exact ⟨_, rfl, .inl ⟨rfl, rfl⟩, .inl ⟨rfl, rfl, Below.refl _ _⟩⟩
  · obtain ⟨n, rfl⟩ := Int.eq_ofNat_of_zero_le (show 0 ≤ s by omega)
    refine ⟨.pointer (some ⟨w.heap.size, 0, none⟩), 0, fun w1 => QHas w w1 w.heap.size n [], .inr ⟨⟨_, rfl⟩, rfl⟩, (has_new n w (by omega) (by omega)).mono fun e w' h => ⟨h.1, h.2.out⟩, ?_⟩
    intro w1 h1
    have hb1 : Below w.heap.size w w1 := by
      obtain ⟨_, _, _, _, _, h⟩ := h1
      exact h
    refine (rnew n (by omega) w1).mono ?_
    rintro e w2 ⟨R, bI, bP, rfl, r2, b2⟩
    have em : marked 0 (List.replicate n ((false, 0) : Mk)) = [] := by
      rw [List.eq_nil_iff_forall_not_mem]
      intro y hy
      rw [mem_marked0, List.getElem?_replicate] at hy
      split at hy <;> cases hy
    exact ⟨_, rfl, .inr ⟨⟨_, rfl⟩, _, rfl⟩, .inr ⟨w.heap.size, R, n, _, rfl, rfl, by rw [em]; exact h1.below b2, bI, n, bP, n, r2.rebase hb1.size⟩⟩
set_option maxHeartbeats 2000000 in
theorem alike_any (h : Pl w0 w q r) (id : Int) : Calls Try.prog 24 #[q, r, .int .i64 id] w fun e w' => e = .returned (.bool true) ∧ Below w.heap.size w w' := by
  have gh := Lib.hid h
  clear h
  obtain ⟨i, v, b, k1, k2⟩ := pl_peek gh.out
  have g1 := Lib.hid k1
  have g2 := Lib.hid k2
  clear k1 k2
  go_enter Try.func24, Try.ntmps24
  go_wp2_with fail
  refine g1.out.mono ?_
  rintro e w1 ⟨rfl, hb⟩
  have b1 := Lib.hid hb
  clear hb
  go_wp2_with fail
  refine (g2.out w1 b1.out).mono ?_
  rintro e w2 ⟨rfl, hb⟩
  have b2 := Lib.hid (b1.out.trans (hb.mono b1.out.size))
  clear hb
  obtain ⟨v2, c2, k1, k2⟩ := pl_priority (gh.out.below b2.out) id
  have g3 := Lib.hid k1
  have g4 := Lib.hid k2
  obtain ⟨l, k1, k2⟩ := pl_len (gh.out.below b2.out)
  have g5 := Lib.hid k1
  have g6 := Lib.hid k2
  clear k1 k2
  go_wp2_with fail
  refine g3.out.mono ?_
  rintro e _ ⟨rfl, rfl⟩
  go_wp2_with fail
  refine g4.out.mono ?_
  rintro e _ ⟨rfl, rfl⟩
  go_wp2_with (first
    | (go_at_call 30; refine g5.out.mono ?_; rintro e _ ⟨rfl, rfl⟩)
    | (go_at_call 67; refine g6.out.mono ?_; rintro e _ ⟨rfl, rfl⟩))
  go_ret
  exact ⟨rfl, b2.out⟩
end
end Go.Proofs.Ytepgdeokjgjapaa.QJ
