/- shows: an image beside the reference's. -/
import Derived.Test.YtaohlblhfmlpbaaRefCrash
namespace Go.Proofs.Ytaohlblhfmlpbaa
open Go.RowKit
section
variable {w : World} {B B' P Q sz d : Nat} {v u : Value} {l : List E}
theorem reads_both (h : IOwn w B P sz d v l) (k : ROwn w B' Q sz d u l) (i j : Int) (hi : i < 9223372036854775808) (hj : j < 9223372036854775808) : ∃ (x : List E) (c : Int),
    (∀ W, Below w.heap.size w W → Calls Try.prog 27 #[.pointer (some ⟨P, 0, none⟩), .int .i64 i, .int .i64 j] W fun e w' => ∃ A1 n1 c1, e = .returned (.tuple #[.slice A1 n1 c1, .int .i64 c]) ∧ Hid (SB w' A1 n1 x ∧ Below W.heap.size W w')) ∧
    (∀ W, Below w.heap.size w W → Calls Try.prog 38 #[.pointer (some ⟨Q, 0, none⟩), .int .i64 i, .int .i64 j] W fun e w' => ∃ A1 n1 c1, e = .returned (.tuple #[.slice A1 n1 c1, .int .i64 c]) ∧ Hid (SB w' A1 n1 x ∧ Below W.heap.size W w')) := by
  by_cases hin : 0 ≤ i ∧ 0 ≤ j ∧ i + j ≤ (l.length : Int)
  · obtain ⟨a, rfl⟩ : ∃ a : Nat, i = a := ⟨i.toNat, by omega⟩
    obtain ⟨b, rfl⟩ : ∃ b : Nat, j = b := ⟨j.toNat, by omega⟩
    refine ⟨(l.drop a).take b, 0, fun W hb => (read_any (h.below hb) a b (by omega)).mono ?_, fun W hb => (rread_any (k.below hb) a b (by omega)).mono ?_⟩
    · rintro e w' ⟨rfl, h1⟩
      exact ⟨_, _, _, rfl, row_sb h1.out.1, h1.out.2⟩
    · rintro e w' ⟨A2, c2, rfl, h1⟩
      exact ⟨_, _, _, rfl, h1⟩
  · have hout : i < 0 ∨ j < 0 ∨ (l.length : Int) < i + j := by omega
    refine ⟨[], 3, fun W hb => (read_out (h.below hb) i j hi hout).mono ?_, fun W hb => (rread_out (k.below hb) i j hj hout).mono ?_⟩
    · rintro e w' ⟨rfl, rfl⟩
      exact ⟨_, _, _, rfl, SB.nil _ _, Below.refl _ _⟩
    · rintro e w' ⟨rfl, rfl⟩
      exact ⟨_, _, _, rfl, SB.nil _ _, Below.refl _ _⟩
set_option maxRecDepth 100000 in
set_option maxHeartbeats 4000000 in
theorem shows_any (h : IOwn w B P sz d v l) (k : ROwn w B' Q sz d u l) (i j : Int) (hi : i < 9223372036854775808) (hj : j < 9223372036854775808) :
    Calls Try.prog 23 #[.pointer (some ⟨P, 0, none⟩), .pointer (some ⟨Q, 0, none⟩), .int .i64 i, .int .i64 j] w fun e w' => e = .returned (.bool true) ∧ Below w.heap.size w w' := by
  obtain ⟨x, c, r1, r2⟩ := reads_both h k i j hi hj
  have g1 := Lib.hid r1
  have g2 := Lib.hid r2
  have gh := Lib.hid h
  have gk := Lib.hid k
  obtain ⟨n, hn⟩ : ∃ n, n = l.length := ⟨_, rfl⟩
  have gn := Lib.hid hn
  clear r1 r2 h k hi hj hn
  go_enter Try.func23, Try.ntmps23
  go_wp2_with fail
  refine (g1.out _ (Below.refl _ _)).mono ?_
  rintro e w1 ⟨A1, n1, c1, rfl, q1⟩
  have gb1 := Lib.hid q1.out.2
  have gs1 := Lib.hid q1.out.1
  clear q1 g1
  go_wp2_with fail
  refine (g2.out _ gb1.out).mono ?_
  rintro e w2 ⟨A2, n2, c2, rfl, q2⟩
  have gb2 := Lib.hid (gb1.out.trans (q2.out.2.mono gb1.out.size))
  have gs2 := Lib.hid q2.out.1
  have gs1' := Lib.hid (gs1.out.below q2.out.2)
  clear q2 g2 gs1 gb1
  go_wp2_with fail
  refine (len_any (gh.out.below gb2.out)).mono ?_
  rintro e _ ⟨rfl, rfl⟩
  rw [← gn.out]
  go_wp2_with fail
  refine (read_any (gh.out.below gb2.out) 0 n (by have := gn.out; omega)).mono ?_
  rintro e w3 ⟨rfl, q3⟩
  have gb3 := Lib.hid (gb2.out.trans (q3.out.2.mono gb2.out.size))
  have gs3 := Lib.hid (show SB w3 (some ⟨w2.heap.size, 0, none⟩) n l from by
    have := row_sb q3.out.1
    rwa [List.drop_zero, List.take_of_length_le (by rw [gn.out]; exact Nat.le_refl _)] at this)
  have gt1 := Lib.hid (gs1'.out.below q3.out.2)
  have gt2 := Lib.hid (gs2.out.below q3.out.2)
  clear q3 gs1' gs2 gb2
  go_wp2_with fail
  refine (equal_any (c := c1) (c' := c2) gt1.out gt2.out).mono ?_
  rintro e _ ⟨rfl, rfl⟩
  rw [beq_self_eq_true]
  clear gt1 gt2
  go_wp2_with fail
  refine (len_any (gh.out.below gb3.out)).mono ?_
  rintro e _ ⟨rfl, rfl⟩
  rw [← gn.out]
  go_wp2_with fail
  refine (rlen_any (gk.out.below gb3.out)).mono ?_
  rintro e _ ⟨rfl, rfl⟩
  rw [← gn.out]
  go_wp2_with fail
  refine (durable_any (gh.out.below gb3.out)).mono ?_
  rintro e _ ⟨rfl, rfl⟩
  go_wp2_with fail
  refine (rdurable_any (gk.out.below gb3.out)).mono ?_
  rintro e _ ⟨rfl, rfl⟩
  go_wp2_with fail
  refine (room_any (gh.out.below gb3.out)).mono ?_
  rintro e _ ⟨rfl, rfl⟩
  rw [← gn.out]
  obtain ⟨r, hr⟩ : ∃ r, r = sz - n := ⟨_, rfl⟩
  have gr := Lib.hid hr
  rw [← hr]
  clear hr
  go_wp2_with fail
  refine (rroom_any (gk.out.below gb3.out)).mono ?_
  rintro e w4 ⟨rfl, hb4⟩
  rw [← gn.out, ← gr.out]
  have gb4 := Lib.hid (gb3.out.trans (hb4.mono gb3.out.size))
  have gs4 := Lib.hid (gs3.out.below hb4)
  clear hb4 gs3 gb3
  go_wp2_with fail
  refine (size_any (gh.out.below gb4.out)).mono ?_
  rintro e _ ⟨rfl, rfl⟩
  go_wp2_with fail
  refine (rsize_any (gk.out.below gb4.out)).mono ?_
  rintro e _ ⟨rfl, rfl⟩
  obtain ⟨A5, c5, rfl, _, _, _, hs5, _⟩ := owns_sl (gk.out.below gb4.out).row
  have c0 := (gk.out.below gb4.out).c0
  rw [← gn.out] at c0 hs5
  have gs5 := Lib.hid hs5
  clear hs5
  go_wp2_with fail
  refine (equal_any (c := n) (c' := c5) gs4.out gs5.out).mono ?_
  rintro e _ ⟨rfl, rfl⟩
  rw [beq_self_eq_true]
  clear c0
  go_wp2_with fail
  go_ret
  exact ⟨rfl, gb4.out⟩
end
end Go.Proofs.Ytaohlblhfmlpbaa
