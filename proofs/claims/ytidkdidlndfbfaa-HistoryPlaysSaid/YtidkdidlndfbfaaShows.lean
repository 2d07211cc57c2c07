/- shows: a list beside the reference, call by call. -/
import Derived.Test.YtidkdidlndfbfaaWorks
namespace Go.Proofs.Ytidkdidlndfbfaa.HS
open Go.RowKit
/-- A list and the reference answer alike. -/
structure Both (w : World) (p q : Option Addr) (mk : Nat) (l : List E) : Prop where
  rd : Reads w p mk l
  ats : ∀ i : Int, ∃ (s : ByteArray) (c : Int), (∀ W, Below w.heap.size w W → Calls Try.prog 44 #[.pointer p, .int .i64 i] W fun e w' => e = .returned (.tuple #[.string s, .int .i64 c]) ∧ Below W.heap.size W w') ∧
    (∀ W, Below w.heap.size w W → Calls Try.prog 48 #[.pointer q, .int .i64 i] W fun e w' => e = .returned (.tuple #[.string s, .int .i64 c]) ∧ W = w')
  len : ∀ W, Below w.heap.size w W → Calls Try.prog 41 #[.pointer p] W fun e w' => e = .returned (.int .i64 (l.length : Nat)) ∧ W = w'
  rlen : ∀ W, Below w.heap.size w W → Calls Try.prog 52 #[.pointer q] W fun e w' => e = .returned (.int .i64 (l.length : Nat)) ∧ W = w'
  rmark : ∀ W, Below w.heap.size w W → Calls Try.prog 53 #[.pointer q] W fun e w' => e = .returned (.int .i64 (mk : Nat)) ∧ W = w'
  rall : ∀ W, Below w.heap.size w W → Calls Try.prog 50 #[.pointer q] W fun e w' => ∃ v', e = .returned v' ∧ Hid (w'.ownsRow W.heap.size 9 1 v' l.length (vs l) ∧ Below W.heap.size W w')
  rsince : ∀ W, Below w.heap.size w W → Calls Try.prog 51 #[.pointer q] W fun e w' => ∃ v', e = .returned v' ∧ Hid (w'.ownsRow W.heap.size 9 1 v' (l.drop mk).length (vs (l.drop mk)) ∧ Below W.heap.size W w')
theorem equal_true {w : World} {A C : Option Addr} {n m c d : Nat} {xs : List E} (hx : SL w A n xs) (hy : SL w C m xs) (hn : n ≤ 9223372036854775807) (hm : m ≤ 9223372036854775807) : Calls Try.prog 42 #[.slice A n c, .slice C m d] w fun e w' => e = .returned (.bool true) ∧ Below w.heap.size w w' :=
  (lists_equal hx hy hn hm).mono fun e w' h => by
    obtain ⟨rfl, h2⟩ := h
    exact ⟨by simp, h2⟩
theorem Reads.below {w w' : World} {p : Option Addr} {mk : Nat} {l : List E} (h : Reads w p mk l) (hb : Below w.heap.size w w') : Reads w' p mk l := by
  obtain ⟨A, c, h1, h2, h3, h4⟩ := h
  exact ⟨A, c, h1.below hb, h2.below hb, h3.below hb, fun b e => Nat.lt_of_lt_of_le (h4 b e) hb.size⟩
theorem Both.below {w w' : World} {p q : Option Addr} {mk : Nat} {l : List E} (h : Both w p q mk l) (hb : Below w.heap.size w w') : Both w' p q mk l := by
  have k : ∀ {W}, Below w'.heap.size w' W → Below w.heap.size w W := fun hW => hb.trans (hW.mono hb.size)
  refine ⟨h.rd.below hb, fun i => ?_, fun W hW => h.len W (k hW), fun W hW => h.rlen W (k hW), fun W hW => h.rmark W (k hW), fun W hW => h.rall W (k hW), fun W hW => h.rsince W (k hW)⟩
  obtain ⟨s, c, h1, h2⟩ := h.ats i
  exact ⟨s, c, fun W hW => h1 W (k hW), fun W hW => h2 W (k hW)⟩
theorem Both.mark {w : World} {p q : Option Addr} {mk : Nat} {l : List E} (h : Both w p q mk l) : Marks w p mk := by
  obtain ⟨_, _, _, h2, _⟩ := h.rd
  exact h2
set_option maxRecDepth 100000 in
set_option maxHeartbeats 4000000 in
theorem shows_ok {w : World} {p q : Option Addr} {mk : Nat} {l : List E} (h : Both w p q mk l) (hlen : l.length ≤ 1000) (i : Int) :
    Calls Try.prog 23 #[.pointer p, .pointer q, .int .i64 i] w fun e w' => e = .returned (.bool true) ∧ Below w.heap.size w w' := by
  obtain ⟨s, c, h1, h2⟩ := h.ats i
  have g1 := Lib.hid h1
  have g2 := Lib.hid h2
  have g := Lib.hid h
  have glen := Lib.hid hlen
  obtain ⟨d, hd⟩ : ∃ d, d = l.drop mk := ⟨_, rfl⟩
  have gd := Lib.hid hd
  clear h h1 h2 hlen hd
  go_enter Try.func23, Try.ntmps23
  go_wp2_with fail
  refine (g1.out _ (Below.refl _ _)).mono ?_
  rintro e w0 ⟨rfl, hb⟩
  have gB0 := Lib.hid hb
  clear hb
  go_wp2_with fail
  refine (g2.out _ gB0.out).mono ?_
  rintro e _ ⟨rfl, rfl⟩
  clear g1 g2
  go_wp2_with fail
  refine (all_is (g.out.rd.below gB0.out) glen.out).mono ?_
  rintro e w1 ⟨v1, rfl, gs⟩
  obtain ⟨A1, c1, rfl, -, -, -, hS1, -⟩ := owns_sl gs.out.1
  have gB1 := Lib.hid (gB0.out.trans (gs.out.2.mono gB0.out.size))
  have gS1 := Lib.hid hS1
  clear gs hS1
  go_wp2_with fail
  refine (g.out.rall _ gB1.out).mono ?_
  rintro e w2 ⟨v2, rfl, gs⟩
  obtain ⟨A2, c2, rfl, -, -, -, hS2, -⟩ := owns_sl gs.out.1
  have gB2 := Lib.hid (gB1.out.trans (gs.out.2.mono gB1.out.size))
  have gS1' := Lib.hid (gS1.out.below gs.out.2)
  have gS2 := Lib.hid hS2
  clear gs hS2 gS1 gB1
  go_wp2_with fail
  refine (equal_true gS1'.out gS2.out (by have := glen.out; omega) (by have := glen.out; omega)).mono ?_
  rintro e w3 ⟨rfl, hb⟩
  have gB3 := Lib.hid (gB2.out.trans (hb.mono gB2.out.size))
  clear hb gB2 gS1' gS2
  go_wp2_with fail
  refine (since_is (g.out.rd.below gB3.out) glen.out).mono ?_
  rintro e w4 ⟨v4, rfl, gs⟩
  rw [← gd.out] at gs
  obtain ⟨A4, c4, rfl, -, -, -, hS4, -⟩ := owns_sl gs.out.1
  have gB4 := Lib.hid (gB3.out.trans (gs.out.2.mono gB3.out.size))
  have gS4 := Lib.hid hS4
  clear gs hS4 gB3
  go_wp2_with fail
  refine (g.out.rsince _ gB4.out).mono ?_
  rintro e w5 ⟨v5, rfl, gs⟩
  rw [← gd.out] at gs
  obtain ⟨A5, c5, rfl, -, -, -, hS5, -⟩ := owns_sl gs.out.1
  have gB5 := Lib.hid (gB4.out.trans (gs.out.2.mono gB4.out.size))
  have gS4' := Lib.hid (gS4.out.below gs.out.2)
  have gS5 := Lib.hid hS5
  clear gs hS5 gS4 gB4
  have gdl := Lib.hid (show d.length ≤ 9223372036854775807 by rw [gd.out]; have := glen.out; simp; omega)
  go_wp2_with fail
  refine (equal_true gS4'.out gS5.out gdl.out gdl.out).mono ?_
  rintro e w6 ⟨rfl, hb⟩
  have gB6 := Lib.hid (gB5.out.trans (hb.mono gB5.out.size))
  clear hb gB5 gS4' gS5
  go_wp2_with fail
  refine (g.out.len _ gB6.out).mono ?_
  rintro e _ ⟨rfl, rfl⟩
  go_wp2_with fail
  refine (g.out.rlen _ gB6.out).mono ?_
  rintro e _ ⟨rfl, rfl⟩
  go_wp2_with fail
  refine (g.out.mark _ gB6.out).mono ?_
  rintro e _ ⟨rfl, rfl⟩
  go_wp2_with fail
  refine (g.out.rmark _ gB6.out).mono ?_
  rintro e _ ⟨rfl, rfl⟩
  go_wp2_with fail
  go_ret
  exact ⟨rfl, gB6.out⟩
end Go.Proofs.Ytidkdidlndfbfaa.HS
