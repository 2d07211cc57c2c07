/- ImageRoom: the walk. -/
import Derived.Test.YtaohlblhfmlpbaaRepeat
namespace Go.Proofs.Ytaohlblhfmlpbaa
open Go.RowKit
theorem wrap_ok {x : Int} (h0 : -4611686018427387904 ≤ x) (h1 : x ≤ 4611686018427387904) : wrap64 x = x := by unfold wrap64; omega
theorem wrap_nat {n : Nat} (h : n ≤ 100000) : wrap64 (n : Int) = (n : Nat) := wrap_ok (by omega) (by omega)
theorem room_ok {n : Nat} (hn : n ≤ 300) : wrap64 (300 - (n : Int)) = ((300 - n : Nat) : Int) := by
  rw [wrap_ok (by omega) (by omega)]
  omega
theorem add_ok {a b : Nat} (ha : a ≤ 1000) (hb : b ≤ 1000) : wrap64 ((a : Int) + (b : Int)) = ((a + b : Nat) : Int) := by
  rw [wrap_ok (by omega) (by omega)]
  omega
theorem room_math (n x : Nat) (hn : n ≤ 300) : ∃ r r1 q m : Nat, Hid (r = 300 - n) ∧ Hid (r ≤ 300 ∧ n + r = 300 ∧ 300 < n + m ∧ m ≤ 9000) ∧ wrap64 (300 - (n : Int)) = (r : Nat) ∧ wrap64 ((r : Int) + 1) = (r1 : Nat) ∧ Int.tmod (x : Int) 100 = (q : Nat) ∧ (x : Int) % 100 = (q : Nat) ∧ wrap64 (q : Int) = (q : Nat) ∧ wrap64 ((r1 : Int) + (q : Int)) = (m : Nat) := by
  have h1 : x % 100 < 100 := Nat.mod_lt _ (by decide)
  refine ⟨300 - n, 300 - n + 1, x % 100, 300 - n + 1 + x % 100, Lib.hid rfl, Lib.hid ⟨by omega, by omega, by omega, by omega⟩, room_ok hn, add_ok (b := 1) (by omega) (by omega), (Int.ofNat_tmod x 100).symm, (Int.natCast_emod x 100).symm, wrap_nat (by omega), add_ok (by omega) (by omega)⟩
theorem nums_nines (r : Nat) : ((List.replicate r (9 : E)).map fun x => ((x.toNat : Nat) : Int)).map (Value.int .u8) = vs (List.replicate r 9) := by
  unfold vs
  rw [List.map_map]
  rfl
theorem clone_nines {w : World} {G r : Nat} (h : NRow w G r) (hr : r ≤ 300) : Calls Try.prog 32 #[.slice (some ⟨G, 0, none⟩) r r] w fun e w' => ∃ g c, e = .returned (.slice (some ⟨g, 0, none⟩) r c) ∧ Hid (w'.ownsRow w.heap.size 5 1 (.slice (some ⟨g, 0, none⟩) r c) r (vs (List.replicate r 9)) ∧ Below w.heap.size w w') := by
  obtain ⟨C, h1, h2, h3⟩ := h
  refine (Try.bytes_Clone_at ⟨G, 0, none⟩ r r ((List.replicate r (9 : E)).map fun x => ((x.toNat : Nat) : Int)) w (by simp) (by omega) fun i hi => ?_).mono ?_
  · rw [add_plain, Nat.zero_add]
    refine (cell_of_row w G i _ _ (0, 0) h1).trans ((h3 i hi).trans ?_)
    simp [List.getD, hi]
  · rintro e w' ⟨v', rfl, h4, h5, h6⟩
    rw [nums_nines] at h4
    rcases h4.2 with ⟨e, _⟩ | ⟨g, cap, _, rfl, _⟩
    · exact absurd e h5
    · exact ⟨g, cap, rfl, h4, h6⟩
theorem zeroE (w : World) : (zeroValue 5).run Try.prog w = .ok (.int .u8 0) w := Try.zeroValue5 w
theorem setCells_but {F : Nat → Prop} {g : Nat} (hF : F g) : ∀ (ys : List Value) (o : Nat) (a w : World), But F a w → But F a (w.setCells g o ys)
  | [], _, _, _, h => h
  | y :: ys, o, a, _, h => setCells_but hF ys (o + 1) a _ (h.setCell (.inl hF) y)
theorem clear_nines {w : World} {G r : Nat} (h : NRow w G r) : ∃ w2, (∀ ty, (Builtin.clear_ #[23] ty #[.slice (some ⟨G, 0, none⟩) r r]).run Try.prog w = .ok (.tuple #[]) w2) ∧ But (fun b => b = G) w w2 := by
  obtain ⟨C, h1, h2, h3⟩ := h
  rcases Nat.eq_zero_or_pos r with h0 | hz
  · subst h0
    refine ⟨w, fun ty => ?_, But.refl _ w⟩
    simp [Builtin.clear_, run_underlying Try.underlying23]
  · refine ⟨_, fun ty => Lib.run_clear_slice (P := Try.prog) w 23 5 ty (.int .u8 0) Try.underlying23 zeroE rfl rfl G 0 r r hz (fun j hj => by rw [cell_of_row w G _ _ _ (0, 0) h1, h3 _ (by omega)]; simp) (fun j _ => frozen_of_row w G _ _ _ h1), ?_⟩
    exact setCells_but (F := fun b => b = G) rfl _ _ _ _ (But.refl _ w)
set_option maxRecDepth 100000 in
set_option maxHeartbeats 8000000 in
theorem imageRoom_walk (a0 : Option Addr) (len0 cap0 : Nat) (z0 : List Mv) (a1 : Int) (w : World) (w0 : MS w a0 len0 z0) (c0 : len0 ≤ cap0 ∧ cap0 ≤ 9223372036854775807) (w1 : (Lit.int .u16 a1).wf = true) :
    Calls Try.prog 6 #[.slice a0 len0 cap0, .int .u16 a1] w fun e w' => e = .returned (.bool true) ∧ Below w.heap.size w w' := by
  obtain ⟨x, rfl, hx⟩ := u16_nat w1
  have gF := Lib.hid (filled_any a0 len0 cap0 z0 w w0 c0)
  clear w0 c0 w1
  go_enter Try.func6, Try.ntmps6
  go_wp2_with fail
  refine gF.out.mono ?_
  rintro e W ⟨P, A, c, d, l, rfl, g⟩
  have gB := Lib.hid g.out.1
  have gO := Lib.hid g.out.2
  have gbd := Lib.hid g.out.1.bounds
  have gc := Lib.hid (cap_of g.out.2).1
  obtain ⟨n, hn⟩ : ∃ n, n = l.length := ⟨_, rfl⟩
  rw [← hn] at gB gO gbd gc ⊢
  have gn := Lib.hid hn
  clear g gF hn
  obtain ⟨r, r1, q, m, gr, gm, e1, e2, e3, e4, e5, e6⟩ := room_math n x gbd.out.2.1
  have hmk := make_bytes m m (Nat.le_refl _) gm.out.2.2.2
  clear hx
  go_wp2_with fail
  refine (b_room gB.out).mono ?_
  rintro e _ ⟨rfl, rfl⟩
  rw [← gn.out, ← gr.out]
  go_wp2_with fail
  refine (b_size gB.out).mono ?_
  rintro e _ ⟨rfl, rfl⟩
  go_wp2_with fail
  refine (b_room gB.out).mono ?_
  rintro e _ ⟨rfl, rfl⟩
  rw [← gn.out, ← gr.out]
  go_wp2_with fail
  have hbA := lit_b W (.cells (Array.replicate m (.int .u8 0)) 5)
  have gB1 := Lib.hid (gB.out.below hbA)
  have gO1 := Lib.hid (owns_below gO.out hbA)
  refine (b_full gB1.out _ m m (by have := gm.out; have := gn.out; omega)).mono ?_
  rintro e _ ⟨rfl, rfl⟩
  obtain ⟨W1, hW1⟩ : ∃ W1, W1 = W.alloc (.cells (Array.replicate m (.int .u8 0)) 5) := ⟨_, rfl⟩
  rw [← hW1] at gB1 gO1 ⊢
  clear hbA hW1 gB gO hmk
  go_wp2_with fail
  refine (has_any (c := c) gB1.out (sb_of gO1.out)).mono ?_
  rintro e W2 ⟨rfl, hb⟩
  have gB2 := Lib.hid (gB1.out.below hb)
  have gO2 := Lib.hid (owns_below gO1.out hb)
  clear hb gB1 gO1
  go_wp2_with fail
  have hb3 := lit_b W2 (.cells (vs [9]).toArray 5)
  have gS9 := Lib.hid (lit_sb W2 [9] (n := 1) rfl)
  refine (repeat_any r gm.out.1 _ gS9.out).mono ?_
  rintro e W3 ⟨G, rfl, g3⟩
  have gG3 := Lib.hid (show W2.heap.size ≤ G ∧ G < W3.heap.size from ⟨Nat.le_trans hb3.size g3.out.2.1, by obtain ⟨C, h, _⟩ := g3.out.1; exact lt_of_heap h⟩)
  have hb23 := hb3.trans (g3.out.2.2.mono hb3.size)
  have gWs := Lib.hid gB2.out.low.size
  have gAl := Lib.hid (show ∀ b, Blk (.slice A n c) b → b < G from fun b hb => Nat.lt_of_lt_of_le (gB2.out.lt hb) gG3.out.1)
  have gB3 := Lib.hid (gB2.out.more (S' := fun b => Blk (.slice A n c) b ∨ b = G) hb23 (fun b hb => hb.imp id (fun e => by rw [show b = G from e]; exact gG3.out)))
  have gO3 := Lib.hid (owns_below gO2.out hb23)
  have gN3 := Lib.hid g3.out.1
  clear hb3 gS9 g3 hb23 gB2 gO2
  go_wp2_with fail
  refine (clone_nines gN3.out gm.out.1).mono ?_
  rintro e W4 ⟨g, cc, rfl, g4⟩
  have gg4 := Lib.hid (g4.out.1.lt g rfl)
  have gB4 := Lib.hid (gB3.out.more (S' := fun b => (Blk (.slice A n c) b ∨ b = G) ∨ b = g) g4.out.2 (fun b hb => hb.imp id (fun e => by rw [show b = g from e]; exact gg4.out)))
  have gO4 := Lib.hid (owns_below gO3.out g4.out.2)
  have gN4 := Lib.hid (gN3.out.below g4.out.2)
  have gK4 := Lib.hid g4.out.1
  clear g4 gB3 gO3 gN3
  go_wp2_with fail
  refine (b_append gB4.out gN4.out.sb (fun h => nomatch h) (by have := gm.out; have := gn.out; omega)).mono ?_
  rintro e W5 ⟨rfl, g5⟩
  have gB5 := Lib.hid g5.out.1
  have gO5 := Lib.hid (owns_of_block gO4.out fun b hb => g5.out.2 b (.inl (.inl hb)))
  have gN5 := Lib.hid (show NRow W5 G r from by
    obtain ⟨C, h1, h2⟩ := gN4.out
    exact ⟨C, (g5.out.2 G (.inl (.inr rfl))).trans h1, h2⟩)
  have gK5 := Lib.hid (owns_of_block gK4.out fun b hb => by cases hb; exact g5.out.2 g (.inr rfl))
  clear g5 gB4 gO4 gN4 gK4
  obtain ⟨w6, hclear, hbut⟩ := clear_nines gN5.out
  have gW := Lib.hid (show w.heap.size ≤ G from Nat.le_trans gWs.out gG3.out.1)
  have gB6 := Lib.hid (gB5.out.turn (S' := fun b => Blk (.slice A n c) b ∨ b = g) (hbut.mono' fun b hb => by
    rw [show b = G from hb]
    exact ⟨.inl (.inr rfl), gW.out⟩) (fun b hb => hb.elim (fun h => .inl (.inl (.inl h))) (fun h => .inl (.inr h))))
  have gO6 := Lib.hid (owns_of_block gO5.out fun b hb => hbut.block b (gB5.out.lt (.inl (.inl hb))) (fun e => by
    have h1 := gAl.out b hb
    have e' : b = G := e
    omega))
  have gK6 := Lib.hid (owns_of_block gK5.out fun b hb => by
    cases hb
    exact hbut.block g (gB5.out.lt (.inr rfl)) (fun e => by
      have h1 := gg4.out.1
      have h2 := gG3.out.2
      have e' : g = G := e
      omega))
  have gL6 := Lib.hid (gB6.out.low.size)
  have glen := Lib.hid (show (l ++ List.replicate r (9 : E)).length = 300 from by rw [List.length_append, List.length_replicate, ← gn.out]; exact gm.out.2.1)
  clear hbut gB5 gO5 gN5 gK5 gW gAl gG3 gg4
  go_wp2_with fail
  refine (b_room gB6.out).mono ?_
  rintro e _ ⟨rfl, rfl⟩
  rw [glen.out]
  have gN := Lib.hid (show n + r ≤ 300 from by have := gm.out.2.1; omega)
  go_wp2_with (
    (at_builtin; refine app_own _ rfl (.tmp 71) (.tmp 72) rfl w.heap.size (.slice A n c) n l rfl gO6.out ⟨g, 0, none⟩ r cc (List.replicate r 9) rfl (sb_of gK6.out) (by have := gN.out; omega) gL6.out ?_
     intro v2 w7 hr2 hg2 hat2
     have gr2 := Lib.hid hr2
     have gg2 := Lib.hid hg2
     have gat2 := Lib.hid hat2
     clear hr2 hg2 hat2))
  obtain ⟨A2, c2, rfl, _⟩ := ownsRow_shape gr2.out
  have gB7 := Lib.hid (gB6.out.turn (S' := fun _ => False) (w' := w7) ((But.refl (fun b => Blk (.slice A n c) b ∧ w.heap.size ≤ b) w6).grown gg2.out (fun b hb => .inl ⟨hb, (gO6.out.lt b hb).1⟩) |>.mono' fun b hb => ⟨.inl hb.1, hb.2⟩) (fun b hb => hb.elim))
  clear gg2 gat2 gB6 gO6 gK6
  refine (has_any (c := c2) gB7.out (by have := sb_of gr2.out; exact this)).mono ?_
  rintro e W8 ⟨rfl, hb⟩
  have gB8 := Lib.hid (gB7.out.below hb)
  clear hb gB7 gr2
  go_wp2_with fail
  refine (b_append gB8.out (SB.nil _ none) (fun _ => rfl) (by rw [glen.out]; decide)).mono ?_
  rintro e W9 ⟨rfl, g9⟩
  have gB9 : Hid (Beside w P 300 d (l ++ List.replicate r 9) (fun _ => False) W9) := Lib.hid (by have := g9.out.1; rwa [List.append_nil] at this)
  clear g9 gB8
  go_wp2_with fail
  have hb10 := lit_b W9 (.cells (vs [1]).toArray 5)
  have gB10 := Lib.hid (gB9.out.below hb10)
  refine (b_full gB10.out _ 1 1 (by rw [glen.out]; decide)).mono ?_
  rintro e _ ⟨rfl, rfl⟩
  have gL10 := Lib.hid gB10.out.low
  clear hb10 gB9 gB10
  go_wp2_with fail
  refine (works_any _).mono ?_
  rintro e W11 ⟨rfl, hb⟩
  have gE := Lib.hid (gL10.out.trans (hb.mono gL10.out.size))
  clear hb
  go_wp2_with fail
  go_ret
  exact ⟨rfl, gE.out⟩
end Go.Proofs.Ytaohlblhfmlpbaa
