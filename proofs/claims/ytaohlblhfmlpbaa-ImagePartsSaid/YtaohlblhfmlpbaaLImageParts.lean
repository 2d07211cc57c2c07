/- ImageParts: the walk. -/
import Derived.Test.YtaohlblhfmlpbaaUse
namespace Go.Proofs.Ytaohlblhfmlpbaa
open Go.RowKit
theorem zeroE (w : World) : (zeroValue 5).run Try.prog w = .ok (.int .u8 0) w := Try.zeroValue5 w
theorem setCells_but {F : Nat → Prop} {g : Nat} (hF : F g) : ∀ (ys : List Value) (o : Nat) (a w : World), But F a w → But F a (w.setCells g o ys)
  | [], _, _, _, h => h
  | y :: ys, o, a, _, h => setCells_but hF ys (o + 1) a _ (h.setCell (.inl hF) y)
/-- 'clear(s)' of a row that a read gave. -/
theorem clear_row {w : World} {B R n : Nat} {l : List E} (h : w.ownsRow B 5 1 (.slice (some ⟨R, 0, none⟩) n n) n (vs l)) : ∃ w2, (∀ ty, (Builtin.clear_ #[23] ty #[.slice (some ⟨R, 0, none⟩) n n]).run Try.prog w = .ok (.tuple #[]) w2) ∧ But (fun b => b = R) w w2 := by
  have hl : l.length = n := by have := h.1; rw [length_vs] at this; omega
  rcases h.2 with ⟨hv, h0⟩ | ⟨g, cap, cur, hv, hg, hh, hc, hm, hs, ht⟩
  · cases hv
  · injection hv with e1 _ e3
    cases e1
    subst e3
    rcases Nat.eq_zero_or_pos n with h0 | hz
    · subst h0
      refine ⟨w, fun ty => ?_, But.refl _ w⟩
      simp [Builtin.clear_, run_underlying Try.underlying23]
    refine ⟨_, fun ty => Lib.run_clear_slice (P := Try.prog) w 23 5 ty (.int .u8 0) Try.underlying23 zeroE rfl rfl R 0 n n hz (fun j hj => by rw [cell_of_row w R _ _ _ (0, 0) hh]; simp; omega) (fun j _ => frozen_of_row w R _ _ _ hh), ?_⟩
    exact setCells_but (F := fun b => b = R) rfl _ _ _ _ (But.refl _ w)
theorem wrap_ok {x : Int} (h0 : -4611686018427387904 ≤ x) (h1 : x ≤ 4611686018427387904) : wrap64 x = x := by unfold wrap64; omega
theorem wrap_sub {n p : Nat} (h : p ≤ n) (hn : n ≤ 300) : wrap64 ((n : Int) - (p : Int)) = ((n - p : Nat) : Int) := by
  rw [wrap_ok (by omega) (by omega)]
  omega
theorem parts_math (n x y : Nat) (hn : n ≤ 300) (hx : x < 65536) (hy : y < 65536) : ∃ n1 p np n2 q j : Nat, Hid (p ≤ n ∧ p + q ≤ n ∧ j ≤ n) ∧ Hid (j = p + q) ∧ wrap64 (x : Int) = (x : Nat) ∧ wrap64 (y : Int) = (y : Nat) ∧ wrap64 ((n : Int) + 1) = (n1 : Nat) ∧ Int.tmod (x : Int) (n1 : Int) = (p : Nat) ∧ ¬ (n1 : Int) = 0 ∧
    wrap64 ((n : Int) - (p : Int)) = (np : Nat) ∧ wrap64 ((np : Int) + 1) = (n2 : Nat) ∧ Int.tmod (y : Int) (n2 : Int) = (q : Nat) ∧ ¬ (n2 : Int) = 0 ∧ wrap64 ((p : Int) + (q : Int)) = (j : Nat) := by
  have h1 : x % (n + 1) < n + 1 := Nat.mod_lt _ (by omega)
  have h2 : y % (n - x % (n + 1) + 1) < n - x % (n + 1) + 1 := Nat.mod_lt _ (by omega)
  refine ⟨n + 1, x % (n + 1), n - x % (n + 1), n - x % (n + 1) + 1, y % (n - x % (n + 1) + 1), x % (n + 1) + y % (n - x % (n + 1) + 1), Lib.hid ?_, Lib.hid rfl, wrap_u16 hx, wrap_u16 hy, wrap_ok ?_ ?_, (Int.ofNat_tmod x (n + 1)).symm, ?_, wrap_sub ?_ hn, wrap_ok ?_ ?_, (Int.ofNat_tmod y (n - x % (n + 1) + 1)).symm, ?_, ?_⟩
  · generalize x % (n + 1) = p at *
    generalize y % (n - p + 1) = q at *
    omega
  · omega
  · omega
  · omega
  · omega
  · omega
  · omega
  · omega
  · generalize x % (n + 1) = p at *
    generalize y % (n - p + 1) = q at *
    rw [wrap_ok (by omega) (by omega)]
    omega
theorem length_take_drop {l : List E} {n p q : Nat} (hn : n = l.length) (h : p + q ≤ n) : ((l.drop p).take q).length = q := by
  rw [List.length_take, List.length_drop]
  omega
set_option maxRecDepth 100000 in
set_option maxHeartbeats 8000000 in
theorem imageParts_walk (a0 : Option Addr) (len0 cap0 : Nat) (z0 : List Mv) (a1 a2 : Int) (w : World) (w0 : MS w a0 len0 z0) (c0 : len0 ≤ cap0 ∧ cap0 ≤ 9223372036854775807) (w1 : (Lit.int .u16 a1).wf = true) (w2 : (Lit.int .u16 a2).wf = true) :
    Calls Try.prog 5 #[.slice a0 len0 cap0, .int .u16 a1, .int .u16 a2] w fun e w' => e = .returned (.bool true) ∧ Below w.heap.size w w' := by
  obtain ⟨x, rfl, hx⟩ := u16_nat w1
  obtain ⟨y, rfl, hy⟩ := u16_nat w2
  have gF := Lib.hid (filled_any a0 len0 cap0 z0 w w0 c0)
  clear w0 c0 w1 w2
  go_enter Try.func5, Try.ntmps5
  go_wp2_with fail
  refine gF.out.mono ?_
  rintro e W ⟨P, A, c, d, l, rfl, g⟩
  have gB := Lib.hid g.out.1
  have gO := Lib.hid g.out.2
  have gbd := Lib.hid g.out.1.bounds
  have gBl := Lib.hid (show (∀ b, Blk (.slice A l.length c) b → b < W.heap.size) ∧ w.heap.size ≤ W.heap.size from ⟨fun b hb => g.out.1.lt hb, g.out.1.low.size⟩)
  have gc := Lib.hid (cap_of g.out.2).1
  obtain ⟨n, hn⟩ : ∃ n, n = l.length := ⟨_, rfl⟩
  rw [← hn] at gB gO gbd gc gBl ⊢
  have gn := Lib.hid hn
  clear g gF hn
  obtain ⟨n1, p, np, n2, q, j, gjn, gj, e1, e2, e3, e4, e5, e6, e7, e8, e9, e10⟩ := parts_math n x y gbd.out.2.1 hx hy
  clear hx hy
  go_wp2_with fail
  refine (b_read gB.out 0 p (by have := gjn.out; have := gn.out; omega)).mono ?_
  rintro e W1 ⟨R1, rfl, g1⟩
  have gB1 := Lib.hid (gB.out.more (S' := fun b => Blk (.slice A n c) b ∨ b = R1) g1.out.2.1 (fun b hb => hb.imp id (fun e => by rw [show b = R1 from e]; exact g1.out.2.2)))
  have gO1 := Lib.hid (owns_below gO.out g1.out.2.1)
  have gx1 := Lib.hid (show W1.ownsRow W.heap.size 5 1 (.slice (some ⟨R1, 0, none⟩) p p) p (vs (l.take p)) from by have := g1.out.1; rwa [List.drop_zero] at this)
  have gR1 := Lib.hid g1.out.2.2
  clear g1 gB gO
  go_wp2_with fail
  refine (b_read gB1.out p q (by have := gjn.out; have := gn.out; omega)).mono ?_
  rintro e W2 ⟨R2, rfl, g2⟩
  have gB2 := Lib.hid (gB1.out.below g2.out.2.1)
  have gO2 := Lib.hid (owns_below gO1.out g2.out.2.1)
  have gx2 := Lib.hid (owns_below gx1.out g2.out.2.1)
  have gy2 := Lib.hid (sb_of g2.out.1)
  have gR2 := Lib.hid (show R1 < W2.heap.size from Nat.lt_of_lt_of_le gR1.out.2 g2.out.2.1.size)
  clear g2 gB1 gO1 gx1
  go_wp2_with fail
  refine (b_read gB2.out 0 j (by have := gjn.out; have := gn.out; omega)).mono ?_
  rintro e W3 ⟨R3, rfl, g3⟩
  have gB3 := Lib.hid (gB2.out.more (S' := fun b => (Blk (.slice A n c) b ∨ b = R1) ∨ b = R3) g3.out.2.1 (fun b hb => hb.imp id (fun e => by rw [show b = R3 from e]; exact g3.out.2.2)))
  have gO3 := Lib.hid (owns_below gO2.out g3.out.2.1)
  have gx3 := Lib.hid (owns_below gx2.out g3.out.2.1)
  have gy3 := Lib.hid (gy2.out.below g3.out.2.1)
  have gz3 := Lib.hid (show W3.ownsRow W2.heap.size 5 1 (.slice (some ⟨R3, 0, none⟩) j j) j (vs (l.take j)) from by have := g3.out.1; rwa [List.drop_zero] at this)
  have gR3 := Lib.hid g3.out.2.2
  clear g3 gB2 gO2 gx2 gy2
  have gBs := Lib.hid (Nat.le_trans gR1.out.1 (Nat.le_trans (Nat.le_of_lt gR2.out) (Nat.le_trans gR3.out.1 (Nat.le_of_lt gR3.out.2))))
  have gN := Lib.hid (show p + q ≤ 300 from Nat.le_trans gjn.out.2.1 gbd.out.2.1)
  go_wp2_with (
    (at_builtin; refine app_own _ rfl (.tmp 74) (.tmp 75) rfl W.heap.size (.slice (some ⟨R1, 0, none⟩) p p) p (l.take p) rfl gx3.out ⟨R2, 0, none⟩ q q ((l.drop p).take q) rfl gy3.out (by have := gN.out; omega) gBs.out ?_
     intro v2 w2 hr2 hg2 hat2
     have gr2 := Lib.hid hr2
     have gg2 := Lib.hid hg2
     have gat2 := Lib.hid hat2
     clear hr2 hg2 hat2))
  have hbut := (But.refl (fun b => b = R1) W3).grown gg2.out (fun g hg => .inl (by cases hg; rfl))
  have gB4 := Lib.hid (gB3.out.turn (S' := fun b => Blk (.slice A n c) b ∨ b = R3) (hbut.mono' fun b hb => by
    rw [show b = R1 from hb]
    exact ⟨.inl (.inr rfl), Nat.le_trans gBl.out.2 gR1.out.1⟩) (fun b hb => hb.elim (fun h => .inl (.inl (.inl h))) (fun h => .inl (.inr h))))
  have gO4 := Lib.hid (owns_of_block gO3.out fun g hg => hbut.block g (gB3.out.lt (.inl (.inl hg))) (fun e => by
    have h1 := gBl.out.1 g hg
    have h2 := gR1.out.1
    have e' : g = R1 := e
    omega))
  have gz4 := Lib.hid (owns_of_block gz3.out fun g hg => by
    cases hg
    exact hbut.block R3 gR3.out.2 (fun e => by
      have h1 := gR2.out
      have h2 := gR3.out.1
      have e' : R3 = R1 := e
      omega))
  have hcat : l.take p ++ (l.drop p).take q = l.take j := by rw [gj.out, List.take_add]
  rw [hcat] at gr2
  obtain ⟨A2, c2, rfl, _⟩ := ownsRow_shape gr2.out
  have gv2 := Lib.hid (sb_of gr2.out)
  have gz3b := Lib.hid (show W.heap.size ≤ R3 from Nat.le_trans gR1.out.1 (Nat.le_trans (Nat.le_of_lt gR2.out) gR3.out.1))
  have gz3c := Lib.hid (show ∀ g, Blk (.slice A n c) g → g < R3 from fun g hg => Nat.lt_of_lt_of_le (gBl.out.1 g hg) gz3b.out)
  have gL := Lib.hid gBl.out.2
  clear hbut hcat gr2 gg2 gat2 gB3 gO3 gz3 gx3 gy3 gBl gBs gR1 gR2 gR3
  refine (equal_any (c := c2) (c' := j) gv2.out (sb_of gz4.out)).mono ?_
  rintro e _ ⟨rfl, rfl⟩
  rw [beq_self_eq_true]
  have hsl := slice_to A n c j (by have := gc.out; have := gjn.out; omega)
  clear gv2
  go_wp2_with fail
  refine (equal_any (c := j) (c' := c) (sb_of gz4.out) ((sb_of gO4.out).take gjn.out.2.2)).mono ?_
  rintro e _ ⟨rfl, rfl⟩
  rw [beq_self_eq_true]
  obtain ⟨w5, hclear, hbut5⟩ := clear_row gz4.out
  have gB5 := Lib.hid (gB4.out.turn (S' := Blk (.slice A n c)) (hbut5.mono' fun b hb => by
    rw [show b = R3 from hb]
    exact ⟨.inr rfl, Nat.le_trans gL.out gz3b.out⟩) (fun b hb => .inl (.inl hb)))
  have gO5 := Lib.hid (owns_of_block gO4.out fun g hg => hbut5.block g (gB4.out.lt (.inl hg)) (fun e => by
    have e' : g = R3 := e
    have := gz3c.out g hg
    omega))
  clear hbut5 gB4 gO4 gz4
  go_wp2_with fail
  refine (has_any (c := c) gB5.out (sb_of gO5.out)).mono ?_
  rintro e W6 ⟨rfl, hb⟩
  have gB6 := Lib.hid (gB5.out.below hb)
  clear hb gB5 gO5
  go_wp2_with fail
  refine (b_durable gB6.out).mono ?_
  rintro e _ ⟨rfl, rfl⟩
  go_wp2_with fail
  refine (works_any _).mono ?_
  rintro e W7 ⟨rfl, hb⟩
  have gE := Lib.hid (gB6.out.below hb).low
  clear hb gB6
  go_wp2_with fail
  go_ret
  exact ⟨rfl, gE.out⟩
end Go.Proofs.Ytaohlblhfmlpbaa
