/- ImagePrefix: the walk. -/
import Derived.Test.YtaohlblhfmlpbaaUse
namespace Go.Proofs.Ytaohlblhfmlpbaa
open Go.RowKit
set_option maxRecDepth 100000 in
set_option maxHeartbeats 8000000 in
theorem imagePrefix_walk (a0 : Option Addr) (len0 cap0 : Nat) (z0 : List Mv) (a1 a2 : Int) (w : World) (w0 : MS w a0 len0 z0) (c0 : len0 ≤ cap0 ∧ cap0 ≤ 9223372036854775807) (w1 : (Lit.int .u16 a1).wf = true) (w2 : (Lit.int .u16 a2).wf = true) :
    Calls Try.prog 4 #[.slice a0 len0 cap0, .int .u16 a1, .int .u16 a2] w fun e w' => e = .returned (.bool true) ∧ Below w.heap.size w w' := by
  obtain ⟨k, rfl, hk⟩ := u16_nat w1
  obtain ⟨q, rfl, hq⟩ := u16_nat w2
  have gF := Lib.hid (filled_any a0 len0 cap0 z0 w w0 c0)
  clear w0 c0 w1 w2
  go_enter Try.func4, Try.ntmps4
  go_wp2_with fail
  refine gF.out.mono ?_
  rintro e W ⟨P, A, c, d, l, rfl, g⟩
  have gB := Lib.hid g.out.1
  have gO := Lib.hid g.out.2
  have gbd := Lib.hid g.out.1.bounds
  have gc := Lib.hid (cap_of g.out.2).1
  obtain ⟨n, hn⟩ : ∃ n, n = l.length := ⟨_, rfl⟩
  rw [← hn] at gB gO gbd gc ⊢
  have gn := Lib.hid hn
  clear g gF hn
  go_wp2_with fail
  refine (has_any (c := c) gB.out (sb_of gO.out)).mono ?_
  rintro e W1 ⟨rfl, hb⟩
  have gB1 := Lib.hid (gB.out.below hb)
  have gO1 := Lib.hid (owns_below gO.out hb)
  clear hb gB gO
  go_wp2_with fail
  refine (b_durable gB1.out).mono ?_
  rintro e _ ⟨rfl, rfl⟩
  obtain ⟨r, hr⟩ : ∃ r, r = kept d k n := ⟨_, rfl⟩
  have hrn : r ≤ n ∧ d ≤ r := by have := gbd.out; rw [hr]; exact ⟨(kept_le this.1).2, (kept_le this.1).1⟩
  have e1 : min (n : Int) ((d : Int) + (k : Int)) = (r : Int) := by have := gbd.out; rw [hr]; unfold kept; omega
  have e2 : wrap64 ((d : Int) + (k : Int)) = (d : Int) + (k : Int) := by have := gbd.out; unfold wrap64; omega
  have e3 := wrap_u16 hk
  have e4 := wrap_u16 hq
  have hsl := slice_to A n c r (by have := gc.out; omega)
  have gr := Lib.hid hr
  have grn := Lib.hid hrn
  have hk2 := Lib.hid hk
  have hq2 := Lib.hid hq
  clear hr hrn hk hq
  go_wp2_with fail
  refine (b_crash gB1.out k (by have := hk2.out; omega)).mono ?_
  rintro e W2 ⟨rfl, g2⟩
  have g3 := g2.out
  rw [← gn.out, ← gr.out] at g3
  have gB2 := Lib.hid g3.1
  have gO2 := Lib.hid (owns_of_block gO1.out fun g hg => g3.2 g hg)
  have glen := Lib.hid (show (l.take r).length = r by rw [List.length_take]; have := grn.out; have := gn.out; omega)
  clear g2 g3 gB1 gO1
  go_wp2_with fail
  refine (has_any (c := c) gB2.out ((sb_of gO2.out).take grn.out.1)).mono ?_
  rintro e W3 ⟨rfl, hb⟩
  have gB3 := Lib.hid (gB2.out.below hb)
  have gO3 := Lib.hid (owns_below gO2.out hb)
  clear hb gB2 gO2
  go_wp2_with fail
  refine (b_durable gB3.out).mono ?_
  rintro e _ ⟨rfl, rfl⟩
  go_wp2_with fail
  refine (b_crash gB3.out q (by have := hq2.out; omega)).mono ?_
  rintro e W4 ⟨rfl, g4⟩
  have g5 := g4.out
  have hkk : kept r q (l.take r).length = r := by rw [glen.out]; unfold kept; omega
  rw [hkk, List.take_take, Nat.min_self] at g5
  have gB4 := Lib.hid g5.1
  have gO4 := Lib.hid (owns_of_block gO3.out fun g hg => g5.2 g hg)
  clear g4 g5 hkk gB3 gO3
  go_wp2_with fail
  refine (has_any (c := c) gB4.out ((sb_of gO4.out).take grn.out.1)).mono ?_
  rintro e W5 ⟨rfl, hb⟩
  have gB5 := Lib.hid (gB4.out.below hb)
  clear hb gB4 gO4
  go_wp2_with fail
  refine (b_durable gB5.out).mono ?_
  rintro e _ ⟨rfl, rfl⟩
  go_wp2_with fail
  refine (works_any _).mono ?_
  rintro e W6 ⟨rfl, hb⟩
  have gE := Lib.hid (gB5.out.below hb).low
  clear hb gB5
  go_wp2_with fail
  go_ret
  exact ⟨rfl, gE.out⟩
end Go.Proofs.Ytaohlblhfmlpbaa
