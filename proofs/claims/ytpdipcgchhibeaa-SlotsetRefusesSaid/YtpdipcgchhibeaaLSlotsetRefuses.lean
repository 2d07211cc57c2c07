/- SlotsetRefuses: the walk. -/
import Derived.Test.YtpdipcgchhibeaaUse
namespace Go.Proofs.Ytpdipcgchhibeaa
open Go.RowKit
theorem minus_zero {m : Nat} (h : m < 18446744073709551616) : minus m 0 = m := by
  unfold minus
  rw [show 18446744073709551615 - 0 = 2 ^ 64 - 1 from rfl, Nat.and_two_pow_sub_one_eq_mod]
  exact Nat.mod_eq_of_lt h
theorem rem_34 {n f q : Nat} (h : q = (n + f) % 34) : Int.tmod ((n : Int) + (f : Int)) 34 = (q : Int) := by
  rw [h]
  exact (Int.ofNat_tmod (n + f) 34).symm
theorem emod_34 {n f q : Nat} (h : q = (n + f) % 34) : ((n : Int) + (f : Int)) % 34 = (q : Int) := by omega
set_option maxRecDepth 100000 in
set_option maxHeartbeats 8000000 in
theorem slotsetRefuses_walk (a0 : Int) (a1 : Option Addr) (len1 cap1 : Nat) (z1 : List Int) (a2 : Int) (w : World) (w0 : (Lit.int .u8 a0).wf = true) (w1 : IsRow .u8 w a1 len1 cap1 z1) (w2 : (Lit.int .u16 a2).wf = true) :
    Calls Try.prog 8 #[.int .u8 a0, .slice a1 len1 cap1, .int .u16 a2] w fun e w' => e = .returned (.bool true) ∧ Below w.heap.size w w' := by
  obtain ⟨s, rfl, hs⟩ := nat_of_u8 w0
  obtain ⟨f, rfl, hf⟩ := nat_of_u16 w2
  have hlen := w1.len
  have gl := Lib.hid w1.bn
  obtain ⟨ns, hns⟩ : ∃ ns, ns = nums len1 z1 := ⟨_, rfl⟩
  rw [← hns] at gl
  clear w0 w1 w2 hns
  by_cases h100 : 100 < len1
  · go_enter Try.func8, Try.ntmps8
    go_wp2_with fail
    refine (works_any _).mono ?_
    rintro e w' ⟨rfl, hb⟩
    have gb := Lib.hid hb
    clear hb
    go_wp2_with fail
    go_ret
    exact ⟨rfl, gb.out⟩
  · have h100' : len1 ≤ 100 := by omega
    have gs := Lib.hid hs
    have gf := Lib.hid hf
    clear hs hf
    go_enter Try.func8, Try.ntmps8
    go_wp2_with fail
    refine (filled_any s a1 len1 cap1 ns w gl.out (by omega) gs.out).mono ?_
    rintro e W1 ⟨P, R, rfl, gF⟩
    obtain ⟨n, hn⟩ : ∃ n, n = 1 + s % 34 := ⟨_, rfl⟩
    obtain ⟨m, hm⟩ : ∃ m, m = fillN (1 + s % 34) ns := ⟨_, rfl⟩
    rw [← hm, ← hn] at gF
    rw [← hn]
    clear hn hm
    have g1 := Lib.hid gF.out.hold
    have r1 := Lib.hid gF.out.rows
    have gne := Lib.hid gF.out.ne
    have hn34 : n ≤ 34 := gF.out.set.le
    have gn1 := Lib.hid gF.out.set.pos
    have hf : f < 65536 := gf.out
    obtain ⟨q, hq⟩ : ∃ q, q = (n + f) % 34 := ⟨_, rfl⟩
    have e1 := rem_34 hq
    have e2 := emod_34 hq
    obtain ⟨n2, hn2⟩ : ∃ n2, n2 = 1 + q := ⟨_, rfl⟩
    have e3 : (1 : Int) + (q : Int) = (n2 : Int) := by omega
    have gn2 := Lib.hid (show 1 ≤ n2 ∧ n2 ≤ 34 from by omega)
    have h34 : n ≤ 34 := hn34
    clear gF gl gs h100 h100' hlen hq hn2
    go_wp2_with fail
    refine (set_none n2 0 W1 gn2.out.1 gn2.out.2).mono ?_
    rintro e W2 ⟨rfl, g⟩
    have g2 := Lib.hid (g1.out.below g.out.2)
    have r2 := Lib.hid (r1.out.below g.out.2)
    obtain ⟨Q, hQ⟩ : ∃ Q, Q = W1.heap.size := ⟨_, rfl⟩
    have k2 := Lib.hid g.out.1
    have gPQ := Lib.hid (show Q ≠ P from by have := g1.out.lt; omega)
    rw [← hQ] at k2
    rw [← hQ]
    clear g1 r1 g hQ e1 e2 e3
    go_wp2_with fail
    refine (size_any k2.out).mono ?_
    rintro e _ ⟨rfl, rfl⟩
    by_cases hnn : n2 = n
    · subst hnn
      go_wp2_with fail
      refine (new_bad (-(f : Int)) _ (.inl (by omega))).mono ?_
      rintro e _ ⟨rfl, rfl⟩
      go_wp2_with fail
      refine (new_bad (35 + (f : Int)) _ (.inr (by omega))).mono ?_
      rintro e _ ⟨rfl, rfl⟩
      go_wp2_with fail
      refine (add_out g2.out.set (-1 - (f : Int)) (.inl (by omega))).mono ?_
      rintro e _ ⟨rfl, rfl⟩
      go_wp2_with fail
      refine (remove_out g2.out.set ((n2 : Int) + (f : Int)) (.inr (by omega))).mono ?_
      rintro e _ ⟨rfl, rfl⟩
      go_wp2_with fail
      refine (h_union g2.out k2.out).mono ?_
      rintro e W3 ⟨rfl, h3, hL⟩
      rw [Nat.or_zero] at h3 hL
      have g3 := Lib.hid h3
      have r3 := Lib.hid (r2.out.left hL gne.out)
      have k3 := Lib.hid (k2.out.but hL.2 gPQ.out)
      clear h3 hL g2 r2 k2
      go_wp2_with fail
      refine (h_minus g3.out k3.out).mono ?_
      rintro e W4 ⟨rfl, h4, hL⟩
      rw [minus_zero g3.out.set.m64] at h4 hL
      have g4 := Lib.hid h4
      have r4 := Lib.hid (r3.out.left hL gne.out)
      clear h4 hL g3 r3 k3
      go_wp2_with fail
      refine (slots_is r4.out hn34 g4.out.set.lt).mono ?_
      rintro e W5 ⟨A, d, rfl, gA⟩
      have g5 := Lib.hid (g4.out.below gA.out.2)
      clear g4 r4
      go_wp2_with fail
      refine (same_is g5.out gA.out.1).mono ?_
      rintro e W6 ⟨rfl, hb⟩
      have g6 := Lib.hid (g5.out.below hb)
      clear g5 gA hb
      go_wp2_with fail
      refine (works_any _).mono ?_
      rintro e W7 ⟨rfl, hb⟩
      have gE := Lib.hid (g6.out.below hb).low
      clear hb g6
      go_wp2_with fail
      go_ret
      exact ⟨rfl, gE.out⟩
    · have hne : ((n2 : Int) == (n : Int)) = false := by simp; omega
      have hne2 : ((n2 : Int) != (n : Int)) = true := by simp; omega
      have gnn := Lib.hid (show n ≠ n2 from fun h => hnn h.symm)
      clear hnn
      go_wp2_with fail
      refine (new_bad (-(f : Int)) _ (.inl (by omega))).mono ?_
      rintro e _ ⟨rfl, rfl⟩
      go_wp2_with fail
      refine (new_bad (35 + (f : Int)) _ (.inr (by omega))).mono ?_
      rintro e _ ⟨rfl, rfl⟩
      go_wp2_with fail
      refine (add_out g2.out.set (-1 - (f : Int)) (.inl (by omega))).mono ?_
      rintro e _ ⟨rfl, rfl⟩
      go_wp2_with fail
      refine (remove_out g2.out.set ((n : Int) + (f : Int)) (.inr (by omega))).mono ?_
      rintro e _ ⟨rfl, rfl⟩
      go_wp2_with fail
      refine (h_union_ne g2.out k2.out gnn.out).mono ?_
      rintro e W3 ⟨rfl, hb⟩
      have g3 := Lib.hid (g2.out.below hb)
      have r3 := Lib.hid (r2.out.below hb)
      have k3 := Lib.hid (k2.out.below hb)
      clear hb g2 r2 k2
      go_wp2_with fail
      refine (h_minus_ne g3.out k3.out gnn.out).mono ?_
      rintro e W4 ⟨rfl, hb⟩
      have g4 := Lib.hid (g3.out.below hb)
      have r4 := Lib.hid (r3.out.below hb)
      clear hb g3 r3 k3
      go_wp2_with fail
      refine (slots_is r4.out hn34 g4.out.set.lt).mono ?_
      rintro e W5 ⟨A, d, rfl, gA⟩
      have g5 := Lib.hid (g4.out.below gA.out.2)
      clear g4 r4
      go_wp2_with fail
      refine (same_is g5.out gA.out.1).mono ?_
      rintro e W6 ⟨rfl, hb⟩
      have g6 := Lib.hid (g5.out.below hb)
      clear g5 gA hb
      go_wp2_with fail
      refine (works_any _).mono ?_
      rintro e W7 ⟨rfl, hb⟩
      have gE := Lib.hid (g6.out.below hb).low
      clear hb g6
      go_wp2_with fail
      go_ret
      exact ⟨rfl, gE.out⟩
end Go.Proofs.Ytpdipcgchhibeaa
