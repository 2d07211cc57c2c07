/- What filled leaves: an image, its bytes, how many are durable. -/
import Derived.Test.YtaohlblhfmlpbaaHas
import Derived.Deep.Cut
namespace Go.Proofs.Ytaohlblhfmlpbaa
open Go.RowKit
/-- The block of a row. -/
abbrev Blk (v : Value) : Nat → Prop := fun b => v.ownBlock = some b
/-- Ahead of a round: the image, its bytes in a row besides. -/
def FRel (w : World) (P : Nat) (m8 m9 : Value) (wr : World) : Prop := ∃ A c d l, (m8 = .slice A l.length c ∧ m9 = .int .i64 (d : Nat)) ∧ Beside w P 300 d l (Blk m8) wr ∧ wr.ownsRow w.heap.size 5 1 m8 l.length (vs l)
theorem boxed_move {W : World} {k n b : Nat} : (W.alloc (.cells #[.int .u8 (k : Nat), .int .u8 (n : Nat), .int .u8 (b : Nat)] 64)).heap[W.heap.size]? = some (.cells #[.int .u8 (k : Nat), .int .u8 (n : Nat), .int .u8 (b : Nat)] 64 (0, 0)) := World.alloc_heap_new _ _
/-- A box of a move at block z. -/
def BoxM (W : World) (z k n b : Nat) : Prop := W.heap[z]? = some (.cells #[.int .u8 (k : Nat), .int .u8 (n : Nat), .int .u8 (b : Nat)] 64 (0, 0))
theorem BoxM.c0 {W : World} {z k n b : Nat} (h : BoxM W z k n b) : W.cell? ⟨z, 0, none⟩ = some (.int .u8 (k : Nat)) := (cell_of_row W z 0 _ _ (0, 0) h).trans rfl
theorem BoxM.c1 {W : World} {z k n b : Nat} (h : BoxM W z k n b) : W.cell? ⟨z, 1, none⟩ = some (.int .u8 (n : Nat)) := (cell_of_row W z 1 _ _ (0, 0) h).trans rfl
theorem BoxM.c2 {W : World} {z k n b : Nat} (h : BoxM W z k n b) : W.cell? ⟨z, 2, none⟩ = some (.int .u8 (b : Nat)) := (cell_of_row W z 2 _ _ (0, 0) h).trans rfl
theorem BoxM.below {W W' : World} {z k n b : Nat} (h : BoxM W z k n b) (hb : Below W.heap.size W W') : BoxM W' z k n b := (hb.block z (lt_of_heap h)).trans h
set_option maxRecDepth 1000000 in
set_option maxHeartbeats 16000000 in
theorem filled_any (a1 : Option Addr) (len1 cap1 : Nat) (z1 : List Mv) (w : World) (w1 : MS w a1 len1 z1) (c1 : len1 ≤ cap1 ∧ cap1 ≤ 9223372036854775807) :
    Calls Try.prog 24 #[.slice a1 len1 cap1] w fun e w' => ∃ P A c d l, e = .returned (.tuple #[.pointer (some ⟨P, 0, none⟩), .slice A (l.length : Nat) c, .int .i64 (d : Nat), .bool true]) ∧
      Hid (Beside w P 300 d l (Blk (.slice A l.length c)) w' ∧ w'.ownsRow w.heap.size 5 1 (.slice A l.length c) l.length (vs l)) := by
  obtain ⟨m, hm⟩ : ∃ m, m = min len1 60 := ⟨_, rfl⟩
  have hmi : (min (len1 : Int) 60) = (m : Nat) := by omega
  have hmn : m ≤ len1 := by omega
  have hsl : ∀ w' : World, (Instr.slice 40 (.slice a1 len1 cap1) none (some (.int .i64 (m : Int))) none).run Try.prog w' = .ok (.slice a1 m cap1) w' := by
    intro w'
    have i1 : m ≤ cap1 := by omega
    cases a1 <;> simp [Instr.slice, run_underlying Try.underlying40, Instr.sliceBounds, Instr.sliceBound, asIntOf, i1, Addr.add]
  have gM := Lib.hid w1
  clear w1 hm
  go_enter Try.func24, Try.ntmps24
  go_wp2_with fail
  refine (b_new (w0 := w) (S := fun _ => False) 300 (Below.refl _ _) (by decide) (by decide) (fun _ h => h.elim)).mono ?_
  rintro e w1 ⟨rfl, g1⟩
  obtain ⟨P, hP⟩ : ∃ P, P = w.heap.size := ⟨_, rfl⟩
  rw [← hP] at g1 ⊢
  have h1 := Lib.hid g1.out.1
  clear hP g1
  go_wp2_with fail
  go_loopw [8, 9, 11, 12, 29] (fun m8 m9 _ _ i wr => ∃ k : Nat, k ≤ m ∧ i = .int .i64 (k : Nat) ∧ Hid (FRel w P m8 m9 wr)) (fun _ _ _ _ i _ => m - (intOf i).toNat)
  case atStart => exact ⟨0, Nat.zero_le _, rfl, none, 0, 0, [], ⟨rfl, rfl⟩, h1.out.mono (fun b h => nomatch h), World.ownsRow_nil _ _ _ _⟩
  case round =>
    obtain ⟨k, hk, rfl, gR⟩ := hrel
    obtain ⟨A, c, d, l, ⟨rfl, rfl⟩, hB, hO⟩ := gR.out
    have gB := Lib.hid hB
    have gO := Lib.hid hO
    have gbd := Lib.hid hB.bounds
    clear hB hO gR
    by_cases hlt : k < m
    · obtain ⟨b, o, ⟨t1, t2, t3⟩, rfl, ht, hok, e0, e1, e2⟩ := gM.out.at gB.out.low (show k < len1 by omega)
      dsimp only at e0 e1 e2
      have hk1 : t1 < 256 := hok.1
      clear hsl hmi ht hok
      have hbox := lit_b wr (.cells #[.int .u8 (t1 : Nat), .int .u8 (t2 : Nat), .int .u8 (t3 : Nat)] 64)
      obtain ⟨W, hW⟩ : ∃ W, W = wr.alloc (.cells #[.int .u8 (t1 : Nat), .int .u8 (t2 : Nat), .int .u8 (t3 : Nat)] 64) := ⟨_, rfl⟩
      have gX := Lib.hid (show BoxM W wr.heap.size t1 t2 t3 from by rw [hW]; exact boxed_move)
      rw [← hW] at hbox
      obtain ⟨z, hz⟩ : ∃ z, z = wr.heap.size := ⟨_, rfl⟩
      have gB1 := Lib.hid (gB.out.more (S' := fun b => Blk (.slice A l.length c) b ∨ b = z) hbox (fun b hb => by
        rcases hb with hb | rfl
        · exact .inl hb
        · exact .inr (by rw [hz]; exact ⟨Nat.le_refl _, lt_of_heap gX.out⟩)))
      have gO1 := Lib.hid (owns_below gO.out hbox)
      have gW := Lib.hid hW
      have gz := Lib.hid hz
      rw [← hz] at gX
      clear hbox hW hz gB gO gM
      by_cases h3 : 192 ≤ t1
      · have h3' : (192 : Int) ≤ (t1 : Int) := by omega
        clear h3 gX
        go_wp2_with fail
        rw [← gW.out, ← gz.out]
        refine (b_sync gB1.out).mono ?_
        rintro e W2 ⟨rfl, g2⟩
        have gO2 := Lib.hid (owns_of_block gO1.out fun g hg => g2.out.2 g (.inl hg))
        have gB2 := Lib.hid (g2.out.1.mono (S' := Blk (.slice A l.length c)) (fun b hb => .inl hb))
        clear g2 gB1 gO1 gW gz e0 e1 e2
        go_wp2_with fail
        go_roundw
        case rel => exact ⟨k + 1, by omega, by simp, A, c, l.length, l, ⟨rfl, rfl⟩, gB2.out, gO2.out⟩
        case measure => simp [intOf] <;> omega
      · have h3' : ¬ (192 : Int) ≤ (t1 : Int) := by omega
        clear h3
        go_wp2_with fail
        rw [← gW.out, ← gz.out]
        clear gW gz e0 e1 e2
        refine (data_any t1 t2 t3 W).mono ?_
        rintro e W2 ⟨R, rfl, g2⟩
        obtain ⟨q, hq⟩ : ∃ q, q = t2 % 40 := ⟨_, rfl⟩
        have hq40 : q < 40 := by omega
        obtain ⟨xs, hxs⟩ : ∃ xs, xs = dat t2 t3 := ⟨_, rfl⟩
        have hxl : xs.length = q := by rw [hxs, length_dat, hq]
        rw [← hq, ← hxs] at g2
        rw [← hq]
        have gX2 := Lib.hid (gX.out.below g2.out.2.2.2)
        have gB2 := Lib.hid (gB1.out.below g2.out.2.2.2)
        have gO2 := Lib.hid (owns_below gO1.out g2.out.2.2.2)
        have gS2 := Lib.hid g2.out.2.2.1
        have gq := Lib.hid hq
        have gxs := Lib.hid hxs
        have gxl := Lib.hid hxl
        clear g2 gX gB1 gO1 hq hxs hxl
        by_cases hfit : l.length + q ≤ 300
        · have gfit := Lib.hid hfit
          go_wp2_with fail
          refine (b_append gB2.out gS2.out (fun h => nomatch h) gfit.out).mono ?_
          rintro e W3 ⟨rfl, g3⟩
          have gX3 := Lib.hid (show BoxM W3 z t1 t2 t3 from (g3.out.2 z (.inr rfl)).trans gX2.out)
          have gB3 := Lib.hid (g3.out.1.mono (S' := fun b => Blk (.slice A l.length c) b ∨ b = z) (fun b hb => hb))
          have gO3 := Lib.hid (owns_of_block gO2.out fun g hg => g3.out.2 g (.inl hg))
          have c0 := gX3.out.c0
          have c1' := gX3.out.c1
          have c2 := gX3.out.c2
          clear g3 gX2 gB2 gO2 gS2
          go_wp2_with fail
          refine (data_any t1 t2 t3 W3).mono ?_
          rintro e W4 ⟨R4, rfl, g4⟩
          rw [← gq.out]
          have gB4 := Lib.hid (gB3.out.below g4.out.2.2.2)
          have gO4 := Lib.hid (owns_below gO3.out g4.out.2.2.2)
          have gX4 := Lib.hid (gX3.out.below g4.out.2.2.2)
          clear g4 gB3 gO3 gX3 c0 c1' c2
          have c0 := gX4.out.c0
          have c1' := gX4.out.c1
          have c2 := gX4.out.c2
          obtain ⟨n, hn⟩ : ∃ n, n = l.length := ⟨_, rfl⟩
          have gn := Lib.hid hn
          have hw1 : wrap64 ((n : Int) + (q : Int)) = (n : Int) + (q : Int) := by have := gbd.out; unfold wrap64; omega
          have hf : (n : Int) + (q : Int) ≤ 300 := by omega
          rw [← hn]
          clear hn hfit
          go_wp2_with fail
          refine (data_any t1 t2 t3 W4).mono ?_
          rintro e W5 ⟨R5, rfl, g5⟩
          rw [← gq.out]
          have gB5 := Lib.hid (gB4.out.below g5.out.2.2.2)
          have gO5 := Lib.hid (show W5.ownsRow w.heap.size 5 1 (.slice A n c) n (vs l) from by rw [gn.out]; exact owns_below gO4.out g5.out.2.2.2)
          have gS5 := Lib.hid (show SB W5 (some ⟨R5, 0, none⟩) q xs from by have := g5.out.2.2.1; rwa [← gq.out, ← gxs.out] at this)
          have gsrc := Lib.hid (show ∀ j u, (vs xs)[j]? = some u → W5.cell? ((⟨R5, 0, none⟩ : Addr).add j) = some u from fun j u hj => by
            obtain ⟨x, hx, rfl⟩ := vs_at hj
            have hlt : j < q := by rw [← gxl.out]; exact (List.getElem?_eq_some_iff.1 hx).1
            obtain ⟨a', e, hc'⟩ := gS5.out.2 (by omega)
            cases e
            exact hc' j x hx)
          have glen := Lib.hid (show (vs xs).length = q * 1 by rw [length_vs, gxl.out, Nat.mul_one])
          have gN := Lib.hid (show n + q ≤ 300 by omega)
          obtain ⟨i0, hinf, hz0, hz1, hz2⟩ := info_parts infoE
          clear g5 gB4 gO4 gX4 c0 c1' c2 gS5 hw1 hf
          go_wp2_with (
            (at_builtin; refine wpList_append_own_at _ rfl _ _ 23 rfl w.heap.size 5 i0 _ 1 1 Try.underlying23 hinf hz0 hz1 hz2 rfl (by decide) (.slice A n c) n (vs l) rfl gO5.out ⟨R5, 0, none⟩ q q (vs xs) rfl glen.out gsrc.out (vs_one _) (by have := gN.out; unfold maxLen; omega) (by have := gN.out; omega) gB5.out.low.size ?_
             intro v2 w2 hr2 hg2 _ hat2
             have gB6 := Lib.hid (gB5.out.turn (S' := Blk v2) (w' := w2) ((But.refl _ W5).grown hg2 fun g hg => .inl ⟨.inl (by rw [← gn.out]; exact hg), (gO5.out.lt g hg).1⟩) (fun b hb => by
               rcases hat2 with h | h
               · exact .inl (.inl (by rw [← gn.out]; exact h.symm.trans hb))
               · have hb' : v2.ownBlock = some b := hb
                 rw [h] at hb'
                 cases hb'
                 exact .inr ⟨Nat.le_refl _, (hr2.lt _ hb).2⟩))
             obtain ⟨A2, c2, rfl, _⟩ := ownsRow_shape hr2
             have gr2 := Lib.hid hr2
             clear hr2 hg2 hat2))
          go_roundw
          case rel => exact ⟨k + 1, by omega, by simp, by
            have e : (l ++ xs).length = n + q := by rw [List.length_append, gxl.out, gn.out]
            refine ⟨A2, c2, d, l ++ xs, ⟨by rw [e], rfl⟩, gB6.out, ?_⟩
            rw [e, vs_append]
            exact gr2.out⟩
          case measure => simp [intOf] <;> omega
        · go_wp2_with fail
          refine (b_full gB2.out _ q q (by omega)).mono ?_
          rintro e _ ⟨rfl, rfl⟩
          have c0 := gX2.out.c0
          have c1' := gX2.out.c1
          have c2 := gX2.out.c2
          go_wp2_with fail
          refine (data_any t1 t2 t3 W2).mono ?_
          rintro e W3 ⟨R3, rfl, g3⟩
          rw [← gq.out]
          have gB3 := Lib.hid ((gB2.out.below g3.out.2.2.2).mono (S' := Blk (.slice A l.length c)) (fun b hb => .inl hb))
          have gO3 := Lib.hid (owns_below gO2.out g3.out.2.2.2)
          obtain ⟨n, hn⟩ : ∃ n, n = l.length := ⟨_, rfl⟩
          have gn := Lib.hid hn
          have hw1 : wrap64 ((n : Int) + (q : Int)) = (n : Int) + (q : Int) := by have := gbd.out; unfold wrap64; omega
          have hf : ¬ (n : Int) + (q : Int) ≤ 300 := by omega
          rw [← hn]
          clear hn c0 c1' c2 g3 gB2 gO2 gX2 gS2 hfit
          go_wp2_with fail
          go_roundw
          case rel => exact ⟨k + 1, by omega, by simp, by rw [gn.out]; exact ⟨A, c, d, l, ⟨rfl, rfl⟩, gB3.out, gO3.out⟩⟩
          case measure => simp [intOf] <;> omega
    · obtain rfl : k = m := by omega
      clear hsl hmi gM hk
      go_wp2_with fail
      go_returns
      exact ⟨P, A, c, d, l, rfl, gB.out, gO.out⟩
end Go.Proofs.Ytaohlblhfmlpbaa
