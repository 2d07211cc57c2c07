/- ImageApart: the walk. -/
import Derived.Test.YtaohlblhfmlpbaaUse
import Derived.Deep.CutBlock
import Derived.Deep.CutRange
namespace Go.Proofs.Ytaohlblhfmlpbaa
open Go.RowKit
theorem zeros_sb (W : World) (n : Nat) : SB (W.alloc (.cells (Array.replicate n (.int .u8 0)) 5)) (some ⟨W.heap.size, 0, none⟩) n (List.replicate n 0) := by
  refine SB.of_row (by simp) (t := 5) ?_
  have e : (vs (List.replicate n 0)).toArray = Array.replicate n (.int .u8 0) := by
    unfold vs
    rw [List.map_replicate, List.toArray_replicate]
    rfl
  rw [e]
  exact World.alloc_heap_new _ _
set_option maxRecDepth 100000 in
set_option maxHeartbeats 8000000 in
theorem imageApart_walk (a0 : Option Addr) (len0 cap0 : Nat) (z0 : List Mv) (a1 : Int) (w : World) (w0 : MS w a0 len0 z0) (c0 : len0 ≤ cap0 ∧ cap0 ≤ 9223372036854775807) (w1 : (Lit.int .u8 a1).wf = true) :
    Calls Try.prog 7 #[.slice a0 len0 cap0, .int .u8 a1] w fun e w' => e = .returned (.bool true) ∧ Below w.heap.size w w' := by
  obtain ⟨k, rfl, hk⟩ := u8_nat w1
  have gF := Lib.hid (filled_any a0 len0 cap0 z0 w w0 c0)
  clear w0 c0 w1
  go_enter Try.func7, Try.ntmps7
  go_wp2_with fail
  refine gF.out.mono ?_
  rintro e W ⟨P, A, c, d, l, rfl, g⟩
  have gB := Lib.hid g.out.1
  have gO := Lib.hid g.out.2
  have gbd := Lib.hid g.out.1.bounds
  obtain ⟨n, hn⟩ : ∃ n, n = l.length := ⟨_, rfl⟩
  rw [← hn] at gB gO gbd ⊢
  have gn := Lib.hid hn
  clear g gF hn
  go_wp2_with fail
  refine (b_copy gB.out).mono ?_
  rintro e W1 ⟨rfl, g1⟩
  obtain ⟨Q, hQ⟩ : ∃ Q, Q = W.heap.size := ⟨_, rfl⟩
  rw [← hQ] at g1 ⊢
  have gC1 : Hid (Beside W Q 300 d l (fun b => b < Q) W1) := Lib.hid g1.out.1
  have gb1 := Lib.hid (show Below W.heap.size W W1 from by rw [← hQ]; exact g1.out.2)
  have gAl := Lib.hid (show ∀ b, Blk (.slice A n c) b → b < Q from fun b hb => by rw [hQ]; exact gB.out.lt hb)
  have gQ := Lib.hid hQ
  clear g1 hQ
  go_wp2_with fail
  have gO1 := Lib.hid (owns_below gO.out gb1.out)
  refine (has_any (c := c) gC1.out (sb_of gO1.out)).mono ?_
  rintro e W2 ⟨rfl, hb⟩
  have gC2 := Lib.hid (gC1.out.below hb)
  have gb2 := Lib.hid (gb1.out.trans (hb.mono gb1.out.size))
  clear hb gC1 gb1 gO1
  go_wp2_with fail
  refine (b_durable gC2.out).mono ?_
  rintro e _ ⟨rfl, rfl⟩
  go_wp2_with fail
  refine (b_size gC2.out).mono ?_
  rintro e _ ⟨rfl, rfl⟩
  obtain ⟨q, hq⟩ : ∃ q, q = k % 4 := ⟨_, rfl⟩
  have e1 : (k : Int) % 4 = (q : Nat) := by omega
  have e2 : Int.tmod (k : Int) 4 = (q : Nat) := by rw [hq]; exact (Int.ofNat_tmod k 4).symm
  have hq4 : q < 4 := by omega
  clear hq
  have e3 : (k : Int) < 256 := by omega
  go_upto_block 0 with (fail)
  go_cut [10] from 41 to 64 (fun _ wx => Hid (Below W.heap.size W wx))
  case rest =>
    have gX := hcut
    clear gC2 gb2 gAl gQ e1 e2 e3 hq4
    have gB3 := Lib.hid (gB.out.below gX.out)
    have gO3 := Lib.hid (owns_below gO.out gX.out)
    clear gB gO gX
    go_wp2_with fail
    refine (has_any (c := c) gB3.out (sb_of gO3.out)).mono ?_
    rintro e W4 ⟨rfl, hb⟩
    have gB4 := Lib.hid (gB3.out.below hb)
    clear hb gB3 gO3
    go_wp2_with fail
    refine (b_durable gB4.out).mono ?_
    rintro e _ ⟨rfl, rfl⟩
    go_wp2_with fail
    refine (b_erase gB4.out).mono ?_
    rintro e W5 ⟨rfl, g5⟩
    have gB5 : Hid (Beside w P 300 0 [] (fun _ => False) W5) := Lib.hid (g5.out.1.mono fun _ h => h.elim)
    clear g5 gB4
    go_wp2_with fail
    refine (has_any (c := 0) gB5.out (SB.nil _ none)).mono ?_
    rintro e W6 ⟨rfl, hb⟩
    have gB6 := Lib.hid (gB5.out.below hb)
    clear hb gB5
    go_wp2_with fail
    refine (b_durable gB6.out).mono ?_
    rintro e _ ⟨rfl, rfl⟩
    go_wp2_with fail
    refine (b_room gB6.out).mono ?_
    rintro e _ ⟨rfl, rfl⟩
    obtain ⟨zs, hmk, gS6⟩ : ∃ zs : Array Value, (∀ w' : World, (Instr.makeSlice 23 (.int .i64 300) (.int .i64 300)).run Try.prog w' = .ok (.slice (some ⟨w'.heap.size, 0, none⟩) 300 300) (w'.alloc (.cells zs 5))) ∧ Hid (SB (W6.alloc (.cells zs 5)) (some ⟨W6.heap.size, 0, none⟩) 300 (List.replicate 300 0)) :=
      ⟨Array.replicate 300 (.int .u8 0), make_bytes 300 300 (Nat.le_refl _) (by decide), Lib.hid (zeros_sb W6 300)⟩
    go_wp2_with fail
    have hb := lit_b W6 (.cells zs 5)
    refine (b_append (gB6.out.below hb) gS6.out (fun h => nomatch h) (by decide)).mono ?_
    rintro e W7 ⟨rfl, g7⟩
    have gL7 := Lib.hid g7.out.1.low
    clear hb g7 gB6 hmk gS6
    go_wp2_with fail
    refine (works_any _).mono ?_
    rintro e W8 ⟨rfl, hb⟩
    have gE := Lib.hid (gL7.out.trans (hb.mono gL7.out.size))
    clear hb
    go_wp2_with fail
    go_ret
    exact ⟨rfl, gE.out⟩
  case first =>
    by_cases h0 : q = 0
    · subst h0
      go_wp2_with fail
      refine (b_erase gC2.out).mono ?_
      rintro e W3 ⟨rfl, g3⟩
      have gX := Lib.hid g3.out.1.low
      clear g3 gC2 gb2
      go_wp2_with fail
      go_meet
      exact gX
    · by_cases h1 : q = 1
      · subst h1
        clear h0
        go_wp2_with fail
        refine (b_sync gC2.out).mono ?_
        rintro e W3 ⟨rfl, g3⟩
        have gX := Lib.hid g3.out.1.low
        clear g3 gC2 gb2
        go_wp2_with fail
        go_meet
        exact gX
      · by_cases h2 : q = 2
        · subst h2
          clear h0 h1
          go_wp2_with fail
          refine (b_crash gC2.out 0 (by decide)).mono ?_
          rintro e W3 ⟨rfl, g3⟩
          have gX := Lib.hid g3.out.1.low
          clear g3 gC2 gb2
          go_wp2_with fail
          go_meet
          exact gX
        · obtain rfl : q = 3 := by omega
          clear h0 h1 h2
          have hb := lit_b W2 (.cells (vs [1, 2, 3]).toArray 5)
          have gC3 := Lib.hid (gC2.out.below hb)
          have gS3 := Lib.hid (lit_sb W2 [1, 2, 3] (n := 3) rfl)
          clear hb
          by_cases hfit : l.length + 3 ≤ 300
          · go_wp2_with fail
            refine (b_append gC3.out gS3.out (fun h => nomatch h) hfit).mono ?_
            rintro e W3 ⟨rfl, g3⟩
            have gX := Lib.hid g3.out.1.low
            clear g3 gC2 gC3 gS3 gb2 hfit
            go_wp2_with fail
            go_meet
            exact gX
          · go_wp2_with fail
            refine (b_full gC3.out _ 3 3 (by omega)).mono ?_
            rintro e W3 ⟨rfl, rfl⟩
            have gX := Lib.hid gC3.out.low
            clear gC2 gC3 gS3 gb2 hfit
            go_wp2_with fail
            go_meet
            exact gX
end Go.Proofs.Ytaohlblhfmlpbaa
