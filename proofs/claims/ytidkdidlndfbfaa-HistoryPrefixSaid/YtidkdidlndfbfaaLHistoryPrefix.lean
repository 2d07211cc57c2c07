/- HistoryPrefix: the walk. -/
import Derived.Test.YtidkdidlndfbfaaBeside
import Derived.Deep.QuietTactic
import Derived.BigQuiet
namespace Go.Proofs.Ytidkdidlndfbfaa
open Go.RowKit HI
/-- The blocks of two slices. -/
def Both (A C : Option Addr) : Nat → Prop := fun b => A = some ⟨b, 0, none⟩ ∨ C = some ⟨b, 0, none⟩
/-- Ahead of a round: the list, what was marked, what there was. -/
def PRel (w : World) (P q : Nat) (m8 m9 : Value) (wr : World) : Prop := ∃ A8 c8 A9 c9 mk l, (m8 = .slice A8 mk c8 ∧ m9 = .slice A9 l.length c9) ∧ Beside w P q mk l (Both A8 A9) wr ∧ SL wr A8 mk (l.take mk) ∧ SL wr A9 l.length l ∧ (mk ≤ c8 ∧ l.length ≤ c9)
theorem boxed_move {W : World} {k n : Nat} : (W.alloc (boxM k n)).heap[W.heap.size]? = some (.cells #[.int .u8 (k : Nat), .int .u16 (n : Nat)] 51 (0, 0)) := World.alloc_heap_new _ _
theorem slice_to (A : Option Addr) (n c r : Nat) (h : r ≤ c) (w' : World) : (Instr.slice 48 (.slice A n c) none (some (.int .i64 (r : Int))) none).run Try.prog w' = .ok (.slice A r c) w' := by
  cases A <;> simp [Instr.slice, run_underlying Try.underlying48, Instr.sliceBounds, Instr.sliceBound, asIntOf, h, Addr.add]
set_option maxRecDepth 1000000 in
set_option maxHeartbeats 16000000 in
theorem historyPrefix_walk (a0 : Int) (a1 : Option Addr) (len1 cap1 : Nat) (z1 : List Mv) (w : World) (w0 : (Lit.int .u8 a0).wf = true) (w1 : MS w a1 len1 z1) (c1 : len1 ≤ cap1 ∧ cap1 ≤ 9223372036854775807) :
    Calls Try.prog 5 #[.int .u8 a0, .slice a1 len1 cap1] w fun e w' => e = .returned (.bool true) ∧ Below w.heap.size w w' := by
  obtain ⟨a, rfl, ha⟩ := u8_nat w0
  obtain ⟨q, hq⟩ : ∃ q, q = 1 + a % 64 := ⟨_, rfl⟩
  have hq1 : (1 : Int) + (a : Int) % 64 = (q : Nat) := by omega
  have hq2 : q ≤ 100000 := by omega
  have ha2 : ((a : Nat) : Int) < 256 := by omega
  obtain ⟨m, hm⟩ : ∃ m, m = min len1 150 := ⟨_, rfl⟩
  have hmi : (min (len1 : Int) 150) = (m : Nat) := by omega
  have hmn : m ≤ len1 := by omega
  have hsl : ∀ w' : World, (Instr.slice 44 (.slice a1 len1 cap1) none (some (.int .i64 (m : Int))) none).run Try.prog w' = .ok (.slice a1 m cap1) w' := by
    intro w'
    have i1 : m ≤ cap1 := by omega
    cases a1 <;> simp [Instr.slice, run_underlying Try.underlying44, Instr.sliceBounds, Instr.sliceBound, asIntOf, i1, Addr.add]
  have gM := Lib.hid w1
  clear w0 w1 hm hq ha
  go_enter Try.func5, Try.ntmps5
  go_wp2_with fail
  refine (h_new (w0 := w) q hq2 (Below.refl _ _)).mono ?_
  rintro e w1 ⟨rfl, g1, _⟩
  obtain ⟨P, hP⟩ : ∃ P, P = w.heap.size := ⟨_, rfl⟩
  rw [← hP] at g1 ⊢
  have gP := Lib.hid hP
  clear hP hq1
  go_wp2_with fail
  go_loopw [8, 9, 36] (fun m8 m9 i wr => ∃ k : Nat, k ≤ m ∧ i = .int .i64 (k : Nat) ∧ Hid (PRel w P q m8 m9 wr)) (fun _ _ i _ => m - (intOf i).toNat)
  case atStart => exact ⟨0, Nat.zero_le _, rfl, none, 0, none, 0, 0, [], ⟨rfl, rfl⟩, g1.beside.mono (fun b h => by rcases h with h | h <;> cases h), SL.nil _ _, SL.nil _ _, Nat.le_refl _, Nat.le_refl _⟩
  case round =>
    obtain ⟨k, hk, rfl, gR⟩ := hrel
    obtain ⟨A8, c8, A9, c9, mk, l, ⟨rfl, rfl⟩, hB, hS8, hS9, hc8, hc9⟩ := gR.out
    have gB := Lib.hid hB
    have gS8 := Lib.hid hS8
    have gS9 := Lib.hid hS9
    have gbd := Lib.hid hB.has.bounds
    clear hB hS8 hS9 gR
    by_cases hlt : k < m
    · obtain ⟨b, o, ⟨t1, t2⟩, rfl, ht, hk1, hk2, e0, e1⟩ := gM.out.at (gB.out.has.low) (show k < len1 by omega)
      dsimp only at hk1 hk2 e0 e1
      clear hsl hmi ht
      have hbox := boxM_below wr t1 t2
      have hB1 := gB.out.add hbox (by simp)
      have gB1 := Lib.hid hB1
      have gbx := Lib.hid hbox
      clear hB1 hbox
      go_wp2_with fail
      refine (b_moved gB1.out t1 t2 hk1 hk2).mono ?_
      rintro e W2 ⟨rfl, g2⟩
      obtain ⟨mk', hmk'⟩ : ∃ x, x = (mvd q t1 t2 mk l).1 := ⟨_, rfl⟩
      obtain ⟨l', hl'⟩ : ∃ x, x = (mvd q t1 t2 mk l).2 := ⟨_, rfl⟩
      have gbd2 := Lib.hid g2.out.1.has.bounds
      rw [← hmk', ← hl'] at g2 gbd2
      have gmv := Lib.hid (And.intro hmk' hl')
      have b2 := (g2.out.2 wr.heap.size (.inr rfl)).trans (boxed_move (W := wr) (k := t1) (n := t2))
      have gS8' := Lib.hid (gS8.out.same (w' := W2) fun b e => (g2.out.2 b (.inl (.inl e))).trans (gbx.out.block b (gB.out.lt (.inl e))))
      have gS9' := Lib.hid (gS9.out.same (w' := W2) fun b e => (g2.out.2 b (.inl (.inr e))).trans (gbx.out.block b (gB.out.lt (.inr e))))
      have gb2 := Lib.hid b2
      clear hmk' hl' b2 gS8 gS9 gB gB1 gbx gM e0 e1
      go_wp2_with fail
      refine (h_elements g2.out.1.has).mono ?_
      rintro e W3 ⟨vn, rfl, gE⟩
      obtain ⟨An, cn, rfl, _, hcn, hcmn, hSn, hAn, _⟩ := owns_sl gE.out.1
      have gB3 := Lib.hid (g2.out.1.below gE.out.2)
      have gS8 := Lib.hid (gS8'.out.below gE.out.2)
      have gS9 := Lib.hid (gS9'.out.below gE.out.2)
      have gSn := Lib.hid hSn
      have b3 := (gE.out.2.block _ (lt_of_heap gb2.out)).trans gb2.out
      have k0 := (cell_of_row W3 wr.heap.size 0 _ _ (0, 0) b3).trans (show _ = some (.int .u8 (t1 : Nat)) from rfl)
      have k1 := (cell_of_row W3 wr.heap.size 1 _ _ (0, 0) b3).trans (show _ = some (.int .u16 (t2 : Nat)) from rfl)
      have gAn := Lib.hid (show ∀ b, An = some ⟨b, 0, none⟩ → W2.heap.size ≤ b from fun b e => by
        obtain ⟨g, e2, h⟩ := hAn _ e
        cases e2
        exact h)
      clear hSn b3 gS8' gS9' hAn gb2 hcmn
      go_wp2_with fail
      refine (h_len gB3.out.has).mono ?_
      rintro e _ ⟨rfl, rfl⟩
      go_wp2_with fail
      refine (h_marked gB3.out.has).mono ?_
      rintro e _ ⟨rfl, rfl⟩
      go_wp2_with fail
      refine (h_marked gB3.out.has).mono ?_
      rintro e _ ⟨rfl, rfl⟩
      have d1 : decide (l'.length < mk') = false := by have := gbd2.out; simp; omega
      have gBn := Lib.hid (g2.out.1.fresh (S' := Both An An) gE.out.2 (fun b e => by
        have e' : An = some ⟨b, 0, none⟩ := e.elim id id
        exact gE.out.1.lt b (by rw [e']; rfl)))
      have hs4 := slice_to An l'.length cn mk' (by have := gbd2.out; omega)
      by_cases hc : t1 % 8 = 7 ∧ t2 % 4 = 0
      · have e7 : ((t1 : Nat) : Int) % 8 = 7 := by omega
        have e4 : ((t2 : Nat) : Int) % 4 = 0 := by omega
        have hmin : min (0 : Int) (l'.length : Int) = 0 := by omega
        have hs0 : ∀ w' : World, (Instr.slice 48 (.slice An l'.length cn) none (some (.int .i64 0)) none).run Try.prog w' = .ok (.slice An 0 cn) w' := slice_to An l'.length cn 0 (Nat.zero_le _)
        have hs00 : ∀ w' : World, (Instr.slice 48 (.slice none 0 0) none (some (.int .i64 0)) none).run Try.prog w' = .ok (.slice none 0 0) w' := slice_to none 0 0 0 (Nat.zero_le _)
        have gE1 := Lib.hid (equal_drawn (W := W3) (A := An) (C := none) (n := 0) (m := 0) (c := cn) (d := 0) (SL.nil _ _) (SL.nil _ _) (by decide) (by decide))
        have gE2 := gE1
        have hk3 : ((t1 : Nat) : Int) < 256 := by omega
        have hk4 : ((t2 : Nat) : Int) < 65536 := by omega
        have gcn := Lib.hid hcn
        clear hc hk1 hk2 gmv hc8 hc9 hcn
        go_wp2_with fail
        go_quiet ((go_at_call 29; first | (with_reducible exact Calls.quiet_of (gE1.out _)) | (with_reducible exact Calls.quiet_of (gE2.out _))))
        go_wp2_with fail
        refine (h_marked (gB3.out.below (below_draws W3 _)).has).mono ?_
        rintro e _ ⟨rfl, rfl⟩
        go_wp2_with fail
        go_roundw
        case rel => exact ⟨k + 1, by omega, by simp, An, cn, An, cn, mk', l', ⟨rfl, rfl⟩, gBn.out.below (below_draws W3 _), (gSn.out.take gbd2.out.1).below (below_draws W3 _), gSn.out.below (below_draws W3 _), by have := gbd2.out; have := gcn.out; omega, gcn.out⟩
        case measure => simp [intOf]; omega
      · have hkeep := mvd_keeps (most := q) (mk := mk) (l := l) gbd.out.1 hc
        rw [← gmv.out.2] at hkeep
        obtain ⟨sh, hsh⟩ : ∃ sh, sh = min l.length l'.length := ⟨_, rfl⟩
        have hmin : min (l.length : Int) (l'.length : Int) = (sh : Nat) := by omega
        have hsl1 : sh ≤ l.length := by omega
        have hsl2 : sh ≤ l'.length := by omega
        rw [← hsh] at hkeep
        have hs1 := slice_to An l'.length cn mk (by omega)
        have hs2 := slice_to An l'.length cn sh (by omega)
        have hs3 := slice_to A9 l.length c9 sh (by omega)
        have d2 : decide (l'.length < mk) = false := by simp; omega
        have gE1 := Lib.hid (equal_drawn (W := W3) (c := cn) (d := c8) (show SL W3 An mk (l.take mk) from by rw [← hkeep.2.1]; exact gSn.out.take hkeep.1) gS8.out (by have := gbd.out; omega) (by have := gbd.out; omega))
        have gE2 := Lib.hid (equal_drawn (W := W3) (c := cn) (d := c9) (show SL W3 An sh (l.take sh) from by rw [← hkeep.2.2]; exact gSn.out.take hsl2) (gS9.out.take hsl1) (by have := gbd.out; omega) (by have := gbd.out; omega))
        have gcn := Lib.hid hcn
        clear hkeep hsh hsl1 hsl2 gmv hc8 hc9 hcn
        by_cases h7 : t1 % 8 = 7
        · have e7 : ((t1 : Nat) : Int) % 8 = 7 := by omega
          have e4 : (((t2 : Nat) : Int) % 4 == 0) = false := by simp; omega
          have hk3 : ((t1 : Nat) : Int) < 256 := by omega
          have hk4 : ((t2 : Nat) : Int) < 65536 := by omega
          clear hc h7 hk1 hk2
          go_wp2_with fail
          go_quiet ((go_at_call 29; first | (with_reducible exact Calls.quiet_of (gE1.out _)) | (with_reducible exact Calls.quiet_of (gE2.out _))))
          go_wp2_with fail
          refine (h_marked (gB3.out.below (below_draws W3 _)).has).mono ?_
          rintro e _ ⟨rfl, rfl⟩
          go_wp2_with fail
          go_roundw
          case rel => exact ⟨k + 1, by omega, by simp, An, cn, An, cn, mk', l', ⟨rfl, rfl⟩, gBn.out.below (below_draws W3 _), (gSn.out.take gbd2.out.1).below (below_draws W3 _), gSn.out.below (below_draws W3 _), by have := gbd2.out; have := gcn.out; omega, gcn.out⟩
          case measure => simp [intOf]; omega
        · have e7 : (((t1 : Nat) : Int) % 8 == 7) = false := by simp; omega
          have hk3 : ((t1 : Nat) : Int) < 256 := by omega
          have hk4 : ((t2 : Nat) : Int) < 65536 := by omega
          clear hc h7 hk1 hk2
          go_wp2_with fail
          go_quiet ((go_at_call 29; first | (with_reducible exact Calls.quiet_of (gE1.out _)) | (with_reducible exact Calls.quiet_of (gE2.out _))))
          go_wp2_with fail
          refine (h_marked (gB3.out.below (below_draws W3 _)).has).mono ?_
          rintro e _ ⟨rfl, rfl⟩
          go_wp2_with fail
          go_roundw
          case rel => exact ⟨k + 1, by omega, by simp, An, cn, An, cn, mk', l', ⟨rfl, rfl⟩, gBn.out.below (below_draws W3 _), (gSn.out.take gbd2.out.1).below (below_draws W3 _), gSn.out.below (below_draws W3 _), by have := gbd2.out; have := gcn.out; omega, gcn.out⟩
          case measure => simp [intOf]; omega
    · obtain rfl : k = m := by omega
      clear hsl hmi gM gS8 gS9 hk
      go_wp2_with fail
      refine (works_any _).mono ?_
      rintro e wz ⟨rfl, hBz⟩
      have gz := Lib.hid (gB.out.has.low.trans (hBz.mono gB.out.has.low.size))
      clear hBz
      go_wp2_with fail
      go_ret
      exact ⟨rfl, gz.out⟩
end Go.Proofs.Ytidkdidlndfbfaa
