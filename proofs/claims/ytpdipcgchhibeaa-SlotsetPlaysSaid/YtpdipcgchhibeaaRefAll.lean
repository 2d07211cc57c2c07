/- The reference: All, Next, Lowest. -/
import Derived.Test.YtpdipcgchhibeaaRef
namespace Go.Proofs.Ytpdipcgchhibeaa
open Go.RowKit
/-- What All gives. -/
def Lists (w : World) (m : Nat) (e : Ending) (w' : World) : Prop := ∃ A d, e = .returned (.slice A (sl m).length d) ∧ Hid (SL w' A (sl m) ∧ Below w.heap.size w w')
theorem rall_none (w : World) : Calls Try.prog 34 #[.pointer none] w (Lists w 0) := by
  go_enter Try.func34, Try.ntmps34
  go_wp2_with fail
  refine wp_loop_rounds 1 ?_
  rw [rounds_succ]
  go_wp2_with fail
  refine (rvalid_none _).mono ?_
  rintro e _ ⟨rfl, rfl⟩
  go_wp2_with fail
  go_ret
  exact ⟨none, 0, rfl, SL.nil _ _, Below.refl _ _⟩
section
variable {w : World} {B R g c n m : Nat}
set_option maxRecDepth 100000 in
set_option maxHeartbeats 2000000 in
theorem rall_any (h : ROwn w B R g c n m) : Calls Try.prog 34 #[.pointer (some ⟨R, 0, none⟩)] w (Lists w m) := by
  obtain ⟨i0, hinf, hz0, hz1, hz2⟩ := info_parts infoI
  have gR := Lib.hid h
  have gm := Lib.hid (sl_range h.lt (show n ≤ 64 by have := h.le; omega))
  have hn : n ≤ 34 := h.le
  obtain ⟨Z, hZ⟩ : ∃ Z, Z = w.heap.size := ⟨_, rfl⟩
  have gB := Lib.hid hZ
  clear h
  go_enter Try.func34, Try.ntmps34
  go_wp2_with fail
  go_loopw [3, 4] (fun v i wr => ∃ k : Nat, k ≤ n ∧ i = .int .i64 (k : Nat) ∧ Hid (wr.ownsRow Z 3 1 v (low m k).length (vs (low m k)) ∧ Below Z w wr)) (fun _ i _ => n - (intOf i).toNat)
  case atStart => exact ⟨0, Nat.zero_le _, rfl, World.ownsRow_nil _ _ _ _, Below.refl _ _⟩
  case round =>
    obtain ⟨k, hk, rfl, gI⟩ := hrel
    have gW := Lib.hid (gR.out.below (gB.out ▸ gI.out.2))
    have c0 := gW.out.c0
    by_cases hlt : k < n
    · have hc := gW.out.at hlt
      have k0 : (0 : Int) ≤ (k : Int) := by omega
      have k1 : (k : Int) < (n : Int) := by omega
      have d1 : decide (k < n) = true := by simpa using hlt
      have d2 : decide ((k : Int) < (n : Int)) = true := by simpa using k1
      cases hset : m.testBit k with
      | false =>
        rw [hset] at hc
        have gN := Lib.hid gI.out
        rw [← low_no hset] at gN
        clear hset hZ
        go_wp2_with fail
        refine (rvalid_any gW.out).mono ?_
        rintro e _ ⟨rfl, rfl⟩
        go_wp2_with fail
        go_roundw
        case rel => exact ⟨k + 1, by omega, by simp, gN.out⟩
        case measure => simp [intOf] <;> omega
      | true =>
        rw [hset] at hc
        have gset := Lib.hid hset
        have hrow := gI.out.1
        have hlen : (low m k).length ≤ 34 := by
          unfold low
          exact Nat.le_trans (List.length_filter_le _ _) (by rw [List.length_range]; omega)
        have hsz : Z ≤ wr.heap.size := by have := gI.out.2.size; omega
        obtain ⟨r, hr⟩ : ∃ r, r = (low m k).length := ⟨_, rfl⟩
        rw [← hr] at hrow hlen
        have grow := Lib.hid hrow
        have gr := Lib.hid hr
        clear hset hZ hr hrow
        go_wp2_with fail
        refine (rvalid_any gW.out).mono ?_
        rintro e _ ⟨rfl, rfl⟩
        go_wp2_with (at_builtin; refine wpList_append_own_at _ rfl _ _ 24 rfl Z 3 i0 _ 1 8 Try.underlying24 hinf hz0 hz1 hz2 rfl (by decide) _ _ _ rfl (grow.out.alloc _) ⟨wr.heap.size, 0, none⟩ 1 1 (vs [k]) rfl rfl (cell_one_new _ _ _) (vs_one _) (by unfold maxLen; omega) (by omega) (by simp; omega) ?_
                     intro v2 w2 hr2 hg2 _ hat2
                     have gE := Lib.hid (And.intro hr2 hg2)
                     clear hr2 hg2 hat2)
        go_roundw
        case rel =>
          refine ⟨k + 1, by omega, by simp, ?_, ?_⟩
          · rw [low_yes gset.out, List.length_append, vs_append, ← gr.out]
            exact gE.out.1
          · have hb1 : Below Z w (wr.alloc (.cells #[.int .i64 (k : Nat)] 3)) := gI.out.2.alloc hsz _
            exact hb1.grown gE.out.2 (by simp; omega) (fun g e => (grow.out.lt g e).1)
        case measure => simp [intOf] <;> omega
    · obtain rfl : k = n := by omega
      have gE := Lib.hid (show wr.ownsRow w.heap.size 3 1 u3 (sl m).length (vs (sl m)) ∧ Below w.heap.size w wr from by
        have h := gI.out
        unfold low at h
        rwa [gm.out, gB.out] at h)
      have d1 : decide (k < k) = false := by simp
      have d2 : decide ((k : Int) < (k : Int)) = false := by simp
      clear hlt
      go_wp2_with fail
      refine (rvalid_any gW.out).mono ?_
      rintro e _ ⟨rfl, rfl⟩
      obtain ⟨A, d, hv, hS⟩ := owns_sl gE.out.1
      have gS := Lib.hid hS
      subst hv
      clear hS
      go_wp2_with fail
      go_ret
      exact ⟨A, d, rfl, gS.out, gE.out.2⟩
end
theorem fnd_step {l : List Nat} {k x : Nat} {f : Int} (hx : l[k]? = some x) (h : fnd (l.drop k) f = fnd l f) : if f ≤ (x : Int) then fnd l f = some x else fnd (l.drop (k + 1)) f = fnd l f := by
  rw [fnd_drop hx] at h
  split
  · rename_i e
    rw [if_pos e] at h
    exact h.symm
  · rename_i e
    rw [if_neg e] at h
    exact h
set_option maxRecDepth 100000 in
set_option maxHeartbeats 2000000 in
theorem rnext_of {w : World} {p : Option Addr} {m : Nat} (hA : Calls Try.prog 34 #[.pointer p] w (Lists w m)) (hm : (sl m).length ≤ 100) (f : Int) :
    Calls Try.prog 26 #[.pointer p, .int .i64 f] w fun e w' => e = .returned (.tuple #[.int .i64 (nxt m f : Nat), .bool (nok m f)]) ∧ Below w.heap.size w w' := by
  have gA := Lib.hid hA
  obtain ⟨N, hN⟩ : ∃ N, N = (sl m).length := ⟨_, rfl⟩
  have gN := Lib.hid hN
  rw [← hN] at hm
  clear hA hN
  go_enter Try.func26, Try.ntmps26
  go_wp2_with fail
  refine gA.out.mono ?_
  rintro e W ⟨A, d, rfl, gS⟩
  rw [← gN.out]
  go_wp2_with fail
  go_loop [7] (fun i => ∃ k : Nat, k ≤ N ∧ i = .int .i64 (k : Nat) ∧ Hid (fnd ((sl m).drop k) f = fnd (sl m) f)) (fun i => N - (intOf i).toNat)
  case atStart => exact ⟨0, Nat.zero_le _, rfl, rfl⟩
  case round =>
    obtain ⟨k, hk, rfl, gI⟩ := hrel
    by_cases hlt : k < N
    · obtain ⟨y, hy⟩ : ∃ y, (sl m)[k]? = some y := ⟨_, List.getElem?_eq_getElem (by rw [← gN.out]; exact hlt)⟩
      obtain ⟨b, rfl, hc⟩ := gS.out.1.at hy
      have gst := Lib.hid (fnd_step hy gI.out)
      have k0 : (0 : Int) ≤ (k : Int) := by omega
      have k1 : (k : Int) < (N : Int) := by omega
      clear hy
      by_cases hle : f ≤ (y : Int)
      · have e := gst.out
        rw [if_pos hle] at e
        have gE := Lib.hid (show Ending.returned (.tuple #[.int .i64 (y : Nat), .bool true]) = .returned (.tuple #[.int .i64 (nxt m f : Nat), .bool (nok m f)]) from by
          unfold nxt nok
          rw [show found m f = some y from e]
          rfl)
        clear e
        go_wp2_with fail
        go_ret2
        exact ⟨gE.out, gS.out.2⟩
      · have e := gst.out
        rw [if_neg hle] at e
        have gE := Lib.hid e
        have hle2 : (y : Int) < f := by omega
        clear e hle
        go_wp2_with fail
        go_round
        case rel => exact ⟨k + 1, by omega, by simp, gE.out⟩
        case measure => simp [intOf] <;> omega
    · obtain rfl : k = N := by omega
      have gE := Lib.hid (show Ending.returned (.tuple #[.int .i64 0, .bool false]) = .returned (.tuple #[.int .i64 (nxt m f : Nat), .bool (nok m f)]) from by
        have e := gI.out
        rw [gN.out, List.drop_length] at e
        unfold nxt nok
        rw [show found m f = none from e.symm]
        rfl)
      go_wp2_with fail
      go_ret2
      exact ⟨gE.out, gS.out.2⟩
theorem rlowest_of {w : World} {p : Option Addr} {m : Nat} (hA : Calls Try.prog 34 #[.pointer p] w (Lists w m)) (hm : (sl m).length ≤ 100) :
    Calls Try.prog 28 #[.pointer p] w fun e w' => e = .returned (.tuple #[.int .i64 (nxt m 0 : Nat), .bool (nok m 0)]) ∧ Below w.heap.size w w' := by
  have gA := Lib.hid hA
  clear hA
  go_enter Try.func28, Try.ntmps28
  go_wp2_with fail
  refine (rnext_of gA.out hm 0).mono ?_
  rintro e w' ⟨rfl, hb⟩
  have gb := Lib.hid hb
  clear hb
  go_wp2_with fail
  go_ret2
  exact ⟨rfl, gb.out⟩
end Go.Proofs.Ytpdipcgchhibeaa
