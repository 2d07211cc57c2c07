/- The walk of filled. -/
import Derived.Test.YtlfigdembgkkoaaIIFill
namespace Go.Proofs.Ytlfigdembgkkoaa.II
open Go.RowKit Go.Maps

theorem call_at {w : World} {A : Option Addr} {n : Nat} {cs : List C} (h : CS w A n cs) {k : Nat} (hk : k < n) : ∃ b o c, A = some ⟨b, o, none⟩ ∧ b < w.heap.size ∧ cs[k]? = some c ∧ K16 c.2.1 ∧ K16 c.2.2 ∧
    w.cell? ⟨b, o + k * 3, none⟩ = some (.bool c.1) ∧ w.cell? ⟨b, o + k * 3 + 1, none⟩ = some (.int .i16 c.2.1) ∧ w.cell? ⟨b, o + k * 3 + 1 + 1, none⟩ = some (.int .i16 c.2.2) := by
  obtain ⟨b, o, rfl, hb, hc⟩ := h.2.2 (by omega)
  have hj : k < cs.length := by rw [h.1]; exact hk
  have e : cs[k]? = some cs[k] := List.getElem?_eq_getElem hj
  have h1 := h.2.1 _ (List.getElem_mem hj)
  exact ⟨b, o, _, rfl, hb, e, h1.1, h1.2, hc k _ e⟩

set_option maxRecDepth 100000 in
set_option maxHeartbeats 4000000 in
theorem filled_some (b o n cap : Nat) (cs : List C) (w : World) (h : CS w (some ⟨b, o, none⟩) n cs) (hcap : n ≤ cap ∧ cap ≤ 9223372036854775807) :
    Calls Try.prog 22 #[.slice (some ⟨b, o, none⟩) n cap] w (FilledOf w cs) := by
  have gC := Lib.hid h
  clear h
  have hmm := @run_makeMap Try.prog
  obtain ⟨m, hm⟩ : ∃ m, m = min n 100 := ⟨_, rfl⟩
  have hmn : m ≤ n ∧ m ≤ 100 := by omega
  have hmi : min (n : Int) 100 = (m : Int) := by omega
  have gm := Lib.hid hm
  clear hm
  go_enter Try.func22, Try.ntmps22
  go_wp2_with (go_at_call 88; refine (new_any _).mono ?_; rintro e w1 ⟨rfl, hO, hB⟩; have gT := Lib.hid (two_new hO hB); clear hO hB)
  clear hmi
  go_loopw [26] (fun i wr => ∃ k : Nat, k ≤ m ∧ i = .int .i64 k ∧ ∃ v D, Two w wr w.heap.size w1.heap.size k v (fills [] (cs.take k)) D) (fun i _ => m - (intOf i).toNat)
  case atStart => exact ⟨0, Nat.zero_le _, rfl, _, _, gT.out⟩
  case round =>
    clear gT
    obtain ⟨k, hk, rfl, v, D, hT⟩ := hrel
    obtain ⟨l, hl⟩ : ∃ l, l = fills [] (cs.take k) := ⟨_, rfl⟩
    have hlen : l.length < 1000000 := by rw [hl]; have := fills_len cs k; omega
    rw [← hl] at hT
    have gl := Lib.hid hl
    have gT := Lib.hid hT
    clear hT hl
    by_cases hlt : k < m
    · obtain ⟨b', o', ⟨d, kk, x⟩, eA, hb, hc, h16, h16', c0, c1, c2⟩ := call_at gC.out (k := k) (by omega)
      obtain ⟨rfl, rfl⟩ : b = b' ∧ o = o' := by simpa using eA
      have gc := Lib.hid hc
      have hB := gT.out.bel
      have c0 := (hB.cell hb).trans c0
      have c1 := (hB.cell hb).trans c1
      have c2 := (hB.cell hb).trans c2
      have g16 := Lib.hid h16
      obtain ⟨y, hy⟩ : ∃ y, y = getL lt l kk z0 := ⟨_, rfl⟩
      obtain ⟨bb, hbb⟩ : ∃ bb, bb = hasB lt (keysOf l) kk := ⟨_, rfl⟩
      have gy := Lib.hid hy
      have gb := Lib.hid hbb
      have k1 := h16.1
      have k2 := h16.2
      have k3 := h16'.1
      have k4 := h16'.2
      have gln := Lib.hid hlen
      clear eA hc hB h16 h16' hy hbb hlen
      dsimp only at c0 c1 c2 k1 k2 k3 k4
      go_wp2_with fail
      go_region
      go_wp2_with (first
        | (at_lookup; refine lookup_is _ (gT.out.below (by go_grown)) rfl _ _ rfl rfl rfl g16.out gy.out gb.out ?_)
        | (go_at_call 39; refine (del_f gT.out (by go_grown) gy.out gb.out).mono ?_; rintro e w2 ⟨rfl, gd⟩)
        | (go_at_call 40; refine (set_f gT.out (by go_grown) gln.out gy.out gb.out).mono ?_; rintro e w2 ⟨rfl, gd⟩)
        | (at_delete; refine wpList_delete_own _ rfl _ _ 47 3 rfl 3 law3 Try.underlying47 _ _ k D rfl gd.out.map _ _ rfl (key16 g16.out) ?_; intro w3 hm3 ht3; have g3 := Lib.hid (gd.out.ends hm3 ht3.grown); clear hm3 ht3)
        | (at_mapUpdate; refine wpList_mapUpdate_own _ rfl _ _ _ 47 rfl 3 3 law3 Try.underlying47 _ _ k D rfl gd.out.map (by unfold maxLen; omega) _ _ _ rfl rfl (key16 g16.out) _ [] (plainElem_int Try.underlying3 (WalkArith.wf_i64 (by omega))) ?_; intro w3 hm3 hg3; have g3 := Lib.hid (gd.out.ends hm3 hg3); clear hm3 hg3))
      · have hd : d = true := by assumption
        go_roundw
        case rel =>
          obtain ⟨v', D', h3⟩ := g3.out
          refine ⟨k + 1, by omega, by go_num, v', D', ?_⟩
          rw [fills_take gc.out, ← gl.out]
          subst hd
          exact h3
        case measure => simp [intOf]; omega
      · have hd : d = false := by assumption
        go_roundw
        case rel =>
          obtain ⟨v', D', h3⟩ := g3.out
          refine ⟨k + 1, by omega, by go_num, v', D', ?_⟩
          rw [fills_take gc.out, ← gl.out]
          subst hd
          exact h3
        case measure => simp [intOf]; omega
    · have hkm : k = m := by omega
      go_wp2_with fail
      go_ret3
      refine ⟨_, _, rfl, k, v, D, by omega, ?_⟩
      have e : fill cs = l := by
        rw [gl.out]
        unfold fill
        rw [List.take_eq_take_iff.2]
        rw [gC.out.1, hkm, gm.out]
        omega
      rw [e]
      exact gT.out
set_option maxRecDepth 100000 in
theorem filled_zero (A : Option Addr) (cap : Nat) (hcap : cap ≤ 9223372036854775807) (w : World) : Calls Try.prog 22 #[.slice A 0 cap] w (FilledOf w []) := by
  have hmm := @run_makeMap Try.prog
  cases A with
  | none =>
    go_enter Try.func22, Try.ntmps22
    go_wp2_with (go_at_call 88; refine (new_any _).mono ?_; rintro e w1 ⟨rfl, hO, hB⟩; have gT := Lib.hid (two_new hO hB); clear hO hB)
    refine wp_loop_rounds 1 ?_
    rw [rounds_succ]
    go_wp2_with fail
    go_ret3
    exact ⟨_, _, rfl, 0, _, _, Nat.zero_le _, gT.out⟩
  | some a =>
    go_enter Try.func22, Try.ntmps22
    go_wp2_with (go_at_call 88; refine (new_any _).mono ?_; rintro e w1 ⟨rfl, hO, hB⟩; have gT := Lib.hid (two_new hO hB); clear hO hB)
    refine wp_loop_rounds 1 ?_
    rw [rounds_succ]
    go_wp2_with fail
    go_ret3
    exact ⟨_, _, rfl, 0, _, _, Nat.zero_le _, gT.out⟩
theorem filled_any (A : Option Addr) (n cap : Nat) (cs : List C) (w : World) (h : CS w A n cs) (hcap : n ≤ cap ∧ cap ≤ 9223372036854775807) :
    Calls Try.prog 22 #[.slice A n cap] w (FilledOf w cs) := by
  rcases Nat.eq_zero_or_pos n with rfl | h0
  · obtain rfl : cs = [] := List.eq_nil_of_length_eq_zero h.1
    exact filled_zero A cap hcap.2 w
  · obtain ⟨b, o, rfl, _⟩ := h.2.2 h0
    exact filled_some b o n cap cs w h hcap
end Go.Proofs.Ytlfigdembgkkoaa.II
