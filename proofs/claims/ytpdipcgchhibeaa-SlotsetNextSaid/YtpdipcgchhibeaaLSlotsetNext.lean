/- SlotsetNext: the walk. -/
import Derived.Test.YtpdipcgchhibeaaUse
namespace Go.Proofs.Ytpdipcgchhibeaa
open Go.RowKit
theorem sl_sorted (m : Nat) : (sl m).Pairwise (· < ·) := by
  unfold sl
  exact List.Pairwise.filter _ List.pairwise_lt_range
/-- What stands at the loop's head. -/
structure At (w : World) (B P R n m k : Nat) (f : Int) (v : Value) (wr : World) : Prop where
  row : wr.ownsRow B 3 1 v k (vs ((sl m).take k))
  done : ∀ y ∈ (sl m).take k, (y : Int) < f
  todo : ∀ y ∈ (sl m).drop k, f ≤ (y : Int)
  hold : Hold w P n m wr
  rows : Row wr R n m
  hB : w.heap.size ≤ B
  big : B ≤ wr.heap.size
  ltP : P < B
  ltR : R < B
theorem At.below {w wr w' : World} {B P R n m k : Nat} {f : Int} {v : Value} (h : At w B P R n m k f v wr) (hb : Below wr.heap.size wr w') : At w B P R n m k f v w' :=
  ⟨owns_below h.row hb, h.done, h.todo, h.hold.below hb, h.rows.below hb, h.hB, Nat.le_trans h.big hb.size, h.ltP, h.ltR⟩
theorem At.found {w wr : World} {B P R n m k x : Nat} {f : Int} {v : Value} (h : At w B P R n m k f v wr) (hx : (sl m)[k]? = some x) : found m f = some x := by
  refine found_at (pre := (sl m).take k) ?_ h.done (h.todo x ?_)
  · rw [← take_snoc hx]
    exact List.take_prefix _ _
  · rw [List.drop_eq_getElem_cons (List.getElem?_eq_some_iff.1 hx).1, (List.getElem?_eq_some_iff.1 hx).2]
    exact List.mem_cons_self ..
theorem At.more {w wr w1 : World} {B P R n m k x : Nat} {f : Int} {v v' : Value} (h : At w B P R n m k f v wr) (hx : (sl m)[k]? = some x)
    (hr : w1.ownsRow B 3 1 v' (k + 1) (vs ((sl m).take k) ++ vs [x])) (hg : (wr.alloc (.cells #[.int .i64 (x : Nat)] 3)).grownBy w1 v.ownBlock) : At w B P R n m (k + 1) ((x : Int) + 1) v' w1 := by
  have hb : Below B wr w1 := ((Below.refl B wr).alloc h.big _).grown hg (by have := h.big; simp; omega) (fun g e => (h.row.lt g e).1)
  have hB := h.hB
  have hk := (List.getElem?_eq_some_iff.1 hx).1
  have hxe := (List.getElem?_eq_some_iff.1 hx).2
  refine ⟨by rw [take_snoc hx, vs_append]; exact hr, fun y hy => ?_, fun y hy => ?_, ⟨h.hold.set.same (hb.block P h.ltP), h.hold.hP, h.hold.low.trans (hb.mono hB)⟩, (hb.block R h.ltR).trans h.rows, hB, Nat.le_trans h.big hb.size, h.ltP, h.ltR⟩
  · rw [take_snoc hx] at hy
    rcases List.mem_append.1 hy with h1 | h1
    · have h2 := sl_sorted m
      rw [← List.take_append_drop k (sl m), List.drop_eq_getElem_cons hk, hxe] at h2
      have := (List.pairwise_append.1 h2).2.2 y h1 x (List.mem_cons_self ..)
      omega
    · rw [List.mem_singleton.1 h1]
      omega
  · have h2 := sl_sorted m
    rw [← List.take_append_drop k (sl m), List.drop_eq_getElem_cons hk, hxe] at h2
    have h3 := (List.pairwise_cons.1 (List.pairwise_append.1 h2).2.1).1 y hy
    omega
set_option maxRecDepth 100000 in
set_option maxHeartbeats 8000000 in
theorem slotsetNext_walk (a0 : Int) (a1 : Option Addr) (len1 cap1 : Nat) (z1 : List Int) (w : World) (w0 : (Lit.int .u8 a0).wf = true) (w1 : IsRow .u8 w a1 len1 cap1 z1) :
    Calls Try.prog 6 #[.int .u8 a0, .slice a1 len1 cap1] w fun e w' => e = .returned (.bool true) ∧ Below w.heap.size w w' := by
  obtain ⟨s, rfl, hs⟩ := nat_of_u8 w0
  obtain ⟨i0, hinf, hz0, hz1, hz2⟩ := info_parts infoI
  have hlen := w1.len
  have gl := Lib.hid w1.bn
  obtain ⟨ns, hns⟩ : ∃ ns, ns = nums len1 z1 := ⟨_, rfl⟩
  rw [← hns] at gl
  clear w0 w1 hns
  by_cases h200 : 200 < len1
  · go_enter Try.func6, Try.ntmps6
    go_wp2_with fail
    refine (works_any _).mono ?_
    rintro e w' ⟨rfl, hb⟩
    have gb := Lib.hid hb
    clear hb
    go_wp2_with fail
    go_ret
    exact ⟨rfl, gb.out⟩
  · have h200' : len1 ≤ 200 := by omega
    have gs := Lib.hid hs
    clear hs
    go_enter Try.func6, Try.ntmps6
    go_wp2_with fail
    refine (filled_any s a1 len1 cap1 ns w gl.out (by omega) gs.out).mono ?_
    rintro e W1 ⟨P, R, rfl, gF⟩
    obtain ⟨n, hn⟩ : ∃ n, n = 1 + s % 34 := ⟨_, rfl⟩
    obtain ⟨m, hm⟩ : ∃ m, m = fillN (1 + s % 34) ns := ⟨_, rfl⟩
    rw [← hm, ← hn] at gF
    rw [← hn]
    clear hn hm
    have hn34 : n ≤ 34 := gF.out.set.le
    have hNn : (sl m).length ≤ n := sl_len gF.out.set.lt (by omega)
    obtain ⟨N, hN⟩ : ∃ N, N = (sl m).length := ⟨_, rfl⟩
    rw [← hN] at hNn
    have gN := Lib.hid hN
    have gA0 := Lib.hid (show At w W1.heap.size P R n m 0 (-4611686018427387904) (.slice none 0 0) W1 from
      ⟨World.ownsRow_nil _ _ _ _, fun y hy => by simp at hy, fun y _ => by omega, gF.out.hold, gF.out.rows, gF.out.low.size, Nat.le_refl _, gF.out.set.blt, lt_of_heap gF.out.row⟩)
    obtain ⟨B, hB⟩ : ∃ B, B = W1.heap.size := ⟨_, rfl⟩
    rw [← hB] at gA0
    clear gF gl gs h200 h200' hlen hN hB
    go_wp2_with fail
    go_loopw [7, 8, 9] (fun v f c wr => ∃ (k : Nat) (x : Int), k ≤ N ∧ c = .int .i64 (k : Nat) ∧ f = .int .i64 x ∧ Hid (At w B P R n m k x v wr)) (fun _ _ c _ => N + 1 - (intOf c).toNat)
    case atStart => exact ⟨0, _, Nat.zero_le _, rfl, rfl, gA0.out⟩
    case round =>
      obtain ⟨k, x, hk, rfl, rfl, gA⟩ := hrel
      have hkn : (k : Int) ≤ (n : Int) := by omega
      by_cases hlt : k < N
      · obtain ⟨y, hy⟩ : ∃ y, (sl m)[k]? = some y := ⟨_, List.getElem?_eq_getElem (by rw [← gN.out]; exact hlt)⟩
        have hf := gA.out.found hy
        have en := Lib.hid (show nxt m x = y by unfold nxt; rw [hf]; rfl)
        have eo := Lib.hid (show nok m x = true by unfold nok; rw [hf]; rfl)
        have hy64 : y < 64 := by have := sl_lt gA.out.hold.set.lt (show n ≤ 64 by omega) (List.mem_of_getElem? hy); omega
        have gy := Lib.hid hy
        clear gA0 hy hf
        go_wp2_with fail
        refine (h_next gA.out.hold x).mono ?_
        rintro e W2 ⟨rfl, hb⟩
        rw [en.out, eo.out]
        have g2 := Lib.hid (gA.out.below hb)
        clear hb gA en eo
        have y0 : (0 : Int) ≤ (y : Int) := by omega
        go_wp2_with (at_builtin; refine wpList_append_own_at _ rfl _ _ 24 rfl B 3 i0 _ 1 8 Try.underlying24 hinf hz0 hz1 hz2 rfl (by decide) _ _ _ rfl (g2.out.row.alloc _) ⟨W2.heap.size, 0, none⟩ 1 1 (vs [y]) rfl rfl (cell_one_new _ _ _) (vs_one _) (by unfold maxLen; omega) (by omega) (by have := g2.out.big; simp; omega) ?_
                     intro v2 w2 hr2 hg2 _ hat2
                     have gE := Lib.hid (g2.out.more gy.out hr2 hg2)
                     clear hr2 hg2 hat2)
        go_roundw
        case rel => exact ⟨k + 1, _, by omega, by simp, rfl, gE.out⟩
        case measure => simp [intOf] <;> omega
      · obtain rfl : k = N := by omega
        have hf : found m x = none := found_none fun y hy => gA.out.done y (by rw [gN.out, List.take_length]; exact hy)
        have eo := Lib.hid (show nok m x = false by unfold nok; rw [hf]; rfl)
        clear gA0 hf hlt
        go_wp2_with fail
        refine (h_next gA.out.hold x).mono ?_
        rintro e W2 ⟨rfl, hb⟩
        rw [eo.out]
        have g2 := Lib.hid (gA.out.below hb)
        clear hb gA eo
        go_wp2_with fail
        refine (slots_is g2.out.rows hn34 g2.out.hold.set.lt).mono ?_
        rintro e W3 ⟨A, d, rfl, gL⟩
        have g3 := Lib.hid (g2.out.below gL.out.2)
        rw [← gN.out]
        have gS := Lib.hid gL.out.1
        have hrow : W3.ownsRow B 3 1 u7 (sl m).length (vs (sl m)) := by
          have h := g3.out.row
          rw [gN.out, List.take_length] at h
          exact h
        obtain ⟨A2, c2, hv, hS2⟩ := owns_sl hrow
        rw [← gN.out] at hv
        have gS2 := Lib.hid hS2
        have gH := Lib.hid g3.out.hold
        subst hv
        clear g2 g3 gL hrow hS2
        go_wp2_with fail
        obtain ⟨D, hD⟩ : ∃ D, D = W3 := ⟨_, rfl⟩
        rw [← hD] at gS gS2 gH
        rw [← hD]
        clear hD
        go_loopw [13] (fun c wr => ∃ j : Nat, j ≤ k ∧ c = .int .i64 (j : Nat) ∧ Hid (Below D.heap.size D wr)) (fun c _ => k - (intOf c).toNat)
        case atStart => exact ⟨0, Nat.zero_le _, rfl, Below.refl _ _⟩
        case round =>
          obtain ⟨j, hj, rfl, gD⟩ := hrel
          by_cases hlt : j < k
          · obtain ⟨y, hy⟩ : ∃ y, (sl m)[j]? = some y := ⟨_, List.getElem?_eq_getElem (by rw [← gN.out]; exact hlt)⟩
            obtain ⟨b, rfl, hc⟩ := (gS.out.below gD.out).at hy
            obtain ⟨b2, rfl, hc2⟩ := (gS2.out.below gD.out).at hy
            have j0 : (0 : Int) ≤ (j : Int) := by omega
            have j1 : (j : Int) < (k : Int) := by omega
            have gn := Lib.hid (fun q => bel_drewN gD.out q)
            clear hy hinf hz0 hz1 hz2 gN
            go_wp2_with fail
            go_quiet (fail)
            go_wp2_with fail
            go_roundw
            case rel => exact ⟨j + 1, by omega, by simp, gn.out _⟩
            case measure => simp [intOf] <;> omega
          · obtain rfl : j = k := by omega
            have gE := Lib.hid (gH.out.below gD.out)
            go_wp2_with fail
            refine (works_any _).mono ?_
            rintro e W7 ⟨rfl, hb⟩
            have gE2 := Lib.hid (gE.out.below hb).low
            clear hb
            go_wp2_with fail
            go_ret
            exact ⟨rfl, gE2.out⟩
end Go.Proofs.Ytpdipcgchhibeaa
