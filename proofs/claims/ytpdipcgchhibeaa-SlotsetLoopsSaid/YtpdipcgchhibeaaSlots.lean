/- slots: the list of a row's slots. -/
import Derived.Test.YtpdipcgchhibeaaFill
import Derived.Maps.AppendAt
namespace Go.Proofs.Ytpdipcgchhibeaa
open Go.RowKit
def vs (l : List Nat) : List Value := l.map fun x => .int .i64 (x : Nat)
theorem length_vs (l : List Nat) : (vs l).length = l.length := List.length_map ..
theorem vs_append (a b : List Nat) : vs (a ++ b) = vs a ++ vs b := List.map_append
theorem vs_one (l : List Nat) : ∀ v ∈ vs l, v.oneCell' = true := fun v h => by
  obtain ⟨z, _, rfl⟩ := List.mem_map.1 h
  rfl
theorem vs_some {l : List Nat} {i x : Nat} (h : l[i]? = some x) : (vs l)[i]? = some (.int .i64 (x : Nat)) := by
  unfold vs
  rw [List.getElem?_map, h]
  rfl
theorem infoI : (Try.prog.info? 3).map (fun i => (i.zero, i.size, i.bytes)) = some (some (.int .i64 0), 1, 8) := by kernel_rfl
/-- An own row is a slice that reads as its list. -/
theorem owns_sl {w : World} {B : Nat} {v : Value} {l : List Nat} (h : w.ownsRow B 3 1 v l.length (vs l)) : ∃ A c, v = .slice A l.length c ∧ SL w A l := by
  rcases h.2 with ⟨rfl, h0⟩ | ⟨g, cap, cur, rfl, hg, hh, hc, hm, _⟩
  · obtain rfl : l = [] := List.eq_nil_of_length_eq_zero h0
    exact ⟨none, 0, rfl, SL.nil _ _⟩
  · refine ⟨some ⟨g, 0, none⟩, cap, rfl, fun _ => ⟨g, rfl, fun i x hx => ?_⟩⟩
    have := h.cells (g := g) rfl i _ (vs_some hx)
    rwa [add_plain, Nat.zero_add] at this
/-- A row of bools: which slots below n are there. -/
def Row (w : World) (R n m : Nat) : Prop := w.heap[R]? = some (.cells (bools n m) 4 (0, 0))
theorem Row.below {w w' : World} {R n m : Nat} (h : Row w R n m) (hb : Below w.heap.size w w') : Row w' R n m := (hb.block R (lt_of_heap h)).trans h
theorem Row.at {w : World} {R n m i : Nat} (h : Row w R n m) (hi : i < n) : w.cell? ⟨R, i, none⟩ = some (.bool (m.testBit i)) := (cell_of_row w R i _ _ (0, 0) h).trans (bools_get hi)
set_option maxRecDepth 100000 in
set_option maxHeartbeats 2000000 in
theorem slots_any {w : World} {R n m c : Nat} (h : Row w R n m) (hn : n ≤ 34) (hm : m < 2 ^ n) :
    Calls Try.prog 38 #[.slice (some ⟨R, 0, none⟩) n c] w fun e w' => ∃ v, e = .returned v ∧ Hid (w'.ownsRow w.heap.size 3 1 v (sl m).length (vs (sl m)) ∧ Below w.heap.size w w') := by
  obtain ⟨i0, hinf, hz0, hz1, hz2⟩ := info_parts infoI
  have gR := Lib.hid h
  have gm := Lib.hid (sl_range hm (show n ≤ 64 by omega))
  obtain ⟨B, hB⟩ : ∃ B, B = w.heap.size := ⟨_, rfl⟩
  have gB := Lib.hid hB
  clear h hm
  go_enter Try.func38, Try.ntmps38
  go_wp2_with fail
  go_loopw [3, 4] (fun v i wr => ∃ k : Nat, k ≤ n ∧ i = .int .i64 (k : Nat) ∧ Hid (wr.ownsRow B 3 1 v (low m k).length (vs (low m k)) ∧ Below B w wr)) (fun _ i _ => n - (intOf i).toNat)
  case atStart => exact ⟨0, Nat.zero_le _, rfl, World.ownsRow_nil _ _ _ _, Below.refl _ _⟩
  case round =>
    obtain ⟨k, hk, rfl, gI⟩ := hrel
    by_cases hlt : k < n
    · have hc := (gR.out.below (gB.out ▸ gI.out.2)).at hlt
      cases hset : m.testBit k with
      | false =>
        rw [hset] at hc
        have gN := Lib.hid gI.out
        rw [← low_no hset] at gN
        clear hset hB
        go_wp2_with fail
        go_roundw
        case rel => exact ⟨k + 1, by omega, by simp, gN.out⟩
        case measure => simp [intOf]; omega
      | true =>
        rw [hset] at hc
        have gset := Lib.hid hset
        have hrow := gI.out.1
        have hlen : (low m k).length ≤ 34 := by
          unfold low
          exact Nat.le_trans (List.length_filter_le _ _) (by rw [List.length_range]; omega)
        have hsz : B ≤ wr.heap.size := by rw [hB]; exact gI.out.2.size |> fun h => by omega
        obtain ⟨r, hr⟩ : ∃ r, r = (low m k).length := ⟨_, rfl⟩
        rw [← hr] at hrow hlen
        have grow := Lib.hid hrow
        have gr := Lib.hid hr
        clear hset hB hr hrow
        go_wp2_with (at_builtin; refine wpList_append_own_at _ rfl _ _ 24 rfl B 3 i0 _ 1 8 Try.underlying24 hinf hz0 hz1 hz2 rfl (by decide) _ _ _ rfl (grow.out.alloc _) ⟨wr.heap.size, 0, none⟩ 1 1 (vs [k]) rfl rfl (cell_one_new _ _ _) (vs_one _) (by unfold maxLen; omega) (by omega) (by simp; omega) ?_
                     intro v2 w2 hr2 hg2 _ hat2
                     have gE := Lib.hid (And.intro hr2 hg2)
                     clear hr2 hg2 hat2)
        go_roundw
        case rel =>
          refine ⟨k + 1, by omega, by simp, ?_, ?_⟩
          · rw [low_yes gset.out, List.length_append, vs_append, ← gr.out]
            exact gE.out.1
          · have hb1 : Below B w (wr.alloc (.cells #[.int .i64 (k : Nat)] 3)) := gI.out.2.alloc hsz _
            exact hb1.grown gE.out.2 (by simp; omega) (fun g e => (grow.out.lt g e).1)
        case measure => simp [intOf]; omega
    · obtain rfl : k = n := by omega
      have gE := Lib.hid (show wr.ownsRow w.heap.size 3 1 u3 (sl m).length (vs (sl m)) ∧ Below w.heap.size w wr from by
        have h := gI.out
        unfold low at h
        rwa [gm.out, gB.out] at h)
      go_wp2_with fail
      go_ret
      exact ⟨_, rfl, gE.out⟩
end Go.Proofs.Ytpdipcgchhibeaa
