/- Read, Copy. -/
import Derived.Test.YtaohlblhfmlpbaaOps
import Derived.Laws.CopyOwn
import Derived.Laws.Rows
import Derived.Laws.Tables
import Derived.Deep.Onto
namespace Go.Proofs.Ytaohlblhfmlpbaa
open Go.RowKit
theorem made_cells (v : Value) (n : Nat) (h : v.cells = #[v]) : madeCells v.cells ((n : Int).toNat * 1) = Array.replicate n v := by
  apply Array.ext'
  have : madeCells v.cells ((n : Int).toNat * 1) = madeCells #[v] n := by rw [h]; simp
  rw [this, toList_madeCells_one]
  simp
theorem make_bytes (n c : Nat) (hm : n ≤ c) (h : c ≤ 9000) (w : World) : (Instr.makeSlice 23 (.int .i64 (n : Int)) (.int .i64 (c : Int))).run Try.prog w = .ok (.slice (some ⟨w.heap.size, 0, none⟩) n c) (w.alloc (.cells (Array.replicate c (.int .u8 0)) 5)) := by
  obtain ⟨i, hi, h1, h2, h3⟩ := info_parts infoE
  have := run_make (P := Try.prog) w 23 5 i _ Try.underlying23 hi h1 .i64 .i64 n c (by omega) (by omega) (by rw [h3]; omega) (by omega)
  rw [this, h2, made_cells _ _ (by simp [Value.cells])]
  rfl
section
variable {w : World} {B P sz d : Nat} {v : Value} {l : List E}
theorem read_out (h : IOwn w B P sz d v l) (i j : Int) (hi2 : i < 9223372036854775808) (hij : i < 0 ∨ j < 0 ∨ (l.length : Int) < i + j) : Calls Try.prog 27 #[.pointer (some ⟨P, 0, none⟩), .int .i64 i, .int .i64 j] w fun e w' => e = .returned (.tuple #[.slice none 0 0, .int .i64 3]) ∧ w = w' := by
  obtain ⟨A, c, rfl, _⟩ := owns_sl h.row
  have c0 := h.c0
  have c3 := h.c3
  have hl := h.le
  have hl2 := h.sz_le
  obtain ⟨m, hm⟩ : ∃ m, m = l.length := ⟨_, rfl⟩
  rw [← hm] at c3 hij hl
  clear h hm
  rcases Int.lt_or_le i 0 with h0 | h0
  · clear hij
    go_enter Try.func27, Try.ntmps27
    go_wp2_with (go_at_call 34; refine (valid_any _ _ c0).mono ?_; rintro e w' ⟨rfl, rfl⟩)
    go_ret2
    exact ⟨rfl, rfl⟩
  · have h1 : ¬ i < 0 := by omega
    rcases Int.lt_or_le j 0 with k0 | k0
    · clear hij
      go_enter Try.func27, Try.ntmps27
      go_wp2_with (go_at_call 34; refine (valid_any _ _ c0).mono ?_; rintro e w' ⟨rfl, rfl⟩)
      go_ret2
      exact ⟨rfl, rfl⟩
    · have k1 : ¬ j < 0 := by omega
      have k2 : (m : Int) - i < j := by omega
      clear hij
      go_enter Try.func27, Try.ntmps27
      go_wp2_with (go_at_call 34; refine (valid_any _ _ c0).mono ?_; rintro e w' ⟨rfl, rfl⟩)
      go_ret2
      exact ⟨rfl, rfl⟩
set_option maxHeartbeats 1000000 in
theorem read_any (h : IOwn w B P sz d v l) (i j : Nat) (hij : i + j ≤ l.length) : Calls Try.prog 27 #[.pointer (some ⟨P, 0, none⟩), .int .i64 (i : Nat), .int .i64 (j : Nat)] w fun e w' => e = .returned (.tuple #[.slice (some ⟨w.heap.size, 0, none⟩) j j, .int .i64 0]) ∧
    Hid (w'.ownsRow w.heap.size 5 1 (.slice (some ⟨w.heap.size, 0, none⟩) j j) j (vs ((l.drop i).take j)) ∧ Below w.heap.size w w') := by
  obtain ⟨A, c, rfl, hA, hc, hcm, hs, _⟩ := owns_sl h.row
  have c0 := h.c0
  have c3 := h.c3
  have hl := h.le
  have hl2 := h.sz_le
  obtain ⟨m, hm⟩ : ∃ m, m = l.length := ⟨_, rfl⟩
  have gm := Lib.hid hm
  rw [← hm] at c3 hij hl hc hA
  have elen : ((l.drop i).take j).length = j := by rw [List.length_take, List.length_drop]; omega
  have h1 : ¬ (i : Int) < 0 := by omega
  have k1 : ¬ (j : Int) < 0 := by omega
  have k2 : ¬ (m : Int) - (i : Int) < (j : Int) := by omega
  have i1 : (i : Int) + (j : Int) ≤ (c : Int) := by omega
  have i2 : (0 : Int) ≤ (i : Int) + (j : Int) := by omega
  have j1 : i + j ≤ c := by omega
  have j2 : i ≤ i + j := by omega
  have j3 : ((i : Int) + (j : Int)).toNat = i + j := by omega
  obtain ⟨X, hX, hsrc⟩ : ∃ X, (∀ w' : World, (Instr.slice 23 (.slice A m c) (some (.int .i64 (i : Int))) (some (.int .i64 ((i : Int) + (j : Int)))) (some (.int .i64 ((i : Int) + (j : Int))))).run Try.prog w' = .ok (.slice X j j) w') ∧
      (0 < j → ∃ ad, X = some ad ∧ ∀ q u, (vs ((l.drop i).take j))[q]? = some u → w.cell? (ad.add q) = some u) := by
    refine ⟨if j = 0 then A else Option.map (fun x => x.add i) A, fun w' => ?_, fun hj => ?_⟩
    · have i3 : ¬ (c : Int) < (i : Int) + (j : Int) := by omega
      simp [Instr.slice, run_underlying Try.underlying23, Instr.sliceBounds, Instr.sliceBound, asIntOf, i2, i3, j2, j3, Try.sizeOf5]
    · obtain ⟨a, rfl, hc2⟩ := hs.2 (by omega)
      obtain ⟨g, hg, _, _⟩ := ‹∀ b, some a = some b → _› a rfl
      subst hg
      refine ⟨⟨g, i, none⟩, ?_, fun q u hq => ?_⟩
      · rw [if_neg (by omega), Option.map_some, add_plain, Nat.zero_add]
      · obtain ⟨x, hx, rfl⟩ := vs_at hq
        rw [List.getElem?_take] at hx
        split at hx
        · rw [List.getElem?_drop] at hx
          have := hc2 (i + q) x hx
          rw [add_plain, Nat.zero_add] at this
          rw [add_plain]
          exact this
        · cases hx
  have gsrc := Lib.hid hsrc
  have glen := Lib.hid elen
  have hmk := make_bytes j j (Nat.le_refl _) (by omega)
  have hone := vs_one ((l.drop i).take j)
  obtain ⟨cs, hcs⟩ : ∃ cs, cs = vs ((l.drop i).take j) := ⟨_, rfl⟩
  have gcs := Lib.hid hcs
  have clen : cs.length = j := by rw [hcs, length_vs, elen]
  rw [← hcs] at hone
  clear h hm hA hs hsrc elen hcs hl hl2 hij
  go_enter Try.func27, Try.ntmps27
  go_wp2_with first
    | (go_at_call 34; refine (valid_any _ _ c0).mono ?_; rintro e w' ⟨rfl, rfl⟩)
    | (refine wpList_copy_splice rfl (.tmp 44) (.tmp 45) 23 23 rfl 5 Try.underlying23 sizeE _ _ j j j j rfl rfl w.heap.size 0 (List.replicate j (.int .u8 0)) 5 ?qa cs (by rw [clen]; exact (Nat.min_self j).symm) ?qb (by simp [clen]) hone w.heap.size w ?qc (Nat.le_refl _) ?_
       case qa =>
         rw [List.toArray_replicate]
         exact World.alloc_heap_new _ _
       case qb =>
         intro hp
         obtain ⟨ad, e, hc⟩ := gsrc.out (by omega)
         refine ⟨rfl, ad, e, fun q u hq => ?_⟩
         rw [gcs.out] at hq
         exact Lib.cell?_alloc_some _ (hc q u hq)
       case qc => exact (Below.refl _ w).alloc (Nat.le_refl _) _
       intro w4 hg4 hb4)
  go_ret2
  refine ⟨rfl, ⟨by rw [length_vs, glen.out, Nat.mul_one], .inr ⟨w.heap.size, j, _, rfl, Nat.le_refl _, hg4.out, Nat.le_refl _, by unfold maxLen; omega, ?_, ?_⟩⟩, hb4⟩
  · rw [List.size_toArray, length_splice _ _ _ (by simp [clen])]
    simp
  · rw [← gcs.out]
    have e : splice (List.replicate j (Value.int .u8 0)) 0 cs = cs := by
      unfold splice
      rw [List.drop_of_length_le (by simp [clen])]
      simp
    rw [e, List.toList_toArray, Nat.mul_one]
    exact List.take_of_length_le (by omega)
end
theorem clone_any {w : World} {B : Nat} {v : Value} {l : List E} (h : w.ownsRow B 5 1 v l.length (vs l)) (hlen : l.length ≤ 100000) :
    Calls Try.prog 37 #[v] w fun e w' => ∃ v', e = .returned v' ∧ Hid (w'.ownsRow w.heap.size 5 1 v' l.length (vs l) ∧ Below w.heap.size w w') := by
  obtain ⟨i0, hi, hz0, hz1, hz2⟩ := info_parts infoE
  have h0 := h
  rcases h.2 with ⟨rfl, h1⟩ | ⟨g, cap, cur, rfl, _, _, hc, hm, _⟩
  · refine (AnyE.slices_Clone_nil Try.cloneBB 0 0 w).mono ?_
    rintro e w' ⟨rfl, rfl⟩
    refine ⟨_, rfl, ?_⟩
    have e : l = [] := List.eq_nil_of_length_eq_zero h1
    rw [e]
    exact ⟨World.ownsRow_nil _ _ _ _, Below.refl _ _⟩
  · have hc2 : ∀ j u, (vs l)[j]? = some u → w.cell? ⟨g, 0 + j, none⟩ = some u := fun j u hj => by
      have := h0.cells (g := g) rfl j u hj
      rwa [add_plain] at this
    refine (AnyE.slices_Clone Try.cloneBB i0 _ 1 1 hi hz0 hz1 hz2 rfl (by decide) Try.sizeOf5 g 0 l.length cap (vs l) w (by rw [length_vs, Nat.mul_one]) (by unfold maxLen; omega) (by omega) hc2 (vs_one l)).mono ?_
    rintro e w' ⟨v', rfl, hrow, _, hb⟩
    exact ⟨v', rfl, hrow, hb⟩
section
variable {w : World} {B P sz d : Nat} {v : Value} {l : List E}
set_option maxHeartbeats 1000000 in
theorem copy_any (h : IOwn w B P sz d v l) : Calls Try.prog 21 #[.pointer (some ⟨P, 0, none⟩)] w fun e w' => e = .returned (.pointer (some ⟨w.heap.size, 0, none⟩)) ∧ Hid (∃ v', IOwn w' w.heap.size w.heap.size sz d v' l ∧ Below w.heap.size w w') := by
  obtain ⟨A, c, rfl, _, hc, hcm, _⟩ := owns_sl h.row
  have c0 := h.c0
  have c1 := h.c1
  have c2 := h.c2
  have c3 := h.c3
  have gh := Lib.hid h
  have hlt := h.lt
  clear h
  go_enter Try.func21, Try.ntmps21
  go_wp2_with (go_at_call 34; refine (valid_any _ _ c0).mono ?_; rintro e w' ⟨rfl, rfl⟩)
  obtain ⟨W, hW⟩ : ∃ W, W = w.alloc (.cells #[.pointer (some ⟨w.heap.size, 0, none⟩), .int .i64 (sz : Nat), .int .i64 (d : Nat), .slice A l.length c] 58) := ⟨_, rfl⟩
  have hB : Below w.heap.size w W := by rw [hW]; exact (Below.refl _ w).alloc (Nat.le_refl _) _
  have hr : W.heap[w.heap.size]? = some (.cells #[.pointer (some ⟨w.heap.size, 0, none⟩), .int .i64 (sz : Nat), .int .i64 (d : Nat), .slice A l.length c] 58 (0, 0)) := by rw [hW]; exact World.alloc_heap_new _ _
  have hWs : W.heap.size = w.heap.size + 1 := by rw [hW]; simp
  rw [← hW]
  have gB := Lib.hid hB
  have gr := Lib.hid hr
  have gWs := Lib.hid hWs
  clear hW hB hr hWs
  refine (clone_any (gh.out.below gB.out).row (by have := gh.out.le; have := gh.out.sz_le; omega)).mono ?_
  rintro e W2 ⟨v', rfl, gC⟩
  have hr2 := (gC.out.2.block w.heap.size (by rw [gWs.out]; omega)).trans gr.out
  have k3 := (cell_of_row W2 w.heap.size 3 _ _ (0, 0) hr2).trans (show _ = some (.slice A l.length c) from rfl)
  have f3 := frozen_of_row W2 w.heap.size 3 _ _ hr2
  have gr2 := Lib.hid hr2
  clear hr2
  obtain ⟨A', c', rfl, _⟩ := owns_sl gC.out.1
  have gE := Lib.hid (show IOwn (W2.setCell ⟨w.heap.size, 3, none⟩ (.slice A' l.length c')) w.heap.size w.heap.size sz d (.slice A' l.length c') l from by
    refine ⟨Nat.le_refl _, ?_, ?_, gh.out.dle, gh.out.le, gh.out.sz_le⟩
    · rw [heap_setCell_same W2 w.heap.size 3 _ _ _ gr2.out]
      rfl
    · refine owns_of_block (owns_le gC.out.1 (by rw [gWs.out]; omega)) fun g hg => Below.heap_setCell _ _ _ g (fun e => ?_)
      have := (gC.out.1.lt g hg).1
      have e' : g = w.heap.size := e
      have := gWs.out
      omega)
  have gB2 := Lib.hid (show Below w.heap.size w (W2.setCell ⟨w.heap.size, 3, none⟩ (.slice A' l.length c')) from (gB.out.trans (gC.out.2.mono gB.out.size)).setCell (Nat.le_refl _) _)
  go_wp2_with fail
  go_ret
  exact ⟨rfl, _, gE.out, gB2.out⟩
end
end Go.Proofs.Ytaohlblhfmlpbaa
