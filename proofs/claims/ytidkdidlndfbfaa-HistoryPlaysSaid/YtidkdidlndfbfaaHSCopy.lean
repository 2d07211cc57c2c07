/- Copy. -/
import Derived.Test.YtidkdidlndfbfaaHSOps
import Derived.Test.YtidkdidlndfbfaaShelf
import Derived.Laws.Rows
import Derived.Laws.Tables
import Derived.Deep.Onto
namespace Go.Proofs.Ytidkdidlndfbfaa.HS
open Go.RowKit
theorem clone_any {w : World} {B : Nat} {v : Value} {l : List E} (h : w.ownsRow B 9 1 v l.length (vs l)) (hlen : l.length ≤ 100000) :
    Calls Try.prog 47 #[v] w fun e w' => ∃ v', e = .returned v' ∧ Hid (w'.ownsRow w.heap.size 9 1 v' l.length (vs l) ∧ Below w.heap.size w w') := by
  obtain ⟨i0, hi, hz0, hz1, hz2⟩ := info_parts infoE
  have h0 := h
  rcases h.2 with ⟨rfl, h1⟩ | ⟨g, cap, cur, rfl, _, _, hc, hm, _⟩
  · refine (Try.slices_Clone_nil_f47 0 0 w).mono ?_
    rintro e w' ⟨rfl, rfl⟩
    refine ⟨_, rfl, ?_⟩
    have e : l = [] := List.eq_nil_of_length_eq_zero h1
    rw [e]
    exact ⟨World.ownsRow_nil _ _ _ _, Below.refl _ _⟩
  · have hc2 : ∀ j u, (vs l)[j]? = some u → w.cell? ⟨g, 0 + j, none⟩ = some u := fun j u hj => by
      have := h0.cells (g := g) rfl j u hj
      rwa [add_plain] at this
    refine (Try.slices_Clone_f47 i0 _ 1 16 hi hz0 hz1 hz2 rfl (by decide) Try.sizeOf9 g 0 l.length cap (vs l) w (by rw [length_vs, Nat.mul_one]) (by unfold maxLen; omega) (by omega) hc2 (vs_one l)).mono ?_
    rintro e w' ⟨v', rfl, hrow, _, hb⟩
    exact ⟨v', rfl, hrow, hb⟩
section
variable {w : World} {B P lim mk : Nat} {v : Value} {l : List E}
set_option maxHeartbeats 1000000 in
theorem copy_any (h : HOwn w B P lim mk v l) : Calls Try.prog 21 #[.pointer (some ⟨P, 0, none⟩)] w fun e w' => e = .returned (.pointer (some ⟨w.heap.size, 0, none⟩)) ∧ Hid (∃ v', HOwn w' w.heap.size w.heap.size lim mk v' l ∧ Below w.heap.size w w') := by
  obtain ⟨A, c, rfl, _, hc, hcm, _⟩ := owns_sl h.row
  have c0 := h.c0
  have c1 := h.c1
  have c2 := h.c2
  have c3 := h.c3
  have gh := Lib.hid h
  have hlt := h.lt
  clear h
  go_enter Try.func21, Try.ntmps21
  go_wp2_with (go_at_call 45; refine (valid_any _ _ c0).mono ?_; rintro e w' ⟨rfl, rfl⟩)
  obtain ⟨W, hW⟩ : ∃ W, W = w.alloc (.cells #[.pointer (some ⟨w.heap.size, 0, none⟩), .int .i64 (lim : Nat), .int .i64 (mk : Nat), .slice A l.length c] 41) := ⟨_, rfl⟩
  have hB : Below w.heap.size w W := by rw [hW]; exact (Below.refl _ w).alloc (Nat.le_refl _) _
  have hr : W.heap[w.heap.size]? = some (.cells #[.pointer (some ⟨w.heap.size, 0, none⟩), .int .i64 (lim : Nat), .int .i64 (mk : Nat), .slice A l.length c] 41 (0, 0)) := by rw [hW]; exact World.alloc_heap_new _ _
  have hWs : W.heap.size = w.heap.size + 1 := by rw [hW]; simp
  rw [← hW]
  have gB := Lib.hid hB
  have gr := Lib.hid hr
  have gWs := Lib.hid hWs
  clear hW hB hr hWs
  refine (clone_any (gh.out.below gB.out).row (by have := gh.out.le; have := gh.out.lim_le; omega)).mono ?_
  rintro e W2 ⟨v', rfl, gC⟩
  have hr2 := (gC.out.2.block w.heap.size (by rw [gWs.out]; omega)).trans gr.out
  have k3 := (cell_of_row W2 w.heap.size 3 _ _ (0, 0) hr2).trans (show _ = some (.slice A l.length c) from rfl)
  have f3 := frozen_of_row W2 w.heap.size 3 _ _ hr2
  have gr2 := Lib.hid hr2
  clear hr2
  obtain ⟨A', c', rfl, _⟩ := owns_sl gC.out.1
  have gE := Lib.hid (show HOwn (W2.setCell ⟨w.heap.size, 3, none⟩ (.slice A' l.length c')) w.heap.size w.heap.size lim mk (.slice A' l.length c') l from by
    refine ⟨Nat.le_refl _, ?_, ?_, gh.out.mkle, gh.out.le, gh.out.lim_le⟩
    · rw [heap_setCell_same W2 w.heap.size 3 _ _ _ gr2.out]
      rfl
    · refine owns_of_block (owns_le gC.out.1 (by rw [gWs.out]; omega)) fun g hg => Below.heap_setCell _ _ _ g (fun e => ?_)
      have := (gC.out.1.lt g hg).1
      have e' : g = w.heap.size := e
      have := gWs.out
      omega)
  have gB2 := Lib.hid (show Below w.heap.size w (W2.setCell ⟨w.heap.size, 3, none⟩ (.slice A' l.length c')) from (gB.out.trans (gC.out.2.mono gB.out.size)).setCell (Nat.le_refl _) _)
  go_wp2_with fail
  go_ret
  exact ⟨rfl, _, gE.out, gB2.out⟩
end
end Go.Proofs.Ytidkdidlndfbfaa.HS
