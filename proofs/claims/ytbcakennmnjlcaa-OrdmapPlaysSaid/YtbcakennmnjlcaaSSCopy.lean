/- Copy of a valid map. -/
import Derived.Test.YtbcakennmnjlcaaClone
import Derived.Test.YtbcakennmnjlcaaBut
import Derived.Test.YtbcakennmnjlcaaSSIns
import Derived.Test.YtbcakennmnjlcaaSSNear
namespace Go.Proofs.Ytbcakennmnjlcaa.SS
open Go.RowKit Go.Lib

/-- slices.Clone of a map's items. -/
theorem clone_any {w : World} {B n : Nat} {v : Value} {l : List (K × V)} (h : w.ownsRow B 123 2 v n (flat l)) (hl : l.length = n) (hlen : l.length ≤ 1000000) :
    Calls Try.prog 69 #[v] w fun e w' => ∃ A' c', e = .returned (.slice A' n c') ∧ Hid (w'.ownsRow w.heap.size 123 2 (.slice A' n c') n (flat l) ∧ Below w.heap.size w w') := by
  subst hl
  obtain ⟨A, c, rfl, hn, h1, h2, h3, h4⟩ := owns_it rfl h
  obtain ⟨i0, hi, hz0, hz1, hz2⟩ := info_parts infoI
  cases A with
  | none =>
    obtain ⟨h0, rfl⟩ := hn rfl
    refine (AnyE.slices_Clone_nil Try.cloneSS l.length 0 w).mono ?_
    rintro e w' ⟨rfl, rfl⟩
    refine ⟨none, 0, by rw [h0], ?_⟩
    have e : l = [] := List.eq_nil_of_length_eq_zero h0
    rw [h0, e]
    exact ⟨World.ownsRow_nil _ _ _ _, Below.refl _ _⟩
  | some a =>
    have hc : ∃ b o, a = ⟨b, o, none⟩ ∧ ∀ j u, (flat l)[j]? = some u → w.cell? ⟨b, o + j, none⟩ = some u := by
      rcases h.2 with ⟨e, _⟩ | ⟨g, cap, cur, e, _⟩
      · injection e with e; cases e
      · injection e with e
        injection e with e
        subst e
        refine ⟨g, 0, rfl, fun j u hj => ?_⟩
        have := h.cells (g := g) rfl j u hj
        rwa [add_plain] at this
    obtain ⟨b, o, rfl, hc⟩ := hc
    refine (AnyE.slices_Clone Try.cloneSS i0 _ 2 _ hi hz0 hz1 hz2 rfl (by decide) Try.sizeOf123 b o l.length c (flat l) w (length_flat l) (by unfold maxLen; omega) (by omega) hc (flat_one l)).mono ?_
    rintro e w' ⟨v', rfl, hrow, _, hb⟩
    obtain ⟨A', c', rfl, _⟩ := owns_it rfl hrow
    exact ⟨A', c', rfl, hrow, hb⟩
/-- What Copy leaves. -/
def CopyOf (w : World) (l : List (K × V)) (e : Ending) (w' : World) : Prop :=
  e = .returned (.pointer (some ⟨w.heap.size, 0, none⟩)) ∧ Hid ((∃ v', Own w' w.heap.size w.heap.size v' l) ∧ Below w.heap.size w w')
theorem copy_ends {w w1 w2 : World} {v u : Value} {l : List (K × V)} (hO : Own w1 w.heap.size w.heap.size u []) (hB : Below w.heap.size w w1) (ha : Asc lt (keysOf l)) (hl : l.length ≤ 1000000)
    (hr : w2.ownsRow w.heap.size 123 2 v l.length (flat l)) (h2 : Below w1.heap.size w1 w2) (hv : v.ownBlock ≠ some w.heap.size) : CopyOf w l (.returned (.pointer (some ⟨w.heap.size, 0, none⟩))) (w2.setCell ⟨w.heap.size, 1, none⟩ v) := by
  have b2 := (h2.block _ (lt_of_heap hO.blk)).trans hO.blk
  refine ⟨rfl, ⟨v, Nat.le_refl _, ?_, ?_, ha, hl⟩, ((hB.trans (h2.mono hB.size)).setCell (Nat.le_refl _) _)⟩
  · rw [heap_setCell_same w2 w.heap.size 1 _ _ v b2]; rfl
  · exact owns_of_block hr fun g hg => Below.heap_setCell w2 _ _ g (fun e => hv (by rw [hg]; exact congrArg some e))
set_option maxHeartbeats 1000000 in
theorem copy_any (B P : Nat) (v : Value) (l : List (K × V)) (w : World) (h : Own w B P v l) : Calls Try.prog 17 #[.pointer (some ⟨P, 0, none⟩)] w (CopyOf w l) := by
  have hv0 : w.cell? ⟨P, 0, none⟩ = some (.pointer (some ⟨P, 0, none⟩)) := (cell_of_row w P 0 _ _ (0, 0) h.blk).trans rfl
  have hv1 : w.cell? ⟨P, 1, none⟩ = some v := (cell_of_row w P 1 _ _ (0, 0) h.blk).trans rfl
  have hPw := lt_of_cell hv0
  have gO := Lib.hid h
  obtain ⟨A, c, rfl, hHas⟩ := h.has
  clear h hHas
  go_enter Try.func17, Try.ntmps17
  go_wp2_with (first
    | (go_at_call 62; refine (valid_any _ _ hv0).mono ?_; rintro e w' ⟨rfl, rfl⟩)
    | (go_at_call 11; refine (new_any _).mono ?_; rintro e w1 ⟨rfl, hO, hB⟩
       have gN := Lib.hid hO
       have gB := Lib.hid hB
       have k1 := (hB.cell (p := ⟨P, 1, none⟩) hPw).trans hv1
       clear hO hB)
    | (go_at_call 69; refine (clone_any (gO.out.below gB.out).own rfl gO.out.len).mono ?_; rintro e w2 ⟨A', c', rfl, gC⟩
       have k2 : w2.frozen? ⟨w.heap.size, 1, none⟩ = false := frozen_of_row w2 w.heap.size 1 _ _ ((gC.out.2.block _ (lt_of_heap gN.out.blk)).trans gN.out.blk)
       have k3 : w2.cell? ⟨w.heap.size, 1, none⟩ = some (.slice none 0 0) := (cell_of_row w2 w.heap.size 1 _ _ (0, 0) ((gC.out.2.block _ (lt_of_heap gN.out.blk)).trans gN.out.blk)).trans rfl))
  go_ret
  have hlt := lt_of_heap gN.out.blk
  exact copy_ends gN.out gB.out gO.out.asc gO.out.len ⟨gC.out.1.1, gC.out.1.2.imp id (fun ⟨g, cap, cur, e1, e0, e2⟩ => ⟨g, cap, cur, e1, Nat.le_of_lt (Nat.lt_of_lt_of_le hlt e0), e2⟩)⟩ gC.out.2
    (fun e => by have := (owns_lt' gC.out.1 e).1; omega)
end Go.Proofs.Ytbcakennmnjlcaa.SS
