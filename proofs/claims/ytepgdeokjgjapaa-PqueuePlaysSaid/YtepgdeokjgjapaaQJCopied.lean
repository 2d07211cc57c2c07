/- Copy of a queue of strings: the same items in new blocks. -/
import Derived.Test.YtepgdeokjgjapaaQJCopy
import Derived.Laws.Rows
import Derived.Laws.Tables
import Derived.Deep.Onto
namespace Go.Proofs.Ytepgdeokjgjapaa.QJ
open Go.RowKit
theorem info112 : (Try.prog.info? 53).map (·.size) = some 1027 := by kernel_rfl
theorem qcells_size {P n : Nat} {v : Value} {pl : List Nat} (h : pl.length = 1024) : (qcells P n v pl).size = 1027 := by unfold qcells; simp [h]
theorem loaded {w : World} {B P n : Nat} {v : Value} {l : List It} {pl : List Nat} (h : QS w B P n v l pl) : (Instr.loadAt 53 (.pointer (some ⟨P, 0, none⟩))).run Try.prog w = .ok (.agg (qcells P n v pl)) w := by
  have h1 := run_loadVar_row (P := Try.prog) w P 53 53 _ _ _ h.blk Try.underlying53 rfl (by rw [info112, qcells_size h.len])
  simp [Instr.loadAt, Instr.sureAddr, h1]
theorem zeros_size : Try.zeroCells53.size = 1027 := by kernel_rfl
theorem qcells_one {P n : Nat} {v : Value} {pl : List Nat} (hv : v.oneCell' = true) : (qcells P n v pl).all (·.oneCell') = true := by
  rw [Array.all_eq_true_iff_forall_mem]
  intro u hu
  unfold qcells at hu
  simp at hu
  rcases hu with rfl | rfl | rfl | ⟨i, _, rfl⟩
  · rfl
  · rfl
  · exact hv
  · rfl
theorem row_slice {w : World} {B : Nat} {v : Value} {m : Nat} {xs : List Value} (h : w.ownsRow B 104 2 v m xs) : ∃ A m c, v = .slice A m c := by
  rcases h.2 with ⟨rfl, _⟩ | ⟨g, cap, cur, rfl, _⟩ <;> exact ⟨_, _, _, rfl⟩
theorem row_one {w : World} {B : Nat} {v : Value} {m : Nat} {xs : List Value} (h : w.ownsRow B 104 2 v m xs) : v.oneCell' = true := by
  rcases h.2 with ⟨rfl, _⟩ | ⟨g, cap, cur, rfl, _⟩ <;> rfl
theorem qcells_self {P Q n : Nat} {v : Value} {pl : List Nat} : (qcells P n v pl).setIfInBounds 0 (.pointer (some ⟨Q, 0, none⟩)) = qcells Q n v pl := by simp [qcells]
theorem qcells_heap {Q n : Nat} {v v' : Value} {pl : List Nat} : (qcells Q n v pl).setIfInBounds 2 v' = qcells Q n v' pl := by simp [qcells]
set_option maxRecDepth 1000000 in
set_option maxHeartbeats 2000000 in
theorem copy_any {w : World} {B P n : Nat} {v : Value} {l : List It} {pl : List Nat} (h : QOwn w B P n v l pl) :
    Calls Try.prog 22 #[.pointer (some ⟨P, 0, none⟩)] w fun e w' => e = .returned (.pointer (some ⟨w.heap.size, 0, none⟩)) ∧ Hid (∃ v', QOwn w' w.heap.size w.heap.size n v' l pl ∧ Below w.heap.size w w') := by
  have c0 := h.qs.c0
  have gh := Lib.hid h
  have hs : (Try.prog.info? 53).map (·.size) = some (qcells P n v pl).size := by rw [info112, qcells_size h.qs.len]
  have gs := Lib.hid hs
  have hlt := lt_of_heap h.qs.blk
  obtain ⟨Q, hQ⟩ : ∃ Q, Q = w.heap.size := ⟨_, rfl⟩
  have gQ := Lib.hid hQ
  have hPQ : ¬ P = Q := by omega
  rw [← hQ]
  clear h hs hQ hlt
  go_enter Try.func22, Try.ntmps22
  go_wp2_with (first
    | (go_at_call 64; refine (valid_any _ _ c0).mono ?_; rintro e w' ⟨rfl, rfl⟩)
    | refine wpList_load_row rfl 53 _ rfl P rfl 53 _ (0, 0) _ gh.out.qs.blk Try.underlying53 rfl gs.out ?_
    | (refine wpList_store_row rfl 53 _ _ rfl w.heap.size _ rfl rfl 53 _ (heap_alloc_new _ _) gs.out (by rw [zeros_size, qcells_size gh.out.qs.len]) (qcells_one (row_one gh.out.qs.row)) ?_
       rw [← gQ.out]
       generalize hW : World.setRow _ _ _ = W
       have hr : W.heap[Q]? = some (.cells (qcells P n v pl) 53 (0, 0)) := by rw [← hW, gQ.out]; exact setRow_heap _ _ _ _ _ _ (heap_alloc_new _ _)
       have hB : Below w.heap.size w W := by
         rw [← hW]
         exact ((Below.refl _ w).alloc (Nat.le_refl _) _).trans ⟨rfl, rfl, rfl, by simp, fun k hk => setRow_other _ _ k _ (by have := gQ.out; omega)⟩
       have k0 := (cell_of_row W Q 0 _ _ (0, 0) hr).trans (show (qcells P n v pl)[0]? = some (.pointer (some ⟨P, 0, none⟩)) from rfl)
       have f0 := frozen_of_row W Q 0 _ _ hr
       have k2 := (gh.out.below hB).qs.c2
       have gr := Lib.hid hr
       have gB := Lib.hid hB
       clear hr hB hW))
  have hB1 : Below w.heap.size w (W.setCell ⟨Q, 0, none⟩ (.pointer (some ⟨Q, 0, none⟩))) := gB.out.setCell (by have := gQ.out; simp; omega) _
  have hr1 : (W.setCell ⟨Q, 0, none⟩ (.pointer (some ⟨Q, 0, none⟩))).heap[Q]? = some (.cells (qcells Q n v pl) 53 (0, 0)) := by
    rw [← qcells_self (P := P)]; exact heap_setCell_same W Q 0 _ _ _ gr.out
  have gB1 := Lib.hid hB1
  have gr1 := Lib.hid hr1
  generalize W.setCell ⟨Q, 0, none⟩ (.pointer (some ⟨Q, 0, none⟩)) = W1 at gB1 gr1 ⊢
  clear hB1 hr1 k0 f0 k2 gr gB
  refine (clone_any (gh.out.below gB1.out).qs.row (by have := gh.out.len; have := gh.out.hn; omega)).mono ?_
  rintro e W2 ⟨v', rfl, gC⟩
  have hr2 := (gC.out.2.block Q (lt_of_heap gr1.out)).trans gr1.out
  have k2 := (cell_of_row W2 Q 2 _ _ (0, 0) hr2).trans (show (qcells Q n v pl)[2]? = some v from rfl)
  have f2 := frozen_of_row W2 Q 2 _ _ hr2
  have gr2 := Lib.hid hr2
  clear hr2
  obtain ⟨A', m', c', rfl⟩ := row_slice gC.out.1
  go_wp2_with fail
  go_ret
  have hQ1 := lt_of_heap gr1.out
  refine ⟨rfl, .slice A' m' c', ⟨⟨Nat.le_refl _, ?_, ?_, gh.out.qs.len⟩, gh.out.heap, gh.out.plc, gh.out.nd, gh.out.ids, gh.out.hn⟩, ?_⟩
  · rw [← qcells_heap (v := v)]; exact heap_setCell_same W2 Q 2 _ _ _ gr2.out
  · refine owns_of_block (World.ownsRow.mono gC.out.1 (by omega)) fun g hg => Below.heap_setCell _ _ _ g (fun e => ?_)
    have := (gC.out.1.lt g hg).1
    have e' : g = Q := e
    omega
  · have hb := (gB1.out.trans (gC.out.2.mono gB1.out.size)).setCell (p := ⟨Q, 2, none⟩) (by have := gQ.out; simp; omega) (.slice A' m' c')
    rw [gQ.out] at hb ⊢
    exact hb
end Go.Proofs.Ytepgdeokjgjapaa.QJ
