/- The bytes of a move; what an image has. -/
import Derived.Test.YtaohlblhfmlpbaaBeside
import Derived.Test.YtaohlblhfmlpbaaMoves
namespace Go.Proofs.Ytaohlblhfmlpbaa
open Go.RowKit
/-- The bytes of a move. -/
def dat (n b : Nat) : List E := (List.range (n % 40)).map fun i => UInt8.ofNat (b + i)
theorem length_dat (n b : Nat) : (dat n b).length = n % 40 := by simp [dat]
/-- The first k bytes of them are laid. -/
def drow (m k b : Nat) : Array Value := ((List.range m).map fun i => if i < k then ev (UInt8.ofNat (b + i)) else .int .u8 0).toArray
theorem drow_zero (m b : Nat) : drow m 0 b = Array.replicate m (.int .u8 0) := by
  unfold drow
  apply Array.ext
  · simp
  · intro i h1 h2
    simp
theorem drow_full (n b : Nat) : drow (n % 40) (n % 40) b = (vs (dat n b)).toArray := by
  unfold drow vs dat
  apply congrArg
  rw [List.map_map]
  refine List.map_congr_left fun i hi => ?_
  rw [if_pos (List.mem_range.1 hi)]
  rfl
theorem drow_set {m k b : Nat} : (drow m k b).setIfInBounds k (ev (UInt8.ofNat (b + k))) = drow m (k + 1) b := by
  unfold drow
  apply Array.ext
  · simp
  · intro i h1 h2
    have hi : i < m := by simpa using h2
    simp only [List.setIfInBounds_toArray, List.getElem_toArray, List.getElem_set, List.getElem_map, List.getElem_range]
    by_cases e : k = i
    · subst e; simp
    · rw [if_neg e]
      by_cases h3 : i < k
      · rw [if_pos h3, if_pos (by omega)]
      · rw [if_neg h3, if_neg (by omega)]
theorem ev_nat (x : Nat) : ev (UInt8.ofNat x) = .int .u8 ((x % 256 : Nat) : Int) := by
  unfold ev
  rw [UInt8.toNat_ofNat']
theorem make_bytes8 (n : Nat) (h : n ≤ 40) (w : World) : (Instr.makeSlice 23 (.int .u8 (n : Int)) (.int .u8 (n : Int))).run Try.prog w = .ok (.slice (some ⟨w.heap.size, 0, none⟩) n n) (w.alloc (.cells (Array.replicate n (.int .u8 0)) 5)) := by
  obtain ⟨i, hi, h1, h2, h3⟩ := info_parts infoE
  have := run_make (P := Try.prog) w 23 5 i _ Try.underlying23 hi h1 .u8 .u8 n n (by omega) (by omega) (by rw [h3]; omega) (by omega)
  rw [this, h2, made_cells _ _ (by simp [Value.cells])]
  rfl
/-- A move's cells as a value. -/
abbrev mval (t : Mv) : Value := .agg #[.int .u8 (t.1 : Nat), .int .u8 (t.2.1 : Nat), .int .u8 (t.2.2 : Nat)]
set_option maxRecDepth 100000 in
set_option maxHeartbeats 4000000 in
theorem data_any (k n b : Nat) (w : World) : Calls Try.prog 42 #[.agg #[.int .u8 (k : Nat), .int .u8 (n : Nat), .int .u8 (b : Nat)]] w fun e w' => ∃ R, e = .returned (.slice (some ⟨R, 0, none⟩) (n % 40) (n % 40)) ∧
    Hid (w.heap.size ≤ R ∧ R < w'.heap.size ∧ SB w' (some ⟨R, 0, none⟩) (n % 40) (dat n b) ∧ Below w.heap.size w w') := by
  obtain ⟨m, hm⟩ : ∃ m, m = n % 40 := ⟨_, rfl⟩
  have gm := Lib.hid hm
  have hm40 : m ≤ 40 := by omega
  have e1 : (n : Int) % 40 = (m : Nat) := by omega
  have e2 : Int.tmod (n : Int) 40 = (m : Nat) := by rw [hm]; exact (Int.ofNat_tmod n 40).symm
  have hmk := make_bytes8 m hm40
  rw [← hm]
  clear hm
  go_enter Try.func42, Try.ntmps42
  go_wp2_with fail
  obtain ⟨q1, q2, q3⟩ := two_more w (.cells #[.int .u8 (k : Nat), .int .u8 (n : Nat), .int .u8 (b : Nat)] 64) (.cells (Array.replicate m (.int .u8 0)) 5) _ rfl
  obtain ⟨V, hV⟩ : ∃ V, V = (w.alloc (.cells #[.int .u8 (k : Nat), .int .u8 (n : Nat), .int .u8 (b : Nat)] 64)).alloc (.cells (Array.replicate m (.int .u8 0)) 5) := ⟨_, rfl⟩
  rw [← hV] at q1 q2 q3
  rw [← hV]
  obtain ⟨z, hz⟩ : ∃ z, z = w.heap.size := ⟨_, rfl⟩
  rw [← hz] at q1 q2
  simp only [← hz]
  have gz := Lib.hid hz
  have g0 := Lib.hid (show V.heap[z]? = some (.cells #[.int .u8 (k : Nat), .int .u8 (n : Nat), .int .u8 (b : Nat)] 64 (0, 0)) ∧ V.heap[z + 1]? = some (.cells (drow m 0 b) 5 (0, 0)) ∧ Below w.heap.size w V from ⟨q1, by rw [drow_zero]; exact q2, q3⟩)
  clear q1 q2 q3 hV hz hmk
  go_loopw [4, 11] (fun _ c wr => ∃ j : Nat, j ≤ m ∧ c = .int .i64 (j : Nat) ∧ Hid (wr.heap[z]? = some (.cells #[.int .u8 (k : Nat), .int .u8 (n : Nat), .int .u8 (b : Nat)] 64 (0, 0)) ∧ wr.heap[z + 1]? = some (.cells (drow m j b) 5 (0, 0)) ∧ Below w.heap.size w wr)) (fun _ c _ => m - (intOf c).toNat)
  case atStart => exact ⟨0, by omega, rfl, g0.out⟩
  case round =>
    obtain ⟨j, hj, rfl, gI⟩ := hrel
    by_cases hlt : j < m
    · have c2 := (cell_of_row wr z 2 _ _ (0, 0) gI.out.1).trans (show _ = some (.int .u8 (b : Nat)) from rfl)
      have hc : ∃ u, wr.cell? ⟨z + 1, j, none⟩ = some u := ⟨_, (cell_of_row wr (z + 1) j _ _ (0, 0) gI.out.2.1).trans (Array.getElem?_eq_getElem (by simpa [drow] using hlt))⟩
      obtain ⟨u, hu⟩ := hc
      have fz := frozen_of_row wr (z + 1) j _ _ gI.out.2.1
      have gw := Lib.hid (show (wr.setCell ⟨z + 1, j, none⟩ (.int .u8 ((((b : Nat) : Int) + (j : Nat)) % 256))).heap[z]? = some (.cells #[.int .u8 (k : Nat), .int .u8 (n : Nat), .int .u8 (b : Nat)] 64 (0, 0)) ∧
          (wr.setCell ⟨z + 1, j, none⟩ (.int .u8 ((((b : Nat) : Int) + (j : Nat)) % 256))).heap[z + 1]? = some (.cells (drow m (j + 1) b) 5 (0, 0)) ∧ Below w.heap.size w (wr.setCell ⟨z + 1, j, none⟩ (.int .u8 ((((b : Nat) : Int) + (j : Nat)) % 256))) from by
        refine ⟨(Below.heap_setCell _ _ _ _ (by simp)).trans gI.out.1, ?_, gI.out.2.2.setCell (by have := gz.out; show w.heap.size ≤ z + 1; omega) _⟩
        rw [heap_setCell_same wr (z + 1) j _ _ _ gI.out.2.1, ← drow_set, ev_nat]
        norm_cast)
      go_wp2_with fail
      go_roundw
      case rel => exact ⟨j + 1, by omega, by simp, gw⟩
      case measure => simp [intOf] <;> omega
    · obtain rfl : j = m := by omega
      have hm' := gm.out
      have gw := Lib.hid (show w.heap.size ≤ z + 1 ∧ z + 1 < wr.heap.size ∧ SB wr (some ⟨z + 1, 0, none⟩) j (dat n b) ∧ Below w.heap.size w wr from by
        refine ⟨by have := gz.out; omega, lt_of_heap gI.out.2.1, ?_, gI.out.2.2⟩
        refine SB.of_row (by rw [length_dat]; exact hm'.symm) (t := 5) ?_
        rw [← drow_full, ← hm']
        exact gI.out.2.1)
      clear hm'
      go_wp2_with fail
      go_ret
      exact ⟨z + 1, rfl, gw⟩
end Go.Proofs.Ytaohlblhfmlpbaa
