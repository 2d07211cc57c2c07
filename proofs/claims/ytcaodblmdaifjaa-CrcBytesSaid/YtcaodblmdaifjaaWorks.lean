/- works(): the examples of chapter 2 hold. -/
import Derived.Test.YtcaodblmdaifjaaComb
import Derived.Lib.SlBytesConst
namespace Go.Proofs.Ytcaodblmdaifjaa
open Go.RowKit

/-- A literal slice of bytes. -/
theorem row_bn {w : World} {g : Nat} {fr : Nat × Nat} (l : List Nat) (hl : ∀ z ∈ l, z < 256) (h : w.heap[g]? = some (.cells (l.map fun z => Value.int .u8 (z : Nat)).toArray 5 fr)) : BN w (some ⟨g, 0, none⟩) l.length l := by
  refine ⟨rfl, hl, fun _ => ⟨g, 0, rfl, fun i hi => ?_⟩⟩
  rw [Nat.zero_add, cell_of_row w g i _ 5 fr h]
  simp [List.getElem?_eq_getElem hi]
theorem lit_bn (w : World) (l : List Nat) (hl : ∀ z ∈ l, z < 256) (fr : Nat × Nat) : BN (w.alloc (.cells (l.map fun z => Value.int .u8 (z : Nat)).toArray 5 fr)) (some ⟨w.heap.size, 0, none⟩) l.length l := row_bn l hl (heap_alloc_new w _)
theorem below_alloc (w : World) (o : Obj) : Below w.heap.size w (w.alloc o) := (Below.refl _ _).alloc (Nat.le_refl _) _

theorem s4 (w : World) : Calls Try.prog 15 #[.slice (some ⟨w.heap.size, 0, none⟩) 4 4] (w.alloc (.cells #[.int .u8 49, .int .u8 50, .int .u8 51, .int .u8 52] 5 (4, 5))) fun e w' => e = .returned (.int .u32 2615402659) ∧ Below w.heap.size w w' := by
  refine (sum_any _ 4 4 [49, 50, 51, 52] _ (lit_bn w [49, 50, 51, 52] (by decide) _) (by omega)).mono ?_
  rintro e w' ⟨rfl, h⟩
  exact ⟨by rw [show csum [49, 50, 51, 52] = 2615402659 from by decide +kernel]; rfl, bchain (below_alloc w _) h⟩
theorem s5 (w : World) : Calls Try.prog 15 #[.slice (some ⟨w.heap.size, 0, none⟩) 5 5] (w.alloc (.cells #[.int .u8 53, .int .u8 54, .int .u8 55, .int .u8 56, .int .u8 57] 5 (5, 6))) fun e w' => e = .returned (.int .u32 320708720) ∧ Below w.heap.size w w' := by
  refine (sum_any _ 5 5 [53, 54, 55, 56, 57] _ (lit_bn w [53, 54, 55, 56, 57] (by decide) _) (by omega)).mono ?_
  rintro e w' ⟨rfl, h⟩
  exact ⟨by rw [show csum [53, 54, 55, 56, 57] = 320708720 from by decide +kernel]; rfl, bchain (below_alloc w _) h⟩
theorem s9 (w : World) : Calls Try.prog 15 #[.slice (some ⟨w.heap.size, 0, none⟩) 9 9] (w.alloc (.cells #[.int .u8 49, .int .u8 50, .int .u8 51, .int .u8 52, .int .u8 53, .int .u8 54, .int .u8 55, .int .u8 56, .int .u8 57] 5 (9, 10))) fun e w' => e = .returned (.int .u32 3421780262) ∧ Below w.heap.size w w' := by
  refine (sum_any _ 9 9 [49, 50, 51, 52, 53, 54, 55, 56, 57] _ (lit_bn w [49, 50, 51, 52, 53, 54, 55, 56, 57] (by decide) _) (by omega)).mono ?_
  rintro e w' ⟨rfl, h⟩
  exact ⟨by rw [show csum [49, 50, 51, 52, 53, 54, 55, 56, 57] = 3421780262 from by decide +kernel]; rfl, bchain (below_alloc w _) h⟩
theorem s1 (w : World) : Calls Try.prog 15 #[.slice (some ⟨w.heap.size, 0, none⟩) 1 1] (w.alloc (.cells #[.int .u8 0] 5 (0, 0))) fun e w' => e = .returned (.int .u32 3523407757) ∧ Below w.heap.size w w' := by
  refine (sum_any _ 1 1 [0] _ (lit_bn w [0] (by decide) _) (by omega)).mono ?_
  rintro e w' ⟨rfl, h⟩
  exact ⟨by rw [show csum [0] = 3523407757 from by decide +kernel]; rfl, bchain (below_alloc w _) h⟩
theorem s0 (w : World) : Calls Try.prog 15 #[.slice none 0 0] w fun e w' => e = .returned (.int .u32 0) ∧ Below w.heap.size w w' := by
  refine (sum_any none 0 0 [] w (BN.nil _ _) (by omega)).mono ?_
  rintro e w' ⟨rfl, h⟩
  exact ⟨by rw [show csum [] = 0 from by decide +kernel]; rfl, h⟩
theorem u5 (w : World) : Calls Try.prog 17 #[.int .u32 2615402659, .slice (some ⟨w.heap.size, 0, none⟩) 5 5] (w.alloc (.cells #[.int .u8 53, .int .u8 54, .int .u8 55, .int .u8 56, .int .u8 57] 5 (5, 6))) fun e w' => e = .returned (.int .u32 3421780262) ∧ Below w.heap.size w w' := by
  refine (update_any 2615402659 (by decide) _ 5 5 [53, 54, 55, 56, 57] _ (lit_bn w [53, 54, 55, 56, 57] (by decide) _) (by omega)).mono ?_
  rintro e w' ⟨rfl, h⟩
  exact ⟨by rw [show cupd 2615402659 [53, 54, 55, 56, 57] = 3421780262 from by decide +kernel]; rfl, bchain (below_alloc w _) h⟩
theorem v9 (w : World) : Calls Try.prog 16 #[.slice (some ⟨w.heap.size, 0, none⟩) 9 9, .int .u32 3421780262] (w.alloc (.cells #[.int .u8 49, .int .u8 50, .int .u8 51, .int .u8 52, .int .u8 53, .int .u8 54, .int .u8 55, .int .u8 56, .int .u8 57] 5 (9, 10))) fun e w' => e = .returned (.bool true) ∧ Below w.heap.size w w' := by
  refine (valid_any _ 9 9 [49, 50, 51, 52, 53, 54, 55, 56, 57] 3421780262 _ (lit_bn w [49, 50, 51, 52, 53, 54, 55, 56, 57] (by decide) _) (by omega)).mono ?_
  rintro e w' ⟨rfl, h⟩
  exact ⟨by rw [show (csum [49, 50, 51, 52, 53, 54, 55, 56, 57] == 3421780262) = true from by decide +kernel], bchain (below_alloc w _) h⟩
theorem c5 (w : World) : Calls Try.prog 19 #[.int .u32 2615402659, .int .u32 320708720, .int .i64 5] w fun e w' => e = .returned (.tuple #[.int .u32 3421780262, .int .i64 0]) ∧ Below w.heap.size w w' := by
  refine (combine_any 2615402659 320708720 5 (by decide) (by decide) (by decide) w).mono ?_
  rintro e w' ⟨rfl, h⟩
  exact ⟨by rw [show combV 2615402659 320708720 5 = 3421780262 from by decide +kernel, show combE 5 = 0 from by decide]; rfl, h⟩
theorem cn (w : World) : Calls Try.prog 19 #[.int .u32 1, .int .u32 2, .int .i64 (-1)] w fun e w' => e = .returned (.tuple #[.int .u32 0, .int .i64 2]) ∧ Below w.heap.size w w' := by
  refine (combine_any 1 2 (-1) (by decide) (by decide) (by decide) w).mono ?_
  rintro e w' ⟨rfl, h⟩
  exact ⟨by rw [show combV 1 2 (-1) = 0 from by decide +kernel, show combE (-1) = 2 from by decide]; rfl, h⟩

set_option maxRecDepth 100000 in
set_option maxHeartbeats 2000000 in
theorem works_any (w : World) : Calls Try.prog 13 #[] w fun e w' => e = .returned (.bool true) ∧ Below w.heap.size w w' := by
  obtain ⟨hz, hs⟩ := zero_of_info info33
  have hcv := fun (w : World) (C : Array Value) (n c : Nat) => Lib.run_convert_bytes_const (P := Try.prog) w 22 5 C n c Try.underlying22 Try.underlying5
  go_enter Try.func13, Try.ntmps13
  go_wp2_with fail
  refine (s4 _).mono ?_
  rintro e wA ⟨rfl, hA⟩
  go_wp2_with fail
  refine (s5 _).mono ?_
  rintro e wB ⟨rfl, hB⟩
  go_wp2_with fail
  refine (c5 _).mono ?_
  rintro e wC ⟨rfl, hC⟩
  go_wp2_with fail
  refine (cn _).mono ?_
  rintro e wD ⟨rfl, hD⟩
  go_wp2_with fail
  refine (table_any _).mono ?_
  rintro e wE ⟨rfl, hE⟩
  have hst := store_new33 hs wE (fun _ => 0) (csteps 8)
  go_wp2_with fail
  clear hz hst
  refine (s0 _).mono ?_
  rintro e wF ⟨rfl, hF⟩
  go_wp2_with fail
  refine (s9 _).mono ?_
  rintro e wG ⟨rfl, hG⟩
  go_wp2_with fail
  refine (s1 _).mono ?_
  rintro e wH ⟨rfl, hH⟩
  go_wp2_with fail
  refine (s4 _).mono ?_
  rintro e wI ⟨rfl, hI⟩
  go_wp2_with fail
  refine (u5 _).mono ?_
  rintro e wJ ⟨rfl, hJ⟩
  have hR0 := Row32.new wE 33 (csteps 8) 256
  have hX := bchain (bchain (bchain (bchain hF hG) hH) hI) hJ
  have hR := hR0.below hX hR0.lt
  have hc : wJ.cell? ⟨wE.heap.size, 1, none⟩ = some (.int .u32 1996959894) := by
    rw [hR.cell (i := 1) (by omega), show csteps 8 1 = 1996959894 from by decide +kernel]; rfl
  clear hR hR0
  go_wp2_with fail
  refine (v9 _).mono ?_
  rintro e wK ⟨rfl, hK⟩
  go_wp2_with fail
  go_ret
  exact ⟨rfl, bchain (bchain (bchain (bchain (bchain (bchain hA hB) hC) hD) hE) (bchain (below_alloc wE _) hX)) hK⟩
end Go.Proofs.Ytcaodblmdaifjaa
