/- Lists of points: At. -/
import Derived.Test.YtidkdidlndfbfaaPoint
import Derived.Laws.ResultCell
namespace Go.Proofs.Ytidkdidlndfbfaa.HP
open Go.RowKit
section
variable {w : World} {B P lim : Nat} {v : Value} {l : List E}
set_option maxRecDepth 100000 in
set_option maxHeartbeats 1000000 in
theorem at_any (h : HOwn w B P lim v l) (i : Nat) (x : E) (hx : l[i]? = some x) : Calls Try.prog 39 #[.pointer (some ⟨P, 0, none⟩), .int .i64 (i : Nat)] w fun e w' => e = .returned (.tuple #[.agg #[.int .i64 x.1, .int .i64 x.2], .int .i64 0]) ∧ Below w.heap.size w w' := by
  have hb := ((Below.refl w.heap.size w).alloc (Nat.le_refl _) (.cells #[.int .i64 0, .int .i64 0] 72)).alloc (by simp) (.cells #[.int .i64 0, .int .i64 0] 72)
  have h' := h.below hb
  obtain ⟨A, c, rfl, hc, hcm, hat⟩ := owns_slice h'.row
  obtain ⟨g, rfl, e0, e1⟩ := hat i x hx
  have hil := (List.getElem?_eq_some_iff.1 hx).1
  have hgl : g < w.heap.size := (h.row.lt g rfl).2
  have hPl := h.lt
  have c0 := h'.c0
  have c3 := h'.c3
  have i1 : (0 : Int) ≤ (i : Int) := by omega
  have i2 : (i : Int) < (l.length : Int) := by omega
  have i3 : ((i : Int)).toNat = i := by omega
  have gb := Lib.hid hb
  clear h h' hb hx hat
  go_enter Try.func39, Try.ntmps39
  go_wp2_with (go_at_call 59; refine (valid_any _ _ c0).mono ?_; rintro e w' ⟨rfl, rfl⟩)
  go_wp2_with fail
  obtain ⟨W, hW⟩ : ∃ W, W = (w.alloc (.cells #[.int .i64 x.1, .int .i64 x.2] 72)).alloc (.cells #[.int .i64 0, .int .i64 0] 72) := ⟨_, rfl⟩
  have hBW : Below w.heap.size w W := by rw [hW]; exact ((Below.refl w.heap.size w).alloc (Nat.le_refl _) _).alloc (by simp) _
  have r0 : W.cell? ⟨w.heap.size, 0, none⟩ = some (.int .i64 x.1) := by rw [hW]; exact World.cell?_alloc2_first _ _ _ 0
  have r1 : W.cell? ⟨w.heap.size, 1, none⟩ = some (.int .i64 x.2) := by rw [hW]; exact World.cell?_alloc2_first _ _ _ 1
  rw [← hW]
  refine bodyPost_ret (v := .tuple #[.agg #[.int .i64 x.1, .int .i64 x.2], .int .i64 0]) ?_ rfl ⟨rfl, hBW⟩
  rw [results_cell_tmp rfl]
  go_simp
end
end Go.Proofs.Ytidkdidlndfbfaa.HP
