/- The reference's queue: New. -/
import Derived.Test.YtepgdeokjgjapaaQJPop
namespace Go.Proofs.Ytepgdeokjgjapaa.QJ
open Go.RowKit
theorem rnew_bad (s : Int) (hs : s < 1 ∨ 1024 < s) (w : World) : Calls Try.prog 13 #[.int .i64 s] w fun e w' => e = .returned (.tuple #[.pointer none, .int .i64 2]) ∧ w = w' := by
  rcases Int.lt_or_le s 1 with h0 | h0
  · go_enter Try.func13, Try.ntmps13
    go_wp2
    go_ret2
    exact ⟨rfl, rfl⟩
  · have h1 : (1024 : Int) < s := by omega
    go_enter Try.func13, Try.ntmps13
    go_wp2
    go_ret2
    exact ⟨rfl, rfl⟩
theorem infoB : (Try.prog.info? 4).map (fun i => (i.zero, i.size, i.bytes)) = some (some (.bool false), 1, 1) := by kernel_rfl
theorem infoJ : (Try.prog.info? 2).map (fun i => (i.zero, i.size, i.bytes)) = some (some (.int .i64 0), 1, 8) := by kernel_rfl
theorem made_cells (v : Value) (n : Nat) (h : v.cells = #[v]) : madeCells v.cells ((n : Int).toNat * 1) = Array.replicate n v := by
  apply Array.toList_inj.1
  have : madeCells v.cells ((n : Int).toNat * 1) = madeCells #[v] n := by rw [h]; simp
  rw [this, toList_madeCells_one]
  simp
theorem make_bools (n : Nat) (h : n ≤ 1024) (w : World) : (Instr.makeSlice 99 (.int .i64 (n : Int)) (.int .i64 (n : Int))).run Try.prog w = .ok (.slice (some ⟨w.heap.size, 0, none⟩) n n) (w.alloc (.cells (Array.replicate n (.bool false)) 4)) := by
  obtain ⟨i, hi, h1, h2, h3⟩ := info_parts infoB
  have := run_make (P := Try.prog) w 99 4 i _ Try.underlying99 hi h1 .i64 .i64 n n (by omega) (by omega) (by rw [h3]; omega) (by omega)
  rw [this, h2, made_cells _ _ (by simp [Value.cells])]
  rfl
theorem make_nums (n : Nat) (h : n ≤ 1024) (w : World) : (Instr.makeSlice 42 (.int .i64 (n : Int)) (.int .i64 (n : Int))).run Try.prog w = .ok (.slice (some ⟨w.heap.size, 0, none⟩) n n) (w.alloc (.cells (Array.replicate n (.int .i64 0)) 2)) := by
  obtain ⟨i, hi, h1, h2, h3⟩ := info_parts infoJ
  have := run_make (P := Try.prog) w 42 2 i _ Try.underlying42 hi h1 .i64 .i64 n n (by omega) (by omega) (by rw [h3]; omega) (by omega)
  rw [this, h2, made_cells _ _ (by simp [Value.cells])]
  rfl
theorem row_new {W : World} {B g n : Nat} {e : TypeId} {v : Value} (hB : B ≤ g) (h : W.heap[g]? = some (.cells (Array.replicate n v) e (0, 0))) (hn : n ≤ 1024) : W.ownsRow B e 1 (.slice (some ⟨g, 0, none⟩) n n) n (List.replicate n v) :=
  ⟨by simp, .inr ⟨g, n, _, rfl, hB, h, Nat.le_refl _, by unfold maxLen; omega, by simp, by simp⟩⟩
theorem three_new (w : World) (a b c : Obj) : ∀ W, W = (((w.alloc a).alloc b).alloc c).drew → W.heap[w.heap.size]? = some a ∧ W.heap[w.heap.size + 1]? = some b ∧ W.heap[w.heap.size + 1 + 1]? = some c ∧ Below w.heap.size w W := by
  rintro W rfl
  refine ⟨?_, ?_, ?_, ((((Below.refl _ w).alloc (Nat.le_refl _) _).alloc (by simp) _).alloc (by simp; omega) _).drew⟩
  · exact (Below.heap_alloc _ _ _ (by simp; omega)).trans ((Below.heap_alloc _ _ _ (by simp)).trans (World.alloc_heap_new w a))
  · refine (Below.heap_alloc _ _ _ (by simp)).trans ?_
    have := World.alloc_heap_new (w.alloc a) b
    rwa [World.size_alloc] at this
  · have := World.alloc_heap_new ((w.alloc a).alloc b) c
    rwa [World.size_alloc, World.size_alloc] at this
def RMade (w : World) (n : Nat) (e : Ending) (w' : World) : Prop :=
  ∃ R bI bP, e = .returned (.tuple #[.pointer (some ⟨R, 0, none⟩), .int .i64 0]) ∧ ROwn w' w.heap.size R n bI n bP n (List.replicate n (false, 0)) ∧ Below w.heap.size w w'
theorem rnew (n : Nat) (hn : 1 ≤ n ∧ n ≤ 1024) (w : World) : Calls Try.prog 13 #[.int .i64 (n : Nat)] w (RMade w n) := by
  have h1 : ¬ (n : Int) < 1 := by omega
  have h2 : ¬ (1024 : Int) < (n : Int) := by omega
  have m1 := make_bools n hn.2
  have m2 := make_nums n hn.2
  unfold RMade
  go_enter Try.func13, Try.ntmps13
  go_wp2
  go_region
  all_goals go_wp2
  · obtain ⟨h3, h4, h5, h6⟩ := three_new w (.cells (Array.replicate n (.bool false)) 4) (.cells (Array.replicate n (.int .i64 0)) 2) _ _ rfl
    go_ret2
    exact ⟨w.heap.size + 1 + 1, w.heap.size, w.heap.size + 1, rfl, ⟨by simp, hn.1, hn.2, by omega, by omega, by omega, by omega, h5, by simpa using row_new (Nat.le_refl _) h3 hn.2, by simpa using row_new (Nat.le_succ _) h4 hn.2⟩, h6⟩
  · obtain ⟨h3, h4, h5, h6⟩ := three_new w (.cells (Array.replicate n (.int .i64 0)) 2) (.cells (Array.replicate n (.bool false)) 4) _ _ rfl
    go_ret2
    exact ⟨w.heap.size + 1 + 1, w.heap.size + 1, w.heap.size, rfl, ⟨by simp, hn.1, hn.2, by omega, by omega, by omega, by omega, h5, by simpa using row_new (Nat.le_succ _) h4 hn.2, by simpa using row_new (Nat.le_refl _) h3 hn.2⟩, h6⟩
end Go.Proofs.Ytepgdeokjgjapaa.QJ
