/- firstChild. -/
import Derived.Test.YtepgdeokjgjapaaQFQue
import Derived.Test.YtepgdeokjgjapaaAfter
namespace Go.Proofs.Ytepgdeokjgjapaa.QF
open Go.RowKit
attribute [local go_sem] run_store_float

/-- The child of a place that comes before the other one. -/
def firstC (l : List It) (k : Nat) : Nat :=
  match l[2 * k + 1 + 1]?, l[2 * k + 1]? with
  | some a, some b => if lt a b then 2 * k + 1 + 1 else 2 * k + 1
  | _, _ => 2 * k + 1
set_option maxHeartbeats 1000000 in
theorem child_any (w : World) (B P n k : Nat) (v : Value) (l : List It) (pl : List Nat) (h : QS w B P n v l pl) (hk : k < l.length) (hl : l.length ≤ 1024) :
    Calls Try.prog 106 #[.pointer (some ⟨P, 0, none⟩), .int .i64 (k : Nat)] w fun e w' => e = .returned (.int .i64 (firstC l k : Nat)) ∧ Below w.heap.size w w' := by
  obtain ⟨g, c, rfl, hc, hcm, hit, _, _⟩ := h.shape (by omega)
  obtain ⟨m, hm⟩ : ∃ m, m = l.length := ⟨_, rfl⟩
  have k2 : ∀ y : After w, y.w.cell? ⟨P, 2, none⟩ = some (.slice (some ⟨g, 0, none⟩) m c) := fun y => by rw [hm]; exact (h.below y.below).c2
  have hi0 : (0 : Int) ≤ (k : Int) := by omega
  have hi1 : (k : Int) ≤ 1024 := by omega
  by_cases hr : 2 * k + 1 + 1 < l.length
  · obtain ⟨a, ha⟩ : ∃ a, l[2 * k + 1 + 1]? = some a := ⟨_, List.getElem?_eq_getElem hr⟩
    obtain ⟨b, hb⟩ : ∃ b, l[2 * k + 1]? = some b := ⟨_, List.getElem?_eq_getElem (by omega)⟩
    have e : firstC l k = if lt a b then 2 * k + 1 + 1 else 2 * k + 1 := by unfold firstC; rw [ha, hb]
    have hri : decide (2 * (k : Int) + 1 + 1 < (m : Int)) = true := decide_eq_true (by omega)
    have hlm : (2 * (k : Int) + 1 + 1 < (m : Int)) := by omega
    have hlm2 : (2 * (k : Int) + 1 < (m : Int)) := by omega
    have a0 : ∀ y : After w, y.w.cell? ⟨g, (2 * k + 1 + 1) * 2, none⟩ = some (.int .i64 (a.1 : Nat)) := fun y => (y.below.cell (p := ⟨g, (2 * k + 1 + 1) * 2, none⟩) (lt_of_cell (hit _ _ ha).1)).trans (hit _ _ ha).1
    have a1 : ∀ y : After w, y.w.cell? ⟨g, (2 * k + 1 + 1) * 2 + 1, none⟩ = some (.float .f64 (fv a.2)) := fun y => (y.below.cell (p := ⟨g, (2 * k + 1 + 1) * 2 + 1, none⟩) (lt_of_cell (hit _ _ ha).2)).trans (hit _ _ ha).2
    have b0 : ∀ y : After w, y.w.cell? ⟨g, (2 * k + 1) * 2, none⟩ = some (.int .i64 (b.1 : Nat)) := fun y => (y.below.cell (p := ⟨g, (2 * k + 1) * 2, none⟩) (lt_of_cell (hit _ _ hb).1)).trans (hit _ _ hb).1
    have b1 : ∀ y : After w, y.w.cell? ⟨g, (2 * k + 1) * 2 + 1, none⟩ = some (.float .f64 (fv b.2)) := fun y => (y.below.cell (p := ⟨g, (2 * k + 1) * 2 + 1, none⟩) (lt_of_cell (hit _ _ hb).2)).trans (hit _ _ hb).2
    rw [e]
    clear h hit ha hb e hm
    go_enter Try.func106, Try.ntmps106
    go_wp2_with fail
    refine wp_region_after (by kernel_rfl) (by kernel_rfl) ?_
    repeat (go_big_quiet_step (first | (go_at_call 104; exact (before_any a b _).mono fun _ _ h => After.ends h)))
    refine wpQuiet_nil ?_
    intro _ hw'
    obtain ⟨y, hw''⟩ := hw'
    subst hw''
    go_wp2_with fail
    all_goals
      go_ret
      exact ⟨by simp, y.below⟩
  · have e : firstC l k = 2 * k + 1 := by unfold firstC; rw [List.getElem?_eq_none (by omega)]
    have hri : decide (2 * (k : Int) + 1 + 1 < (m : Int)) = false := decide_eq_false (by omega)
    rw [e]
    clear h hit e hm
    go_enter Try.func106, Try.ntmps106
    go_wp2_with fail
    refine wp_region_after (by kernel_rfl) (by kernel_rfl) ?_
    repeat (go_big_quiet_step (first | (go_at_call 104; exact (before_any z0 z0 _).mono fun _ _ h => After.ends h)))
    refine wpQuiet_nil ?_
    intro _ hw'
    obtain ⟨y, hw''⟩ := hw'
    subst hw''
    go_wp2_with fail
    all_goals
      go_ret
      exact ⟨by simp, y.below⟩
end Go.Proofs.Ytepgdeokjgjapaa.QF
