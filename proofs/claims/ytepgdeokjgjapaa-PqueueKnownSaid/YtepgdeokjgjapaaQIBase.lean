/- Items of a queue, and their order. -/
import Derived.Test.YtepgdeokjgjapaaChecked
import Derived.WalkKit
import Derived.WalkSpells
import Derived.WalkLawsBesides
import Derived.Handy
import Derived.Lib.Hide
import Derived.Outline
import Derived.Deep.Draws
import Derived.BigQuiet
import Derived.RegionTactic
import Derived.Maps.AppendAt
import Derived.Laws.AppendOwn
import Derived.Laws.OwnMore
import Derived.LaidEqlPtr
import Derived.Deep.RegionWith
import Derived.Deep.RegionHeld3
namespace Go.Proofs.Ytepgdeokjgjapaa.QI
open Go.RowKit

abbrev Pr : Type := Int
abbrev It : Type := Nat × Pr
def ltP (a b : Pr) : Bool := decide (a < b)
def cmpP (a b : Pr) : Int := if ltP a b then -1 else if ltP b a then 1 else 0
def orI (a b : Int) : Int := if a = 0 then b else a
def lt (x y : It) : Bool := ltP x.2 y.2 || (!ltP y.2 x.2 && decide (x.1 < y.1))
def cells (x : It) : Array Value := #[.int .i64 (x.1 : Nat), .int .i64 x.2]

theorem isNaN_any (x : Pr) (w : World) : Calls Try.prog 119 #[.int .i64 x] w fun e w' => e = .returned (.bool false) ∧ w = w' := by
  go_enter Try.func119, Try.ntmps119
  go_wp2
  go_ret
  exact ⟨rfl, rfl⟩
theorem compare_any (x y : Pr) (w : World) : Calls Try.prog 114 #[.int .i64 x, .int .i64 y] w fun e w' => e = .returned (.int .i64 (cmpP x y)) ∧ w = w' := by
  by_cases h1 : x < y
  · have e : cmpP x y = -1 := by simp [cmpP, ltP, h1]
    rw [e]
    go_enter Try.func114, Try.ntmps114
    go_wp2_with (go_at_call 119; refine (isNaN_any _ _).mono ?_; rintro e w' ⟨rfl, rfl⟩)
    go_ret
    exact ⟨rfl, rfl⟩
  · by_cases h2 : y < x
    · have e : cmpP x y = 1 := by simp [cmpP, ltP, h1, h2]
      rw [e]
      go_enter Try.func114, Try.ntmps114
      go_wp2_with (go_at_call 119; refine (isNaN_any _ _).mono ?_; rintro e w' ⟨rfl, rfl⟩)
      go_ret
      exact ⟨rfl, rfl⟩
    · have e : cmpP x y = 0 := by simp [cmpP, ltP, h1, h2]
      rw [e]
      go_enter Try.func114, Try.ntmps114
      go_wp2_with (go_at_call 119; refine (isNaN_any _ _).mono ?_; rintro e w' ⟨rfl, rfl⟩)
      go_ret
      exact ⟨rfl, rfl⟩
theorem or_any (a b : Int) (g : Nat) (w : World) (h0 : w.cell? ⟨g, 0, none⟩ = some (.int .i64 a)) (h1 : w.cell? ⟨g, 1, none⟩ = some (.int .i64 b)) :
    Calls Try.prog 112 #[.slice (some ⟨g, 0, none⟩) 2 2] w fun e w' => e = .returned (.int .i64 (orI a b)) ∧ w = w' := by
  unfold orI
  by_cases ha : a = 0
  · rw [if_pos ha]
    by_cases hb : b = 0
    · go_enter Try.func112, Try.ntmps112
      go_wp2_with fail
      refine wp_loop_rounds 3 ?_
      rw [rounds_succ]
      go_wp2_with fail
      rw [rounds_succ]
      go_wp2_with fail
      rw [rounds_succ]
      go_wp2_with fail
      go_ret
      exact ⟨by rw [hb]; rfl, rfl⟩
    · go_enter Try.func112, Try.ntmps112
      go_wp2_with fail
      refine wp_loop_rounds 2 ?_
      rw [rounds_succ]
      go_wp2_with fail
      rw [rounds_succ]
      go_wp2_with fail
      go_ret
      exact ⟨rfl, rfl⟩
  · rw [if_neg ha]
    go_enter Try.func112, Try.ntmps112
    go_wp2_with fail
    refine wp_loop_rounds 1 ?_
    rw [rounds_succ]
    go_wp2_with fail
    go_ret
    exact ⟨rfl, rfl⟩
theorem lt_is (x y : It) : decide (orI (cmpP x.2 y.2) (cmpP (x.1 : Int) (y.1 : Int)) < 0) = lt x y := by
  unfold orI cmpP lt ltP
  by_cases h1 : x.2 < y.2
  · simp [h1]
  · by_cases h2 : y.2 < x.2
    · simp [h1, h2]
    · by_cases h3 : x.1 < y.1
      · simp [h1, h2, h3]
      · by_cases h4 : y.1 < x.1
        · simp [h1, h2, h3, h4]
        · simp [h1, h2, h3, h4]
set_option maxHeartbeats 1000000 in
theorem before_any (x y : It) (w : World) : Calls Try.prog 109 #[.agg (cells x), .agg (cells y)] w fun e w' => e = .returned (.bool (lt x y)) ∧ Below w.heap.size w w' := by
  unfold cells
  rw [← lt_is]
  go_enter Try.func109, Try.ntmps109
  go_wp2_with fail
  obtain ⟨W, hW⟩ : ∃ W, W = (w.alloc (.cells #[.int .i64 (x.1 : Nat), .int .i64 x.2] 138)).alloc (.cells #[.int .i64 (y.1 : Nat), .int .i64 y.2] 138) := ⟨_, rfl⟩
  have hB : Below w.heap.size w W := by rw [hW]; exact ((Below.refl _ w).alloc (Nat.le_refl _) _).alloc (by simp) _
  have c0 : W.cell? ⟨w.heap.size, 0, none⟩ = some (.int .i64 (x.1 : Nat)) := by rw [hW]; simp [go_sem]
  have c1 : W.cell? ⟨w.heap.size, 1, none⟩ = some (.int .i64 x.2) := by rw [hW]; simp [go_sem]
  have c2 : W.cell? ⟨w.heap.size + 1, 0, none⟩ = some (.int .i64 (y.1 : Nat)) := by rw [hW]; simp [go_sem]
  have c3 : W.cell? ⟨w.heap.size + 1, 1, none⟩ = some (.int .i64 y.2) := by rw [hW]; simp [go_sem]
  rw [← hW]
  clear hW
  go_region_held3 (fun w' => w'.cell? ⟨w.heap.size, 0, none⟩ = some (.int .i64 (x.1 : Nat)) ∧ w'.cell? ⟨w.heap.size, 1, none⟩ = some (.int .i64 x.2) ∧ w'.cell? ⟨w.heap.size + 1, 0, none⟩ = some (.int .i64 (y.1 : Nat)) ∧ w'.cell? ⟨w.heap.size + 1, 1, none⟩ = some (.int .i64 y.2))
    (first | go_keep | exact ⟨c0, c1, c2, c3⟩)
    (first
    | (go_at_call 114; refine (compare_any _ _ _).mono ?_; rintro e w' ⟨rfl, rfl⟩)
    | (go_at_call 112; refine (or_any (cmpP x.2 y.2) (cmpP x.1 y.1) _ _ (by simp [go_sem]) (by simp [go_sem])).mono ?_; rintro e w' ⟨rfl, rfl⟩))
  go_wp2_with fail
  go_ret
  exact ⟨rfl, ((hB.alloc hB.size _).drew)⟩
theorem parent_any (k : Nat) (hk : 0 < k) (hb : k ≤ 1024) (w : World) : Calls Try.prog 93 #[.int .i64 (k : Nat)] w fun e w' => e = .returned (.int .i64 ((k - 1) / 2 : Nat)) ∧ w = w' := by
  obtain ⟨j, rfl⟩ : ∃ j, k = j + 1 := ⟨k - 1, by omega⟩
  have e : ((j + 1 : Nat) : Int) - 1 = (j : Int) := by omega
  have h2 : Int.tdiv (j : Int) 2 = ((j / 2 : Nat) : Int) := rfl
  go_enter Try.func93, Try.ntmps93
  go_wp2
  go_ret
  simp
end Go.Proofs.Ytepgdeokjgjapaa.QI
