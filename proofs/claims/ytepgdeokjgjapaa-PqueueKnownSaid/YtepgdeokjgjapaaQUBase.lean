/- Items of a queue of uint8, and their order. -/
import Derived.Test.YtepgdeokjgjapaaQIBase
import Derived.WideShapes
import Derived.Sort.Walk0
import Derived.Test.YtepgdeokjgjapaaHeap
namespace Go.Proofs.Ytepgdeokjgjapaa.QU
open Go.RowKit

abbrev Pr : Type := Int
abbrev It : Type := Nat × Pr
def ltP (a b : Pr) : Bool := decide (a < b)
theorem ltP_irrefl (a : Pr) : ltP a a = false := by simp [ltP]
theorem ltP_trans {a b c : Pr} (h1 : ltP a b = true) (h2 : ltP b c = true) : ltP a c = true := by
  simp only [ltP, decide_eq_true_eq] at *; exact Int.lt_trans h1 h2
theorem ltP_anti {a b : Pr} (h1 : ltP a b = false) (h2 : ltP b a = false) : a = b := by
  simp only [ltP, decide_eq_false_iff_not] at *; exact Int.le_antisymm (Int.not_lt.1 h2) (Int.not_lt.1 h1)
theorem ltP_asym {a b : Pr} (h : ltP a b = true) : ltP b a = false := by
  simp only [ltP, decide_eq_true_eq, decide_eq_false_iff_not] at *; exact fun h' => Int.lt_irrefl a (Int.lt_trans h h')
def cmpP (a b : Pr) : Int := if ltP a b then -1 else if ltP b a then 1 else 0
def lt (x y : It) : Bool := ltP x.2 y.2 || (!ltP y.2 x.2 && decide (x.1 < y.1))
def cells (x : It) : Array Value := #[.int .i64 (x.1 : Nat), .int .u8 x.2]

theorem isNaN_any (x : Pr) (w : World) : Calls Try.prog 121 #[.int .u8 x] w fun e w' => e = .returned (.bool false) ∧ w = w' := by
  go_enter Try.func121, Try.ntmps121
  go_wp2
  go_ret
  exact ⟨rfl, rfl⟩
theorem compare_any (x y : Pr) (w : World) : Calls Try.prog 116 #[.int .u8 x, .int .u8 y] w fun e w' => e = .returned (.int .i64 (cmpP x y)) ∧ w = w' := by
  by_cases h1 : x < y
  · have e : cmpP x y = -1 := by simp [cmpP, ltP, h1]
    rw [e]
    go_enter Try.func116, Try.ntmps116
    go_wp2_with (go_at_call 121; refine (isNaN_any _ _).mono ?_; rintro e w' ⟨rfl, rfl⟩)
    go_ret
    exact ⟨rfl, rfl⟩
  · by_cases h2 : y < x
    · have e : cmpP x y = 1 := by simp [cmpP, ltP, h1, h2]
      rw [e]
      go_enter Try.func116, Try.ntmps116
      go_wp2_with (go_at_call 121; refine (isNaN_any _ _).mono ?_; rintro e w' ⟨rfl, rfl⟩)
      go_ret
      exact ⟨rfl, rfl⟩
    · have e : cmpP x y = 0 := by simp [cmpP, ltP, h1, h2]
      rw [e]
      go_enter Try.func116, Try.ntmps116
      go_wp2_with (go_at_call 121; refine (isNaN_any _ _).mono ?_; rintro e w' ⟨rfl, rfl⟩)
      go_ret
      exact ⟨rfl, rfl⟩
theorem lt_is (x y : It) : decide (QI.orI (cmpP x.2 y.2) (QI.cmpP (x.1 : Int) (y.1 : Int)) < 0) = lt x y := by
  unfold QI.orI cmpP QI.cmpP lt QI.ltP
  cases h1 : ltP x.2 y.2 with
  | true => simp
  | false =>
    cases h2 : ltP y.2 x.2 with
    | true => simp
    | false =>
      by_cases h3 : x.1 < y.1
      · simp [h3]
      · by_cases h4 : y.1 < x.1
        · simp [h3, h4]
        · simp [h3, h4]
set_option maxHeartbeats 1000000 in
theorem before_any (x y : It) (w : World) : Calls Try.prog 100 #[.agg (cells x), .agg (cells y)] w fun e w' => e = .returned (.bool (lt x y)) ∧ Below w.heap.size w w' := by
  unfold cells
  rw [← lt_is]
  go_enter Try.func100, Try.ntmps100
  go_wp2_with fail
  obtain ⟨W, hW⟩ : ∃ W, W = (w.alloc (.cells #[.int .i64 (x.1 : Nat), .int .u8 x.2] 130)).alloc (.cells #[.int .i64 (y.1 : Nat), .int .u8 y.2] 130) := ⟨_, rfl⟩
  have hB : Below w.heap.size w W := by rw [hW]; exact ((Below.refl _ w).alloc (Nat.le_refl _) _).alloc (by simp) _
  have c0 : W.cell? ⟨w.heap.size, 0, none⟩ = some (.int .i64 (x.1 : Nat)) := by rw [hW]; simp [go_sem]
  have c1 : W.cell? ⟨w.heap.size, 1, none⟩ = some (.int .u8 x.2) := by rw [hW]; simp [go_sem]
  have c2 : W.cell? ⟨w.heap.size + 1, 0, none⟩ = some (.int .i64 (y.1 : Nat)) := by rw [hW]; simp [go_sem]
  have c3 : W.cell? ⟨w.heap.size + 1, 1, none⟩ = some (.int .u8 y.2) := by rw [hW]; simp [go_sem]
  rw [← hW]
  clear hW
  go_region_held3 (fun w' => w'.cell? ⟨w.heap.size, 0, none⟩ = some (.int .i64 (x.1 : Nat)) ∧ w'.cell? ⟨w.heap.size, 1, none⟩ = some (.int .u8 x.2) ∧ w'.cell? ⟨w.heap.size + 1, 0, none⟩ = some (.int .i64 (y.1 : Nat)) ∧ w'.cell? ⟨w.heap.size + 1, 1, none⟩ = some (.int .u8 y.2))
    (first | go_keep | exact ⟨c0, c1, c2, c3⟩)
    (first
    | (go_at_call 116; refine (compare_any _ _ _).mono ?_; rintro e w' ⟨rfl, rfl⟩)
    | (go_at_call 114; refine (QI.compare_any _ _ _).mono ?_; rintro e w' ⟨rfl, rfl⟩)
    | (go_at_call 112; refine (QI.or_any (cmpP x.2 y.2) (QI.cmpP x.1 y.1) _ _ (by simp [go_sem]) (by simp [go_sem])).mono ?_; rintro e w' ⟨rfl, rfl⟩))
  go_wp2_with fail
  go_ret
  exact ⟨rfl, ((hB.alloc hB.size _).drew)⟩
theorem parent_any (k : Nat) (hk : 0 < k) (hb : k ≤ 1024) (w : World) : Calls Try.prog 93 #[.int .i64 (k : Nat)] w fun e w' => e = .returned (.int .i64 ((k - 1) / 2 : Nat)) ∧ w = w' := QI.parent_any k hk hb w
end Go.Proofs.Ytepgdeokjgjapaa.QU
