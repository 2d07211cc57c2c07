/- Items of a queue of strings, and their order. -/
import Derived.Test.YtfpolnokdebncaaQIBase
import Derived.WideShapes
import Derived.Sort.Walk0
import Derived.Test.YtfpolnokdebncaaHeap
namespace Go.Proofs.Ytfpolnokdebncaa.QT
open Go.RowKit

abbrev Pr : Type := ByteArray
abbrev It : Type := Nat × Pr
def ltP (a b : Pr) : Bool := Op.bytesLess a.toList b.toList
theorem ltP_eq (a b : Pr) : ltP a b = decide (a.data.toList < b.data.toList) := by unfold ltP; rw [Go.Proofs.bytesLess_eq, ByteArray.toList_eq, ByteArray.toList_eq]
theorem ltP_irrefl (a : Pr) : ltP a a = false := by rw [ltP_eq]; simp
theorem ltP_trans {a b c : Pr} (h1 : ltP a b = true) (h2 : ltP b c = true) : ltP a c = true := by
  rw [ltP_eq] at *; simp only [decide_eq_true_eq] at *; exact List.lt_trans h1 h2
theorem ltP_anti {a b : Pr} (h1 : ltP a b = false) (h2 : ltP b a = false) : a = b := by
  rw [ltP_eq] at h1 h2; simp only [decide_eq_false_iff_not] at h1 h2; exact Go.WideShapes.bytes_inj (List.le_antisymm (List.not_lt.1 h2) (List.not_lt.1 h1))
theorem ltP_asym {a b : Pr} (h : ltP a b = true) : ltP b a = false := by
  cases h2 : ltP b a with
  | false => rfl
  | true => have := ltP_trans h h2; rw [ltP_irrefl] at this; cases this
def cmpP (a b : Pr) : Int := if ltP a b then -1 else if ltP b a then 1 else 0
def lt (x y : It) : Bool := ltP x.2 y.2 || (!ltP y.2 x.2 && decide (x.1 < y.1))
def cells (x : It) : Array Value := #[.int .i64 (x.1 : Nat), .string x.2]

theorem isNaN_any (x : Pr) (w : World) : Calls Try.prog 120 #[.string x] w fun e w' => e = .returned (.bool false) ∧ w = w' := by
  go_enter Try.func120, Try.ntmps120
  go_wp2
  go_ret
  exact ⟨rfl, rfl⟩
theorem compare_any (x y : Pr) (w : World) : Calls Try.prog 115 #[.string x, .string y] w fun e w' => e = .returned (.int .i64 (cmpP x y)) ∧ w = w' := by
  cases h1 : ltP x y with
  | true =>
    have e : cmpP x y = -1 := by simp [cmpP, h1]
    have q1 : Op.bytesLess x.toList y.toList = true := h1
    rw [e]
    go_enter Try.func115, Try.ntmps115
    go_wp2_with (go_at_call 120; refine (isNaN_any _ _).mono ?_; rintro e w' ⟨rfl, rfl⟩)
    go_ret
    exact ⟨rfl, rfl⟩
  | false =>
    have q1 : Op.bytesLess x.toList y.toList = false := h1
    cases h2 : ltP y x with
    | true =>
      have e : cmpP x y = 1 := by simp [cmpP, h1, h2]
      have q2 : Op.bytesLess y.toList x.toList = true := h2
      have q3 : (x.toList == y.toList) = false := by
        rw [beq_eq_false_iff_ne]
        intro h3
        rw [h3] at q1 q2
        rw [q1] at q2
        cases q2
      rw [e]
      go_enter Try.func115, Try.ntmps115
      go_wp2_with (go_at_call 120; refine (isNaN_any _ _).mono ?_; rintro e w' ⟨rfl, rfl⟩)
      go_ret
      exact ⟨rfl, rfl⟩
    | false =>
      have e : cmpP x y = 0 := by simp [cmpP, h1, h2]
      have q2 : Op.bytesLess y.toList x.toList = false := h2
      have q3 : (x.toList == y.toList) = true := by rw [ltP_anti h1 h2]; simp
      rw [e]
      go_enter Try.func115, Try.ntmps115
      go_wp2_with (go_at_call 120; refine (isNaN_any _ _).mono ?_; rintro e w' ⟨rfl, rfl⟩)
      go_ret
      exact ⟨rfl, rfl⟩
theorem lt_is (x y : It) : decide (QI.orI (cmpP x.2 y.2) (QI.cmpP (x.1 : Int) (y.1 : Int)) < 0) = lt x y := by
  unfold QI.orI cmpP QI.cmpP lt QI.ltP
  cases h1 : ltP x.2 y.2 with
  | true => simp
  | false =>
    cases h2 : ltP y.2 x.2 with
    | true => simp
    | false =>
      by_cases h3 : x.1 < y.1
      · simp [h3]
      · by_cases h4 : y.1 < x.1
        · simp [h3, h4]
        · simp [h3, h4]
set_option maxHeartbeats 1000000 in
theorem before_any (x y : It) (w : World) : Calls Try.prog 96 #[.agg (cells x), .agg (cells y)] w fun e w' => e = .returned (.bool (lt x y)) ∧ Below w.heap.size w w' := by
  unfold cells
  rw [← lt_is]
  go_enter Try.func96, Try.ntmps96
  go_wp2_with fail
  obtain ⟨W, hW⟩ : ∃ W, W = (w.alloc (.cells #[.int .i64 (x.1 : Nat), .string x.2] 115)).alloc (.cells #[.int .i64 (y.1 : Nat), .string y.2] 115) := ⟨_, rfl⟩
  have hB : Below w.heap.size w W := by rw [hW]; exact ((Below.refl _ w).alloc (Nat.le_refl _) _).alloc (by simp) _
  have c0 : W.cell? ⟨w.heap.size, 0, none⟩ = some (.int .i64 (x.1 : Nat)) := by rw [hW]; simp [go_sem]
  have c1 : W.cell? ⟨w.heap.size, 1, none⟩ = some (.string x.2) := by rw [hW]; simp [go_sem]
  have c2 : W.cell? ⟨w.heap.size + 1, 0, none⟩ = some (.int .i64 (y.1 : Nat)) := by rw [hW]; simp [go_sem]
  have c3 : W.cell? ⟨w.heap.size + 1, 1, none⟩ = some (.string y.2) := by rw [hW]; simp [go_sem]
  rw [← hW]
  clear hW
  go_region_held3 (fun w' => w'.cell? ⟨w.heap.size, 0, none⟩ = some (.int .i64 (x.1 : Nat)) ∧ w'.cell? ⟨w.heap.size, 1, none⟩ = some (.string x.2) ∧ w'.cell? ⟨w.heap.size + 1, 0, none⟩ = some (.int .i64 (y.1 : Nat)) ∧ w'.cell? ⟨w.heap.size + 1, 1, none⟩ = some (.string y.2))
    (first | go_keep | exact ⟨c0, c1, c2, c3⟩)
    (first
    | (go_at_call 115; refine (compare_any _ _ _).mono ?_; rintro e w' ⟨rfl, rfl⟩)
    | (go_at_call 114; refine (QI.compare_any _ _ _).mono ?_; rintro e w' ⟨rfl, rfl⟩)
    | (go_at_call 112; refine (QI.or_any (cmpP x.2 y.2) (QI.cmpP x.1 y.1) _ _ (by simp [go_sem]) (by simp [go_sem])).mono ?_; rintro e w' ⟨rfl, rfl⟩))
  go_wp2_with fail
  go_ret
  exact ⟨rfl, ((hB.alloc hB.size _).drew)⟩
theorem parent_any (k : Nat) (hk : 0 < k) (hb : k ≤ 1024) (w : World) : Calls Try.prog 93 #[.int .i64 (k : Nat)] w fun e w' => e = .returned (.int .i64 ((k - 1) / 2 : Nat)) ∧ w = w' := QI.parent_any k hk hb w
end Go.Proofs.Ytfpolnokdebncaa.QT
