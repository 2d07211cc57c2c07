/- Items of a queue of float64 (four numbers: -0.5, 0, 0.25, 0.5), and their order. -/
import Derived.Test.YtepgdeokjgjapaaQIBase
import Derived.WideShapes
import Derived.Sort.Walk0
import Derived.Test.YtepgdeokjgjapaaHeap
namespace Go.Proofs.Ytepgdeokjgjapaa.QF
open Go.RowKit

abbrev Pr : Type := Fin 4
abbrev It : Type := Nat × Pr
/-- The bits of the four numbers, in their order. -/
def fv (p : Pr) : Nat := if p.val = 0 then 13826050856027422720 else if p.val = 1 then 0 else if p.val = 2 then 4598175219545276416 else 4602678819172646912
theorem fv_one : fv 1 = 0 := rfl
def ltP (a b : Pr) : Bool := decide (a.val < b.val)
theorem ltP_irrefl (a : Pr) : ltP a a = false := by simp [ltP]
theorem ltP_trans {a b c : Pr} (h1 : ltP a b = true) (h2 : ltP b c = true) : ltP a c = true := by
  simp only [ltP, decide_eq_true_eq] at *; exact Nat.lt_trans h1 h2
theorem ltP_anti {a b : Pr} (h1 : ltP a b = false) (h2 : ltP b a = false) : a = b := by
  simp only [ltP, decide_eq_false_iff_not] at *; exact Fin.ext (by omega)
theorem ltP_asym {a b : Pr} (h : ltP a b = true) : ltP b a = false := by
  simp only [ltP, decide_eq_true_eq, decide_eq_false_iff_not] at *; omega
def cmpP (a b : Pr) : Int := if ltP a b then -1 else if ltP b a then 1 else 0
def lt (x y : It) : Bool := ltP x.2 y.2 || (!ltP y.2 x.2 && decide (x.1 < y.1))
def cells (x : It) : Array Value := #[.int .i64 (x.1 : Nat), .float .f64 (fv x.2)]

theorem run_store_float (P : Program) (w : World) (a : Addr) (m : Mode) (k : FloatKind) (n : Nat) : (store a (.float k n) m).run P w = stored P w a (.float k n) m := run_store P w a _ m rfl
theorem four (x : Pr) : x = 0 ∨ x = 1 ∨ x = 2 ∨ x = 3 := by
  obtain ⟨n, hn⟩ := x
  rcases (show n = 0 ∨ n = 1 ∨ n = 2 ∨ n = 3 by omega) with rfl | rfl | rfl | rfl
  · exact .inl rfl
  · exact .inr (.inl rfl)
  · exact .inr (.inr (.inl rfl))
  · exact .inr (.inr (.inr rfl))
theorem neq_same (x : Pr) : (FloatKind.f64.format.order (fv x) (fv x) != some Ordering.eq) = false := by
  rcases four x with rfl | rfl | rfl | rfl <;> exact (show _ = _ from by kernel_rfl)
theorem lss_any (x y : Pr) : (FloatKind.f64.format.order (fv x) (fv y) == some Ordering.lt) = ltP x y := by
  rcases four x with rfl | rfl | rfl | rfl <;> rcases four y with rfl | rfl | rfl | rfl <;> exact (show _ = _ from by kernel_rfl)
theorem gtr_any (x y : Pr) : (FloatKind.f64.format.order (fv x) (fv y) == some Ordering.gt) = ltP y x := by
  rcases four x with rfl | rfl | rfl | rfl <;> rcases four y with rfl | rfl | rfl | rfl <;> exact (show _ = _ from by kernel_rfl)
theorem isNaN_any (x : Pr) (w : World) : Calls Try.prog 122 #[.float .f64 (fv x)] w fun e w' => e = .returned (.bool false) ∧ w = w' := by
  have h := neq_same x
  go_enter Try.func122, Try.ntmps122
  go_wp2
  go_ret
  exact ⟨rfl, rfl⟩
theorem compare_any (x y : Pr) (w : World) : Calls Try.prog 117 #[.float .f64 (fv x), .float .f64 (fv y)] w fun e w' => e = .returned (.int .i64 (cmpP x y)) ∧ w = w' := by
  have q1 := lss_any x y
  have q2 := gtr_any x y
  cases h1 : ltP x y with
  | true =>
    have e : cmpP x y = -1 := by simp [cmpP, h1]
    rw [e]
    rw [h1] at q1
    go_enter Try.func117, Try.ntmps117
    go_wp2_with (go_at_call 122; refine (isNaN_any _ _).mono ?_; rintro e w' ⟨rfl, rfl⟩)
    all_goals first | (exfalso; simp_all; done) | (go_ret; exact ⟨rfl, rfl⟩)
  | false =>
    rw [h1] at q1
    cases h2 : ltP y x with
    | true =>
      have e : cmpP x y = 1 := by simp [cmpP, h1, h2]
      rw [e]
      rw [h2] at q2
      go_enter Try.func117, Try.ntmps117
      go_wp2_with (go_at_call 122; refine (isNaN_any _ _).mono ?_; rintro e w' ⟨rfl, rfl⟩)
      all_goals first | (exfalso; simp_all; done) | (go_ret; exact ⟨rfl, rfl⟩)
    | false =>
      have e : cmpP x y = 0 := by simp [cmpP, h1, h2]
      rw [e]
      rw [h2] at q2
      go_enter Try.func117, Try.ntmps117
      go_wp2_with (go_at_call 122; refine (isNaN_any _ _).mono ?_; rintro e w' ⟨rfl, rfl⟩)
      all_goals first | (exfalso; simp_all; done) | (go_ret; exact ⟨rfl, rfl⟩)
theorem lt_is (x y : It) : decide (QI.orI (cmpP x.2 y.2) (QI.cmpP (x.1 : Int) (y.1 : Int)) < 0) = lt x y := by
  unfold QI.orI cmpP QI.cmpP lt QI.ltP
  cases h1 : ltP x.2 y.2 with
  | true => simp
  | false =>
    cases h2 : ltP y.2 x.2 with
    | true => simp
    | false =>
      by_cases h3 : x.1 < y.1
      · simp [h3]
      · by_cases h4 : y.1 < x.1
        · simp [h3, h4]
        · simp [h3, h4]
set_option maxHeartbeats 1040000 in
theorem before_any (x y : It) (w : World) : Calls Try.prog 104 #[.agg (cells x), .agg (cells y)] w fun e w' => e = .returned (.bool (lt x y)) ∧ Below w.heap.size w w' := by
  unfold cells
  rw [← lt_is]
  go_enter Try.func104, Try.ntmps104
  go_wp2_with fail
  obtain ⟨W, hW⟩ : ∃ W, W = (w.alloc (.cells #[.int .i64 (x.1 : Nat), .float .f64 (fv x.2)] 133)).alloc (.cells #[.int .i64 (y.1 : Nat), .float .f64 (fv y.2)] 133) := ⟨_, rfl⟩
  have hB : Below w.heap.size w W := by rw [hW]; exact ((Below.refl _ w).alloc (Nat.le_refl _) _).alloc (by simp) _
  have c0 : W.cell? ⟨w.heap.size, 0, none⟩ = some (.int .i64 (x.1 : Nat)) := by rw [hW]; simp [go_sem]
  have c1 : W.cell? ⟨w.heap.size, 1, none⟩ = some (.float .f64 (fv x.2)) := by rw [hW]; simp [go_sem]
  have c2 : W.cell? ⟨w.heap.size + 1, 0, none⟩ = some (.int .i64 (y.1 : Nat)) := by rw [hW]; simp [go_sem]
  have c3 : W.cell? ⟨w.heap.size + 1, 1, none⟩ = some (.float .f64 (fv y.2)) := by rw [hW]; simp [go_sem]
  rw [← hW]
  clear hW
  go_region_held3 (fun w' => w'.cell? ⟨w.heap.size, 0, none⟩ = some (.int .i64 (x.1 : Nat)) ∧ w'.cell? ⟨w.heap.size, 1, none⟩ = some (.float .f64 (fv x.2)) ∧ w'.cell? ⟨w.heap.size + 1, 0, none⟩ = some (.int .i64 (y.1 : Nat)) ∧ w'.cell? ⟨w.heap.size + 1, 1, none⟩ = some (.float .f64 (fv y.2)))
    (first | go_keep | exact ⟨c0, c1, c2, c3⟩)
    (first
    | (go_at_call 117; refine (compare_any _ _ _).mono ?_; rintro e w' ⟨rfl, rfl⟩)
    | (go_at_call 114; refine (QI.compare_any _ _ _).mono ?_; rintro e w' ⟨rfl, rfl⟩)
    | (go_at_call 112; refine (QI.or_any (cmpP x.2 y.2) (QI.cmpP x.1 y.1) _ _ (by simp [go_sem]) (by simp [go_sem])).mono ?_; rintro e w' ⟨rfl, rfl⟩))
  go_wp2_with fail
  go_ret
  exact ⟨rfl, ((hB.alloc hB.size _).drew)⟩
theorem parent_any (k : Nat) (hk : 0 < k) (hb : k ≤ 1024) (w : World) : Calls Try.prog 93 #[.int .i64 (k : Nat)] w fun e w' => e = .returned (.int .i64 ((k - 1) / 2 : Nat)) ∧ w = w' := QI.parent_any k hk hb w
end Go.Proofs.Ytepgdeokjgjapaa.QF
