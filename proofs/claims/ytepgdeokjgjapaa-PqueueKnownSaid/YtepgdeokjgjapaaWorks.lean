/- The examples of the chapter. -/
import Derived.Test.YtepgdeokjgjapaaQIHas
namespace Go.Proofs.Ytepgdeokjgjapaa
open Go.RowKit QI
theorem neq_none78 (a : Addr) (w : World) : (binOp .eql 78 (.pointer (some a)) (.pointer none)).run Try.prog w = .ok (.bool false) w := by
  have h : ∀ d : Nat, (Op.equalIn (d + 1) 78 (.pointer (some a)) (.pointer none)).run Try.prog w = .ok false w := fun d => by
    simp [Op.equalIn, run_underlying Try.underlying78]
  simp only [binOp]
  simp [Op.equal, Op.maxDepth, h 9999]
set_option maxHeartbeats 4000000 in
set_option maxRecDepth 100000 in
theorem works_any (w : World) : Calls Try.prog 11 #[] w fun e w' => e = .returned (.bool true) ∧ Below w.heap.size w w' := by
  have hq := neq_none78
  go_enter Try.func11, Try.ntmps11
  go_wp2_with fail
  refine (has_new 8 _ (by decide) (by decide)).mono ?_
  rintro e w1 ⟨rfl, g1⟩
  go_wp2_with fail
  refine (has_push g1.out 3 10 (by decide) (by simp)).mono ?_
  rintro e w2 ⟨rfl, g2⟩
  clear g1
  go_wp2_with fail
  refine (has_push g2.out 1 10 (by decide) (by simp)).mono ?_
  rintro e w3 ⟨rfl, g3⟩
  clear g2
  go_wp2_with fail
  refine (has_push g3.out 5 4 (by decide) (by simp)).mono ?_
  rintro e w4 ⟨rfl, g4⟩
  clear g3
  go_wp2_with fail
  refine (has_push_have g4.out (5, 4) 1 (by simp)).mono ?_
  rintro e w5 ⟨rfl, rfl⟩
  go_wp2_with fail
  refine (has_push_out g4.out 8 1 (by decide)).mono ?_
  rintro e w5 ⟨rfl, rfl⟩
  go_wp2_with fail
  refine (has_peek g4.out (x := (5, 4)) (t := [(1, 10), (3, 10)]) (by simp [Rising, lt, ltP]) (by decide)).mono ?_
  rintro e w6 ⟨rfl, g6⟩
  clear g4
  go_wp2_with fail
  refine (has_change g6.out (y := (3, 10)) (t := [(5, 4), (1, 10)]) 2 (by decide)).mono ?_
  rintro e w7 ⟨rfl, g7⟩
  clear g6
  go_wp2_with fail
  refine (has_change_none g7.out 0 2 (by decide) (by simp)).mono ?_
  rintro e w8 ⟨rfl, rfl⟩
  go_wp2_with fail
  refine (has_remove g7.out (y := (5, 4)) (t := [(3, 2), (1, 10)]) (by decide)).mono ?_
  rintro e w9 ⟨rfl, g9⟩
  clear g7
  go_wp2_with fail
  refine (has_pop g9.out (x := (3, 2)) (t := [(1, 10)]) (by simp [Rising, lt, ltP]) (by decide)).mono ?_
  rintro e w10 ⟨rfl, g10⟩
  clear g9
  go_wp2_with fail
  refine (has_pop g10.out (x := (1, 10)) (t := []) (by simp [Rising]) (by decide)).mono ?_
  rintro e w11 ⟨rfl, g11⟩
  clear g10
  go_wp2_with fail
  refine (has_pop_none g11.out).mono ?_
  rintro e w12 ⟨rfl, rfl⟩
  go_wp2_with fail
  refine (has_len g11.out).mono ?_
  rintro e w12 ⟨rfl, rfl⟩
  go_wp2_with fail
  obtain ⟨v, G, pl, h1, h2, h3⟩ := g11.out
  go_ret
  exact ⟨rfl, h3⟩
end Go.Proofs.Ytepgdeokjgjapaa
