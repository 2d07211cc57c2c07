/- Contracts of the specification's own digits and Short. -/
import Derived.Test.YtfkkpgklciehoaaDoorRRep
import Derived.Deep.RegionWith
import Derived.BigRegion
import Derived.Deep.RegionHeld3
namespace Go.Proofs.YtfkkpgklciehoaaDoor
open Go.RowKit Go.PlainAid

set_option maxHeartbeats 1000000 in
theorem rdig_small (n : Nat) (h : n < 10) (w : World) : Calls Tryd.prog 33 #[.int .i64 (n : Int)] w fun e w' => e = .returned (.string (decS n)) ∧ w' = w := by
  rw [decS_eq, decN_small h]
  have h16 : n = 0 ∨ n = 1 ∨ n = 2 ∨ n = 3 ∨ n = 4 ∨ n = 5 ∨ n = 6 ∨ n = 7 ∨ n = 8 ∨ n = 9 := by omega
  clear h
  rcases h16 with rfl | rfl | rfl | rfl | rfl | rfl | rfl | rfl | rfl | rfl
  all_goals go_enter Tryd.func33, Tryd.ntmps33
  all_goals go_wp2
  all_goals go_ret
  all_goals exact ⟨ret_str (by decide +kernel), rfl⟩

set_option maxHeartbeats 1000000 in
theorem rdig_any (u : Nat) (hu : u < 1000000000) (w : World) : Calls Tryd.prog 33 #[.int .i64 (u : Int)] w fun e w' => e = .returned (.string (decS u)) ∧ w' = w := by
  induction u using Nat.strongRecOn generalizing w with
  | _ u ih =>
    by_cases h : u < 10
    · exact rdig_small u h w
    · have e : decS u = decS (u / 10) ++ decS (u % 10) := by
        rw [decS_eq, decS_eq, decS_eq, decN_big h, str_app, decN_small (show u % 10 < 10 by omega)]
      rw [e]
      obtain ⟨a, ha⟩ : ∃ a : Int, a = ((u / 10 : Nat) : Int) := ⟨_, rfl⟩
      obtain ⟨b, hb⟩ : ∃ b : Int, b = ((u % 10 : Nat) : Int) := ⟨_, rfl⟩
      have i1 : ∀ w, Calls Tryd.prog 33 #[.int .i64 a] w fun e w' => e = .returned (.string (decS (u / 10))) ∧ w' = w := by rw [ha]; exact ih (u / 10) (by omega) (by omega)
      have i2 : ∀ w, Calls Tryd.prog 33 #[.int .i64 b] w fun e w' => e = .returned (.string (decS (u % 10))) ∧ w' = w := by rw [hb]; exact rdig_small (u % 10) (by omega)
      have s1 := decS_le (u / 10) (by omega)
      have s2 := decS_le (u % 10) (by omega)
      have q1 : (u : Int).tdiv 10 = a := by rw [Int.tdiv_eq_ediv_of_nonneg (by omega)]; omega
      have q2 : (u : Int).tmod 10 = b := by rw [Int.tmod_eq_emod_of_nonneg (by omega)]; omega
      have q5 : (u : Int) / 10 = a := by omega
      have q6 : (u : Int) % 10 = b := by omega
      have q3 : IntKind.i64.wrap a = a := IntWalk.i64_in _ ⟨by omega, by omega⟩
      have q4 : IntKind.i64.wrap b = b := IntWalk.i64_in _ ⟨by omega, by omega⟩
      have I1 := Lib.hid i1
      have I2 := Lib.hid i2
      obtain ⟨x, hx⟩ : ∃ x, x = decS (u / 10) := ⟨_, rfl⟩
      obtain ⟨y, hy⟩ : ∃ y, y = decS (u % 10) := ⟨_, rfl⟩
      rw [← hx] at I1 s1 ⊢
      rw [← hy] at I2 s2 ⊢
      clear e ih i1 i2 ha hb hx hy
      go_enter Tryd.func33, Tryd.ntmps33
      go_wp2_with fail
      go_at_call 33
      refine (I1.out _).mono ?_
      rintro e w' ⟨rfl, rfl⟩
      go_wp2_with fail
      go_at_call 33
      refine (I2.out _).mono ?_
      rintro e w' ⟨rfl, rfl⟩
      go_wp2_with fail
      go_ret
      exact ⟨rfl, rfl⟩

set_option maxRecDepth 100000 in
set_option maxHeartbeats 2000000 in
theorem rshort_any (s : ByteArray) (w : World) (hs : s.size ≤ 1000000) : Calls Tryd.prog 23 #[.string s] w fun e w' => e = .returned (.string (strOfNums (shoL s))) ∧ Below w.heap.size w w' := by
  have i1 : ∀ w, Calls Tryd.prog 33 #[.int .i64 (s.size : Int)] w fun e w' => e = .returned (.string (decS s.size)) ∧ w' = w := rdig_any s.size (by omega)
  have I1 := Lib.hid i1
  have s1 := decS_le s.size (by omega)
  clear i1
  by_cases h8 : 8 < s.size
  · have e : strOfNums (shoL s) = decS s.size ++ ⟨#[58]⟩ ++ strOfNums (hexL ((bts s).take 8)) ++ ⟨#[46, 46]⟩ := by
      unfold shoL
      rw [if_pos h8, decS_eq, show (⟨#[58]⟩ : ByteArray) = strOfNums [58] from rfl, show (⟨#[46, 46]⟩ : ByteArray) = strOfNums [46, 46] from rfl, str_app, str_app, str_app]
    rw [e]
    have s2 : (strOfNums (hexL ((bts s).take 8))).size ≤ 16 := by rw [strOfNums_size, hexL_length, List.length_take]; omega
    have s3 := pre_size s 8 (by omega)
    have e1 : ∀ W, (Instr.slice 9 (.string s) none (some (.int .i64 8)) none).run Tryd.prog W = .ok (.string (s.extract 0 8)) W := fun W => run_slice_string_h W 9 s Tryd.underlying9 .i64 8 (by decide) (by omega)
    have e5 := bts_pre s 8
    obtain ⟨p, hp⟩ : ∃ p, p = s.extract 0 8 := ⟨_, rfl⟩
    obtain ⟨d, hd⟩ : ∃ d, d = decS s.size := ⟨_, rfl⟩
    obtain ⟨h, hh⟩ : ∃ h, h = strOfNums (hexL ((bts s).take 8)) := ⟨_, rfl⟩
    rw [← hh] at s2 ⊢
    rw [← hp] at s3 e1 e5
    rw [← hd] at s1 I1 ⊢
    have e2 : ∀ W, (Op.stringOp .add d ⟨#[58]⟩).run Tryd.prog W = .ok (.string (d ++ ⟨#[58]⟩)) W := fun W => run_string_add_sum W _ _ (by show _ + 1 ≤ _; omega)
    have e3 : ∀ W, (Op.stringOp .add (d ++ ⟨#[58]⟩) h).run Tryd.prog W = .ok (.string (d ++ ⟨#[58]⟩ ++ h)) W := fun W => run_string_add_sum W _ _ (by rw [ByteArray.size_append]; show _ + 1 + _ ≤ _; omega)
    have e4 : ∀ W, (Op.stringOp .add (d ++ ⟨#[58]⟩ ++ h) ⟨#[46, 46]⟩).run Tryd.prog W = .ok (.string (d ++ ⟨#[58]⟩ ++ h ++ ⟨#[46, 46]⟩)) W := fun W => run_string_add_sum W _ _ (by rw [ByteArray.size_append, ByteArray.size_append]; show _ + 1 + _ + 2 ≤ _; omega)
    obtain ⟨x1, hx1⟩ : ∃ x, x = d ++ (⟨#[58]⟩ : ByteArray) := ⟨_, rfl⟩
    rw [← hx1] at e2 e3 e4 ⊢
    obtain ⟨x2, hx2⟩ : ∃ x, x = x1 ++ h := ⟨_, rfl⟩
    rw [← hx2] at e3 e4 ⊢
    obtain ⟨x3, hx3⟩ : ∃ x, x = x2 ++ (⟨#[46, 46]⟩ : ByteArray) := ⟨_, rfl⟩
    rw [← hx3] at e4 ⊢
    have g5 := Lib.hid (show strOfNums (hexL (bts p)) = h by rw [e5, hh])
    have g6 := Lib.hid (show p.size ≤ 1000000 by omega)
    clear e hx1 hx2 hx3 hp hd hh e5 s1 s2 s3
    go_enter Tryd.func23, Tryd.ntmps23
    go_wp2_with fail
    go_region_held3 (fun _ => True) (trivial) (first
      | (go_at_call 33; refine (I1.out _).mono ?_; rintro e w' ⟨rfl, rfl⟩)
      | (go_at_call 27; refine (rhex_any _ _ g6.out).mono ?_; rintro e wH ⟨rfl, hH⟩; rw [g5.out]; have gH := Lib.hid hH; clear hH))
    go_wp2_with fail
    go_ret
    exact ⟨rfl, (Below.refl _ w).drew.trans gH.out⟩
  · have e : strOfNums (shoL s) = decS s.size ++ ⟨#[58]⟩ ++ strOfNums (hexL (bts s)) := by
      unfold shoL
      rw [if_neg h8, List.append_nil, decS_eq, show (⟨#[58]⟩ : ByteArray) = strOfNums [58] from rfl, str_app, str_app, List.take_of_length_le (by rw [bts_length]; omega)]
    rw [e]
    have s2 : (strOfNums (hexL (bts s))).size ≤ 16 := by rw [strOfNums_size, hexL_length, bts_length]; omega
    have s4 : (⟨#[58]⟩ : ByteArray).size = 1 := rfl
    clear e
    go_enter Tryd.func23, Tryd.ntmps23
    go_wp2_with (first
      | (go_at_call 33; refine (I1.out _).mono ?_; rintro e w' ⟨rfl, rfl⟩)
      | (go_at_call 27; refine (rhex_any _ _ (by omega)).mono ?_; rintro e wH ⟨rfl, hH⟩; have gH := Lib.hid hH; clear hH))
    go_ret
    exact ⟨rfl, gH.out⟩
end Go.Proofs.YtfkkpgklciehoaaDoor
