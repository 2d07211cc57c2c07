/- works(): the examples of chapter 5 hold. -/
import Derived.Test.YtipammomoeklnaaDoorRNext
import Derived.Test.YtipammomoeklnaaDoorName
import Derived.Test.YtipammomoeklnaaDoorOrd
namespace Go.Proofs.YtipammomoeklnaaDoor
open Go.RowKit Go.PlainAid

theorem repeatL_one (b : UInt8) : ∀ n, Lib.repeatL [b] n = List.replicate n b
  | 0 => rfl
  | n + 1 => by rw [List.replicate_succ, ← repeatL_one b n]; rfl
/-- A letter, repeated. -/
def rep (b : Int) (n : Nat) : ByteArray := strOfNums (List.replicate n b)
theorem rep_size (b : Int) (n : Nat) : (rep b n).size = n := by unfold rep; rw [strOfNums_size, List.length_replicate]
theorem bts_rep (b : Int) (n : Nat) (h : 0 ≤ b ∧ b ≤ 255) : bts (rep b n) = List.replicate n b := bts_str _ fun z hz => by rw [List.eq_of_mem_replicate hz]; exact h
theorem repeat_any (b : UInt8) (n : Nat) (hn : n ≤ 1000000) (w : World) : Calls Tryd.prog 25 #[.string ⟨#[b]⟩, .int .i64 (n : Int)] w fun e w' => e = .returned (.string (rep (b.toNat : Int) n)) ∧ Below w.heap.size w w' := by
  refine (Tryd.strings_Repeat ⟨#[b]⟩ n w (by omega) (by show 1 * n ≤ _; omega)).mono ?_
  rintro e w' ⟨rfl, hB⟩
  refine ⟨ret_str ?_, hB⟩
  apply bts_inj
  rw [bts_rep _ _ (by have := b.toNat_lt; omega)]
  unfold bts
  show (Lib.repeatL [b] n).map _ = _
  rw [repeatL_one, List.map_replicate]
theorem next_is (s : ByteArray) (t : ByteArray) (p : Bool) (hs : s.size ≤ 1000) (h1 : nxs (bts s) = t) (h2 : nxb (bts s) = p) (w : World) : Calls Tryd.prog 20 #[.string s] w fun e w' => e = .returned (.tuple #[.string t, .bool p]) ∧ Below w.heap.size w w' := by
  rw [← h1, ← h2]; exact next_any s w (by omega)
theorem name_is (n : Int) (t : ByteArray) (p : Int) (h1 : namS n = t) (h2 : namE n = p) (w : World) (htab : Pow w) : Calls Tryd.prog 22 #[.int .i64 n] w fun e w' => e = .returned (.tuple #[.string t, .int .i64 p]) ∧ Below w.heap.size w w' := by
  rw [← h1, ← h2]; exact name_any n w htab
theorem check_is (s : ByteArray) (v : Int) (hs : s.size ≤ 1000) (h : chkE (bts s) = v) (w : World) : Calls Tryd.prog 12 #[.string s] w fun e w' => e = .returned (.int .i64 v) ∧ Below w.heap.size w w' := by
  rw [← h]; exact check_any s w (by omega)
theorem fits_is (s : ByteArray) (m v : Int) (hs : s.size ≤ 1000) (h : fitE (bts s) m = v) (w : World) : Calls Tryd.prog 14 #[.string s, .int .i64 m] w fun e w' => e = .returned (.int .i64 v) ∧ Below w.heap.size w w' := by
  rw [← h]; exact fits_any s m w (by omega)
theorem order_is (s t : ByteArray) (v : Int) (h : cmp (bts s) (bts t) = v) (w : World) : Calls Tryd.prog 16 #[.string s, .string t] w fun e w' => e = .returned (.int .i64 v) ∧ w = w' := by
  rw [← h]; exact order_any s t w
theorem common_is (s t : ByteArray) (v : Nat) (hs : s.size ≤ 1000) (ht : t.size ≤ 1000) (h : cmn (bts s) (bts t) = v) (w : World) : Calls Tryd.prog 18 #[.string s, .string t] w fun e w' => e = .returned (.int .i64 v) ∧ Below w.heap.size w w' := by
  rw [← h]; exact common_any s t w (by omega) (by omega)

theorem dec6 : decS 999999 = ⟨#[57, 57, 57, 57, 57, 57]⟩ := by
  rw [decS_eq]
  have e : decN 999999 = [57, 57, 57, 57, 57, 57] := by
    rw [decN_big (by omega), decN_big (by omega), decN_big (by omega), decN_big (by omega), decN_big (by omega), decN_small (by omega)]; rfl
  rw [e]; rfl
theorem k6 : namS 999999 = ⟨#[107, 57, 57, 57, 57, 57, 57]⟩ := by
  rw [(nam_in (n := 999999) (by omega) (by omega)).1]
  show _ ++ decS 999999 = _
  rw [dec6]; rfl
theorem nx_a : nxs (bts ⟨#[97]⟩) = ⟨#[97, 45]⟩ ∧ nxb (bts ⟨#[97]⟩) = true := ⟨by decide +kernel, by decide +kernel⟩
theorem nx_az : nxs (bts (rep 97 31 ++ ⟨#[122]⟩)) = rep 97 30 ++ ⟨#[98]⟩ ∧ nxb (bts (rep 97 31 ++ ⟨#[122]⟩)) = true := ⟨by decide +kernel, by decide +kernel⟩
theorem nx_z : nxs (bts (rep 122 32)) = ⟨#[]⟩ ∧ nxb (bts (rep 122 32)) = false := ⟨by decide +kernel, by decide +kernel⟩

set_option maxRecDepth 100000 in
set_option maxHeartbeats 4000000 in
theorem works_any (w : World) (htab : Pow w) : Calls Tryd.prog 11 #[] w fun e w' => e = .returned (.bool true) ∧ Below w.heap.size w w' := by
  have z1 := rep_size 97 31
  have z2 := rep_size 122 32
  have z3 := rep_size 97 30
  have z4 : (⟨#[122]⟩ : ByteArray).size = 1 := rfl
  have z5 : (⟨#[98]⟩ : ByteArray).size = 1 := rfl
  obtain ⟨n6, hn6⟩ : ∃ n6 : Int, n6 = 999999 := ⟨_, rfl⟩
  obtain ⟨bz, hbz⟩ : ∃ bz, bz = rep 97 31 ++ ⟨#[122]⟩ := ⟨_, rfl⟩
  have gbz := Lib.hid hbz
  have gB : Hid (Below w.heap.size w w) := Below.refl _ _
  clear hbz hn6
  go_enter Tryd.func11, Tryd.ntmps11
  go_wp2_with fail
  refine (next_is _ _ _ (by decide) nx_a.1 nx_a.2 _).mono ?_
  rintro e W1 ⟨rfl, hB⟩
  have t1 := Lib.hid (htab.below hB)
  have b1 := Lib.hid hB
  clear hB
  go_wp2_with fail
  refine (repeat_any 97 31 (by omega) _).mono ?_
  rintro e W2 ⟨rfl, hB⟩
  have t2 := Lib.hid (t1.out.below hB)
  have b2 := Lib.hid (bchain b1.out hB)
  clear hB
  go_wp2_with fail
  refine (next_is _ _ _ (by decide +kernel) nx_az.1 nx_az.2 _).mono ?_
  rintro e W3 ⟨rfl, hB⟩
  have t3 := Lib.hid (t2.out.below hB)
  have b3 := Lib.hid (bchain b2.out hB)
  clear hB
  go_wp2_with fail
  refine (repeat_any 122 32 (by omega) _).mono ?_
  rintro e W4 ⟨rfl, hB⟩
  have t4 := Lib.hid (t3.out.below hB)
  have b4 := Lib.hid (bchain b3.out hB)
  clear hB
  go_wp2_with fail
  refine (next_is _ _ _ (by decide +kernel) nx_z.1 nx_z.2 _).mono ?_
  rintro e W5 ⟨rfl, hB⟩
  have t5 := Lib.hid (t4.out.below hB)
  have b5 := Lib.hid (bchain b4.out hB)
  clear hB
  go_wp2_with fail
  refine (name_is _ _ _ k6 rfl _ t5.out).mono ?_
  rintro e W6 ⟨rfl, hB⟩
  have t6 := Lib.hid (t5.out.below hB)
  have b6 := Lib.hid (bchain b5.out hB)
  clear hB
  go_wp2_with fail
  refine (name_is _ _ _ (nam_out (.inr (by omega))).1 (nam_out (.inr (by omega))).2 _ t6.out).mono ?_
  rintro e W7 ⟨rfl, hB⟩
  have b7 := Lib.hid (bchain b6.out hB)
  clear hB
  go_wp2_with fail
  refine (check_is _ 0 (by decide) (by decide +kernel) _).mono ?_
  rintro e W8 ⟨rfl, hB⟩
  have b8 := Lib.hid (bchain b7.out hB)
  clear hB
  go_wp2_with fail
  refine (check_is _ 2 (by decide) (by decide +kernel) _).mono ?_
  rintro e W9 ⟨rfl, hB⟩
  have b9 := Lib.hid (bchain b8.out hB)
  clear hB
  go_wp2_with fail
  refine (check_is _ 2 (by decide) (by decide +kernel) _).mono ?_
  rintro e W10 ⟨rfl, hB⟩
  have b10 := Lib.hid (bchain b9.out hB)
  clear hB
  go_wp2_with fail
  refine (repeat_any 97 33 (by omega) _).mono ?_
  rintro e W11 ⟨rfl, hB⟩
  have b11 := Lib.hid (bchain b10.out hB)
  clear hB
  go_wp2_with fail
  refine (check_is _ 12 (by decide +kernel) (by decide +kernel) _).mono ?_
  rintro e W12 ⟨rfl, hB⟩
  have b12 := Lib.hid (bchain b11.out hB)
  clear hB
  go_wp2_with fail
  refine (fits_is _ 2 12 (by decide) (by decide +kernel) _).mono ?_
  rintro e W13 ⟨rfl, hB⟩
  have b13 := Lib.hid (bchain b12.out hB)
  clear hB
  go_wp2_with fail
  refine (order_is _ _ (-1) (by decide +kernel) _).mono ?_
  rintro e _ ⟨rfl, rfl⟩
  go_wp2_with fail
  refine (common_is _ _ 2 (by decide) (by decide) (by decide +kernel) _).mono ?_
  rintro e W15 ⟨rfl, hB⟩
  have b15 := Lib.hid (bchain b13.out hB)
  clear hB
  go_wp2_with fail
  refine (repeat_any 97 30 (by omega) _).mono ?_
  rintro e W16 ⟨rfl, hB⟩
  have b16 := Lib.hid (bchain b15.out hB)
  clear hB
  go_wp2_with fail
  go_ret
  exact ⟨rfl, b16.out⟩
end Go.Proofs.YtipammomoeklnaaDoor
