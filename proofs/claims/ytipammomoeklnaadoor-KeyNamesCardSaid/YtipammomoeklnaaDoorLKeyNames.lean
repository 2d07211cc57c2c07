/- The walk of KeyNames. -/
import Derived.Test.YtipammomoeklnaaDoorWorks
namespace Go.Proofs.YtipammomoeklnaaDoor
open Go.RowKit Go.PlainAid
/-- The key with a number. -/
def keyN (u : Nat) : ByteArray := ⟨#[107]⟩ ++ decS u
theorem bts_keyN (u : Nat) : bts (keyN u) = 107 :: decN u := by
  unfold keyN
  rw [bts_append, decS_eq, bts_str _ (fun z hz => by have := decN_bd u z hz; omega)]
  rfl
theorem keyN_name (u : Nat) (h : u < 1000000) : namS (u : Int) = keyN u ∧ namE (u : Int) = 0 := by
  have := nam_in (n := (u : Int)) (by omega) (by omega)
  exact this
theorem nDigits_pow : ∀ (k u : Nat), 1 ≤ k → u < 10 ^ k → Lib.nDigits u ≤ k
  | 0, _, h, _ => by omega
  | 1, u, _, h => by rw [Lib.nDigits_small (by omega)]; omega
  | k + 2, u, _, h => by
    by_cases h1 : u < 10
    · rw [Lib.nDigits_small h1]; omega
    · rw [Lib.nDigits_big h1]
      have := nDigits_pow (k + 1) (u / 10) (by omega) (by rw [Nat.pow_succ] at h; omega)
      omega
theorem nDigits_le (u : Nat) (h : u < 1000000) : Lib.nDigits u ≤ 6 := nDigits_pow 6 u (by omega) h
theorem keyN_size (u : Nat) : (keyN u).size = 1 + Lib.nDigits u := by rw [← bts_length, bts_keyN, List.length_cons, decN_len]; omega
theorem keyN_check (u : Nat) (h : u < 1000000) : chkE (bts (keyN u)) = 0 := by
  rw [bts_keyN]
  refine chkE_of (by simp) (by rw [List.length_cons, decN_len]; have := nDigits_le u h; omega) ?_
  intro z hz
  rcases List.mem_cons.1 hz with rfl | hz
  · rfl
  · have := decN_bd u z hz
    unfold kch; simp; omega
theorem keyN_inj {u v : Nat} (h : keyN u = keyN v) : u = v := by
  have := congrArg bts h
  rw [bts_keyN, bts_keyN, List.cons.injEq] at this
  exact decN_inj this.2
theorem keyN_cmp (u v : Nat) (h : (keyN u).size = (keyN v).size) : cmp (bts (keyN u)) (bts (keyN v)) < 0 ↔ u < v := by
  rw [keyN_size, keyN_size] at h
  rw [bts_keyN, bts_keyN, cmp_cons, if_neg (by omega), if_neg (by omega)]
  exact decN_cmp u v (by rw [decN_len, decN_len]; omega)

set_option maxRecDepth 100000 in
set_option maxHeartbeats 8000000 in
theorem names_core (a b : Int) (M N : Nat) (w : World) (htab : Pow w) (ha : a % 1000000 = M) (hb : b % 1000000 = N) (a0 : 0 ≤ a) (_a1 : a < 4294967296) (b0 : 0 ≤ b) (_b1 : b < 4294967296) :
    Calls Tryd.prog 9 #[.int .u32 a, .int .u32 b] w fun e w' => e = .returned (.bool true) ∧ Below w.heap.size w w' := by
  have hM : M < 1000000 := by omega
  have hN : N < 1000000 := by omega
  have m0 : (0 : Int) ≤ (M : Int) := by omega
  have m1 : (M : Int) < 1000000 := by omega
  have k0 : (0 : Int) ≤ (N : Int) := by omega
  have k1 : (N : Int) < 1000000 := by omega
  have s1 := decS_le M (by omega)
  have n1 := fun w h => name_any (M : Int) w h
  have n2 := fun w h => name_any (N : Int) w h
  rw [(keyN_name M hM).1, (keyN_name M hM).2] at n1
  rw [(keyN_name N hN).1, (keyN_name N hN).2] at n2
  have c1 := fun w => check_any (keyN M) w (by have := keyN_size M; have := nDigits_le M hM; omega)
  rw [keyN_check M hM] at c1
  have hi := fun w h => itoa_any M (by omega) w h
  have he : (⟨#[107]⟩ : ByteArray) ++ decS M = keyN M := rfl
  have q1 : IntKind.i64.wrap (M : Int) = M := IntWalk.i64_in _ ⟨by omega, by omega⟩
  have q2 : IntKind.i64.wrap (N : Int) = N := IntWalk.i64_in _ ⟨by omega, by omega⟩
  have t1 : Int.tmod a 1000000 = (M : Int) := by rw [Int.tmod_eq_emod_of_nonneg a0]; exact ha
  have t2 : Int.tmod b 1000000 = (N : Int) := by rw [Int.tmod_eq_emod_of_nonneg b0]; exact hb
  have N1 := Lib.hid n1
  have N2 := Lib.hid n2
  have C1 := Lib.hid c1
  have HI := Lib.hid hi
  clear n1 n2 c1 hi
  have four : (M = N) ∨ (M ≠ N ∧ (keyN M).size = (keyN N).size ∧ M < N) ∨ (M ≠ N ∧ (keyN M).size = (keyN N).size ∧ N < M) ∨ (M ≠ N ∧ (keyN M).size ≠ (keyN N).size) := by omega
  rcases four with h | ⟨h, hs, hlt⟩ | ⟨h, hs, hlt⟩ | ⟨h, hs⟩
  · subst h
    have o1 := Lib.hid (fun w => order_any (keyN M) (keyN M) w)
    rw [cmp_eq.2 (rfl : bts (keyN M) = bts (keyN M))] at o1
    generalize keyN M = s at *
    go_enter Tryd.func9, Tryd.ntmps9
    go_wp2_with fail
    refine (N1.out _ htab).mono ?_
    rintro e W1 ⟨rfl, hB⟩
    have t3 := Lib.hid (htab.below hB)
    have b3 := Lib.hid hB
    clear hB
    go_wp2_with fail
    refine (N1.out _ t3.out).mono ?_
    rintro e W2 ⟨rfl, hB⟩
    have t4 := Lib.hid (t3.out.below hB)
    have b4 := Lib.hid (bchain b3.out hB)
    clear hB
    go_wp2_with fail
    refine (C1.out _).mono ?_
    rintro e W3 ⟨rfl, hB⟩
    have t5 := Lib.hid (t4.out.below hB)
    have b5 := Lib.hid (bchain b4.out hB)
    clear hB
    go_wp2_with fail
    refine (HI.out _ t5.out).mono ?_
    rintro e W4 ⟨rfl, hB⟩
    have t6 := Lib.hid (t5.out.below hB)
    have b6 := Lib.hid (bchain b5.out hB)
    clear hB
    go_wp2_with fail
    refine (o1.out _).mono ?_
    rintro e _ ⟨rfl, rfl⟩
    go_wp2_with fail
    refine (works_any _ t6.out).mono ?_
    rintro e W5 ⟨rfl, hB⟩
    go_wp2_with fail
    go_ret
    exact ⟨rfl, bchain b6.out hB⟩
  all_goals
    have e1 : ((keyN M).toList == (keyN N).toList) = false := by rw [toList_beq]; exact decide_eq_false (fun e => h (keyN_inj e))
    have e2 : ((M : Int) == (N : Int)) = false := beq_eq_false_iff_ne.2 (by omega)
  · have o1 := Lib.hid (fun w => order_any (keyN M) (keyN N) w)
    have hv := (keyN_cmp M N hs).2 hlt
    generalize cmp (bts (keyN M)) (bts (keyN N)) = v at *
    have e3 : (((keyN M).size : Int) == ((keyN N).size : Int)) = true := beq_iff_eq.2 (by omega)
    generalize keyN M = s at *
    generalize keyN N = t at *
    clear hs h
    go_enter Tryd.func9, Tryd.ntmps9
    go_wp2_with fail
    refine (N1.out _ htab).mono ?_
    rintro e W1 ⟨rfl, hB⟩
    have t3 := Lib.hid (htab.below hB)
    have b3 := Lib.hid hB
    clear hB
    go_wp2_with fail
    refine (N2.out _ t3.out).mono ?_
    rintro e W2 ⟨rfl, hB⟩
    have t4 := Lib.hid (t3.out.below hB)
    have b4 := Lib.hid (bchain b3.out hB)
    clear hB
    go_wp2_with fail
    refine (C1.out _).mono ?_
    rintro e W3 ⟨rfl, hB⟩
    have t5 := Lib.hid (t4.out.below hB)
    have b5 := Lib.hid (bchain b4.out hB)
    clear hB
    go_wp2_with fail
    refine (HI.out _ t5.out).mono ?_
    rintro e W4 ⟨rfl, hB⟩
    have t6 := Lib.hid (t5.out.below hB)
    have b6 := Lib.hid (bchain b5.out hB)
    clear hB
    go_wp2_with fail
    refine (o1.out _).mono ?_
    rintro e _ ⟨rfl, rfl⟩
    go_wp2_with fail
    refine (works_any _ t6.out).mono ?_
    rintro e W5 ⟨rfl, hB⟩
    go_wp2_with fail
    go_ret
    exact ⟨rfl, bchain b6.out hB⟩
  · have o1 := Lib.hid (fun w => order_any (keyN M) (keyN N) w)
    have hv : ¬ cmp (bts (keyN M)) (bts (keyN N)) < 0 := fun h => by have := (keyN_cmp M N hs).1 h; omega
    have hlt2 : ¬ M < N := by omega
    generalize cmp (bts (keyN M)) (bts (keyN N)) = v at *
    have e3 : (((keyN M).size : Int) == ((keyN N).size : Int)) = true := beq_iff_eq.2 (by omega)
    generalize keyN M = s at *
    generalize keyN N = t at *
    have d1 : decide (v < 0) = false := decide_eq_false hv
    have d2 : decide (M < N) = false := decide_eq_false hlt2
    clear hs h hv hlt hlt2
    go_enter Tryd.func9, Tryd.ntmps9
    go_wp2_with fail
    refine (N1.out _ htab).mono ?_
    rintro e W1 ⟨rfl, hB⟩
    have t3 := Lib.hid (htab.below hB)
    have b3 := Lib.hid hB
    clear hB
    go_wp2_with fail
    refine (N2.out _ t3.out).mono ?_
    rintro e W2 ⟨rfl, hB⟩
    have t4 := Lib.hid (t3.out.below hB)
    have b4 := Lib.hid (bchain b3.out hB)
    clear hB
    go_wp2_with fail
    refine (C1.out _).mono ?_
    rintro e W3 ⟨rfl, hB⟩
    have t5 := Lib.hid (t4.out.below hB)
    have b5 := Lib.hid (bchain b4.out hB)
    clear hB
    go_wp2_with fail
    refine (HI.out _ t5.out).mono ?_
    rintro e W4 ⟨rfl, hB⟩
    have t6 := Lib.hid (t5.out.below hB)
    have b6 := Lib.hid (bchain b5.out hB)
    clear hB
    go_wp2_with fail
    refine (o1.out _).mono ?_
    rintro e _ ⟨rfl, rfl⟩
    go_wp2_with fail
    refine (works_any _ t6.out).mono ?_
    rintro e W5 ⟨rfl, hB⟩
    go_wp2_with fail
    go_ret
    exact ⟨rfl, bchain b6.out hB⟩
  · have e3 : (((keyN M).size : Int) == ((keyN N).size : Int)) = false := beq_eq_false_iff_ne.2 (by omega)
    generalize keyN M = s at *
    generalize keyN N = t at *
    clear hs h
    go_enter Tryd.func9, Tryd.ntmps9
    go_wp2_with fail
    refine (N1.out _ htab).mono ?_
    rintro e W1 ⟨rfl, hB⟩
    have t3 := Lib.hid (htab.below hB)
    have b3 := Lib.hid hB
    clear hB
    go_wp2_with fail
    refine (N2.out _ t3.out).mono ?_
    rintro e W2 ⟨rfl, hB⟩
    have t4 := Lib.hid (t3.out.below hB)
    have b4 := Lib.hid (bchain b3.out hB)
    clear hB
    go_wp2_with fail
    refine (C1.out _).mono ?_
    rintro e W3 ⟨rfl, hB⟩
    have t5 := Lib.hid (t4.out.below hB)
    have b5 := Lib.hid (bchain b4.out hB)
    clear hB
    go_wp2_with fail
    refine (HI.out _ t5.out).mono ?_
    rintro e W4 ⟨rfl, hB⟩
    have t6 := Lib.hid (t5.out.below hB)
    have b6 := Lib.hid (bchain b5.out hB)
    clear hB
    go_wp2_with fail
    refine (works_any _ t6.out).mono ?_
    rintro e W5 ⟨rfl, hB⟩
    go_wp2_with fail
    go_ret
    exact ⟨rfl, bchain b6.out hB⟩
theorem keyNames_walk (a0 : Int) (a1 : Int) (w : World) (htab : Pow w) (w0 : (Lit.int .u32 a0).wf = true) (w1 : (Lit.int .u32 a1).wf = true) :
    Calls Tryd.prog 9 #[.int .u32 a0, .int .u32 a1] w fun e w' => e = .returned (.bool true) ∧ Below w.heap.size w w' := by
  obtain ⟨h0, h1⟩ := bounds_u32 w0
  obtain ⟨k0, k1⟩ := bounds_u32 w1
  exact names_core a0 a1 (a0 % 1000000).toNat (a1 % 1000000).toNat w htab (by omega) (by omega) h0 (by omega) k0 (by omega)
end Go.Proofs.YtipammomoeklnaaDoor
