/- The walk of KeyBytes: a key with another byte put in. -/
import Derived.Test.YtipammomoeklnaaDoorLKeySuccessor
import Derived.Deep.RegionWith
import Derived.BigRegion
import Derived.Deep.RegionHeld3
namespace Go.Proofs.YtipammomoeklnaaDoor
open Go.RowKit Go.PlainAid
theorem conv_one (c : Int) (V : World) (g : Nat) (h : V.cell? ⟨g, 0, none⟩ = some (.int .u8 c)) : (convert 33 9 (.slice (some ⟨g, 0, none⟩) 1 1)).run Tryd.prog V = .ok (.string (strOfNums [c])) V :=
  run_convert_bytes_arg (P := Tryd.prog) V 33 5 Tryd.underlying33 Tryd.underlying5 g 0 1 1 [c] rfl (fun i hi => by
    obtain rfl : i = 0 := by omega
    exact h) 9 Tryd.underlying9
/-- What Check says of a key with another byte put in. -/
theorem put_chk (s : ByteArray) (hs : chkE (bts s) = 0) (k : Nat) (c : Int) (hc : 0 ≤ c ∧ c ≤ 255) :
    chkE (bts (s.extract 0 k ++ strOfNums [c] ++ s.extract k s.size)) = if kch c then (if 32 < s.size + 1 then 12 else 0) else 2 := by
  obtain ⟨h1, h2, h3⟩ := chkE_ok hs
  have e : bts (s.extract 0 k ++ strOfNums [c] ++ s.extract k s.size) = (bts s).take k ++ [c] ++ (bts s).drop k := by
    rw [bts_append, bts_append, bts_extract, bts_extract, bts_str [c] (fun z hz => by rw [List.mem_singleton.1 hz]; exact hc), List.drop_zero, Nat.sub_zero]
    congr 1
    rw [List.take_of_length_le]
    rw [List.length_drop, bts_length]; exact Nat.le_refl _
  have hl : ((bts s).take k ++ [c] ++ (bts s).drop k).length = s.size + 1 := by
    rw [List.length_append, List.length_append, List.length_take, List.length_drop, bts_length, List.length_singleton]; omega
  have ha : ((bts s).take k ++ [c] ++ (bts s).drop k).all kch = kch c := by
    rw [List.all_append, List.all_append]
    have a1 : ((bts s).take k).all kch = true := by rw [List.all_eq_true]; exact fun z hz => h3 z (List.mem_of_mem_take hz)
    have a2 : ((bts s).drop k).all kch = true := by rw [List.all_eq_true]; exact fun z hz => h3 z (List.mem_of_mem_drop hz)
    rw [a1, a2]; simp
  rw [e]
  unfold chkE
  rw [hl, if_neg (by omega), ha]

set_option maxRecDepth 100000 in
set_option maxHeartbeats 8000000 in
theorem bytes_core (a0 : Option Addr) (len0 cap0 : Nat) (c x y : Nat) (w : World) (htab0 : Pow w) (hc : c < 256) (hx : x < 256) (_hy : y < 256) (GM : Hid (Calls Tryd.prog 24 #[.slice a0 len0 cap0] w (MadeK w))) :
    Calls Tryd.prog 8 #[.slice a0 len0 cap0, .int .u8 (c : Int), .int .u8 (x : Int), .int .u8 (y : Int)] w fun e w' => e = .returned (.bool true) ∧ Below w.heap.size w w' := by
  have GP := Lib.hid htab0
  clear htab0
  go_enter Tryd.func8, Tryd.ntmps8
  go_wp2_with fail
  refine GM.out.mono ?_
  rintro e W ⟨s, rfl, hs, hB⟩
  have htab := GP.out.below hB
  have ss : s.size ≤ 32 := by rw [← bts_length]; exact (chkE_ok hs).2.1
  obtain ⟨k, hk⟩ : ∃ k, k = x % (s.size + 1) := ⟨_, rfl⟩
  have hks : k ≤ s.size := by have := Nat.mod_lt x (show 0 < s.size + 1 by omega); omega
  have n0 : ¬ ((s.size : Int) + 1 = 0) := by omega
  have eT : Int.tmod (x : Int) ((s.size : Int) + 1) = (k : Int) := by rw [hk]; rfl
  have eI : (x : Int) % ((s.size : Int) + 1) = (k : Int) := by rw [hk]; rfl
  have q1 : IntKind.i64.wrap (x : Int) = x := IntWalk.i64_in _ ⟨by omega, by omega⟩
  have hc1 := fun V g h => conv_one (c : Int) V g h
  have z1 : (s.extract 0 k).size = k := by rw [extract_size _ _ _ (by omega) (by omega)]; omega
  have z2 : (s.extract k s.size).size = s.size - k := by rw [extract_size _ _ _ (by omega) (by omega)]
  have z3 : (strOfNums [(c : Int)]).size = 1 := strOfNums_size _
  have gh := Lib.hid hs
  have hpt := put_chk s hs k (c : Int) (by omega)
  obtain ⟨t, ht⟩ : ∃ t, t = s.extract 0 k ++ strOfNums [(c : Int)] ++ s.extract k s.size := ⟨_, rfl⟩
  have tz : t.size = s.size + 1 := by rw [ht, ByteArray.size_append, ByteArray.size_append, z1, z2, z3]; omega
  rw [← ht] at hpt
  have gt := Lib.hid ht
  have gz := Lib.hid tz
  obtain ⟨r, hr⟩ : ∃ r, r = y % 32 := ⟨_, rfl⟩
  have eT2 : Int.tmod (y : Int) 32 = (r : Int) := by rw [hr]; rfl
  have eI2 : (y : Int) % 32 = (r : Int) := by rw [hr]; rfl
  have q2 : IntKind.i64.wrap (r : Int) = r := IntWalk.i64_in _ ⟨by omega, by omega⟩
  have q3 : IntKind.u8.wrap (r : Int) = r := IntWalk.u8_in _ ⟨by omega, by omega⟩
  have hr32 : r < 32 := by omega
  have gr := Lib.hid hr32
  have b1 := plc_kch (c : Int)
  have gi := Lib.hid (fun w => index_any (c : Int) (by omega) (by omega) w)
  have gck := Lib.hid (fun w => check_is s 0 (by omega) hs w)
  have gBW := Lib.hid hB
  have gTW := Lib.hid htab
  clear hk hs ht tz hr hB htab
  go_wp2_with fail
  go_region
  clear hc1 z1 z2 z3 eT eI q1 n0 hks
  rw [← gt.out]
  have gV := Lib.hid (show Below w.heap.size w (W.alloc (.cells #[.int .u8 (c : Int)] 5)).drew from (gBW.out.alloc gBW.out.size _).drew)
  have gT := Lib.hid (show Pow (W.alloc (.cells #[.int .u8 (c : Int)] 5)).drew from gTW.out.below (((Below.refl _ W).alloc (Nat.le_refl _) _).drew))
  generalize (W.alloc (.cells #[.int .u8 (c : Int)] 5)).drew = V at gV gT ⊢
  have f1 : (∃ f, fitE (bts s) (1 + (r : Int)) = f ∧ ((f = 12 ∧ 1 + (r : Int) < (s.size : Int)) ∨ (f = 0 ∧ ¬ 1 + (r : Int) < (s.size : Int)))) := by
    unfold fitE
    rw [if_neg (by omega), if_pos gh.out, bts_length]
    by_cases h : 1 + (r : Int) < (s.size : Int)
    · rw [if_pos h]; exact ⟨_, rfl, .inl ⟨rfl, h⟩⟩
    · rw [if_neg h]; exact ⟨_, rfl, .inr ⟨rfl, h⟩⟩
  obtain ⟨f, f1, f2⟩ := f1
  have gf := Lib.hid (fun w => fits_is s (1 + (r : Int)) f (by omega) f1 w)
  have gg := Lib.hid (show ∀ v, chkE (bts t) = v → v ≠ 0 → ∀ w, Calls Tryd.prog 14 #[.string t, .int .i64 (1 + (r : Int))] w fun e w' => e = .returned (.int .i64 v) ∧ Below w.heap.size w w' from fun v hv h0 w => fits_is t _ v (by have := gz.out; omega) (by unfold fitE; rw [if_neg (by omega), if_neg (by rw [hv]; exact h0)]; exact hv) w)
  have three : ∃ v, chkE (bts t) = v ∧ ((v = 2 ∧ plc (c : Int) < 0) ∨ (v = 12 ∧ 0 ≤ plc (c : Int) ∧ 32 < t.size) ∨ (v = 0 ∧ 0 ≤ plc (c : Int) ∧ ¬ 32 < t.size)) := by
    cases hk : kch (c : Int) with
    | false =>
      rw [hk] at hpt b1
      exact ⟨2, by rw [hpt]; rfl, .inl ⟨rfl, by simpa using b1⟩⟩
    | true =>
      rw [hk] at hpt b1
      have b2 : 0 ≤ plc (c : Int) := by simpa using b1
      rw [if_pos rfl] at hpt
      by_cases h : 32 < s.size + 1
      · rw [if_pos h] at hpt
        exact ⟨12, hpt, .inr (.inl ⟨rfl, b2, by rw [gz.out]; exact h⟩)⟩
      · rw [if_neg h] at hpt
        exact ⟨0, hpt, .inr (.inr ⟨rfl, b2, by rw [gz.out]; exact h⟩)⟩
  obtain ⟨v, hv, h3⟩ := three
  have gct := Lib.hid (fun w => check_is t v (by have := gz.out; omega) hv w)
  have gv := Lib.hid hv
  clear hpt b1 hv f1
  rcases h3 with ⟨rfl, p1⟩ | ⟨rfl, p1, p2⟩ | ⟨rfl, p1, p2⟩ <;> rcases f2 with ⟨rfl, k1⟩ | ⟨rfl, k1⟩
  all_goals
    go_wp2_with fail
    refine (gi.out _).mono ?_
    rintro e _ ⟨rfl, rfl⟩
    go_wp2_with fail
    refine (gck.out _).mono ?_
    rintro e W1 ⟨rfl, hB1⟩
    have g1 := Lib.hid hB1
    clear hB1
    go_wp2_with fail
    refine (gct.out _).mono ?_
    rintro e W2 ⟨rfl, hB1⟩
    have g2 := Lib.hid (bchain g1.out hB1)
    clear hB1
    go_wp2_with fail
    refine (gf.out _).mono ?_
    rintro e W3 ⟨rfl, hB1⟩
    have g3 := Lib.hid (bchain g2.out hB1)
    clear hB1
    go_wp2_with fail
  all_goals first
    | (refine (gg.out _ gv.out (by decide) _).mono ?_
       rintro e W4 ⟨rfl, hB1⟩
       have g4 := Lib.hid (bchain g3.out hB1)
       clear hB1
       go_wp2_with fail
       refine (works_any _ (gT.out.below g4.out)).mono ?_
       rintro e W5 ⟨rfl, hB1⟩
       go_wp2_with fail
       go_ret
       exact ⟨rfl, bchain gV.out (bchain g4.out hB1)⟩)
    | (refine (works_any _ (gT.out.below g3.out)).mono ?_
       rintro e W5 ⟨rfl, hB1⟩
       go_wp2_with fail
       go_ret
       exact ⟨rfl, bchain gV.out (bchain g3.out hB1)⟩)
theorem keyBytes_walk (a0 : Option Addr) (len0 cap0 : Nat) (z0 : List Int) (a1 : Int) (a2 : Int) (a3 : Int) (w : World) (htab : Pow w) (w0 : IsRow .u8 w a0 len0 cap0 z0) (w1 : (Lit.int .u8 a1).wf = true) (w2 : (Lit.int .u8 a2).wf = true) (w3 : (Lit.int .u8 a3).wf = true) :
    Calls Tryd.prog 8 #[.slice a0 len0 cap0, .int .u8 a1, .int .u8 a2, .int .u8 a3] w fun e w' => e = .returned (.bool true) ∧ Below w.heap.size w w' := by
  obtain ⟨b1, c1⟩ := bounds_u8 w1
  obtain ⟨b2, c2⟩ := bounds_u8 w2
  obtain ⟨b3, c3⟩ := bounds_u8 w3
  obtain ⟨c, rfl⟩ := Int.eq_ofNat_of_zero_le b1
  obtain ⟨x, rfl⟩ := Int.eq_ofNat_of_zero_le b2
  obtain ⟨y, rfl⟩ := Int.eq_ofNat_of_zero_le b3
  exact bytes_core a0 len0 cap0 c x y w htab (by omega) (by omega) (by omega) (Lib.hid (made_row w0 (Below.refl _ _)))
end Go.Proofs.YtipammomoeklnaaDoor
