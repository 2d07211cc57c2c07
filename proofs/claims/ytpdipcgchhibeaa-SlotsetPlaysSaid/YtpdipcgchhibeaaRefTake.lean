/- The reference: Add, Remove, Union, Minus, Copy. -/
import Derived.Test.YtpdipcgchhibeaaRefAll
import Derived.Test.YtpdipcgchhibeaaLSlotsetUnion
namespace Go.Proofs.Ytpdipcgchhibeaa
open Go.RowKit
section
variable {w : World} {B R g c n m : Nat}
theorem radd_of {p : Option Addr} {i : Int} {k : Int} {K : World → Prop} (h : Calls Try.prog 41 #[.pointer p, .int .i64 i, .bool true] w fun e w' => e = .returned (.int .i64 k) ∧ K w') : Calls Try.prog 16 #[.pointer p, .int .i64 i] w fun e w' => e = .returned (.int .i64 k) ∧ K w' := by
  have gh := Lib.hid h
  clear h
  go_enter Try.func16, Try.ntmps16
  go_wp2_with fail
  refine gh.out.mono ?_
  rintro e w' ⟨rfl, hR⟩
  have gR := Lib.hid hR
  clear hR
  go_wp2_with fail
  go_ret
  exact ⟨rfl, gR.out⟩
theorem rremove_of {p : Option Addr} {i : Int} {k : Int} {K : World → Prop} (h : Calls Try.prog 41 #[.pointer p, .int .i64 i, .bool false] w fun e w' => e = .returned (.int .i64 k) ∧ K w') : Calls Try.prog 18 #[.pointer p, .int .i64 i] w fun e w' => e = .returned (.int .i64 k) ∧ K w' := by
  have gh := Lib.hid h
  clear h
  go_enter Try.func18, Try.ntmps18
  go_wp2_with fail
  refine gh.out.mono ?_
  rintro e w' ⟨rfl, hR⟩
  have gR := Lib.hid hR
  clear hR
  go_wp2_with fail
  go_ret
  exact ⟨rfl, gR.out⟩
theorem runion_of {p q : Option Addr} {k : Int} {K : World → Prop} (h : Calls Try.prog 43 #[.pointer p, .pointer q, .bool true] w fun e w' => e = .returned (.int .i64 k) ∧ K w') : Calls Try.prog 20 #[.pointer p, .pointer q] w fun e w' => e = .returned (.int .i64 k) ∧ K w' := by
  have gh := Lib.hid h
  clear h
  go_enter Try.func20, Try.ntmps20
  go_wp2_with fail
  refine gh.out.mono ?_
  rintro e w' ⟨rfl, hR⟩
  have gR := Lib.hid hR
  clear hR
  go_wp2_with fail
  go_ret
  exact ⟨rfl, gR.out⟩
theorem rminus_of {p q : Option Addr} {k : Int} {K : World → Prop} (h : Calls Try.prog 43 #[.pointer p, .pointer q, .bool false] w fun e w' => e = .returned (.int .i64 k) ∧ K w') : Calls Try.prog 22 #[.pointer p, .pointer q] w fun e w' => e = .returned (.int .i64 k) ∧ K w' := by
  have gh := Lib.hid h
  clear h
  go_enter Try.func22, Try.ntmps22
  go_wp2_with fail
  refine gh.out.mono ?_
  rintro e w' ⟨rfl, hR⟩
  have gR := Lib.hid hR
  clear hR
  go_wp2_with fail
  go_ret
  exact ⟨rfl, gR.out⟩
/-- Slot by slot. -/
def one (b : Bool) (m i : Nat) : Nat := if b then m ||| 2 ^ i else minus m (2 ^ i)
def tkn (b : Bool) (m t : Nat) : Nat := if b then m ||| t else minus m t
def tk (b : Bool) (m : Nat) (l : List Nat) : Nat := l.foldl (one b) m
theorem tk_snoc (b : Bool) (m : Nat) (l : List Nat) (x : Nat) : tk b m (l ++ [x]) = one b (tk b m l) x := by
  unfold tk
  rw [List.foldl_append]
  rfl
theorem one_lt {b : Bool} {m i n : Nat} (hm : m < 2 ^ n) (hi : i < n) : one b m i < 2 ^ n := by
  unfold one
  split
  · exact Nat.or_lt_two_pow hm (pow_lt hi)
  · exact minus_lt hm
theorem one_bit {b : Bool} {m i j : Nat} (hi : i < 64) (hj : j < 64) : (one b m i).testBit j = if j = i then b else m.testBit j := by
  unfold one
  cases b with
  | true => exact bit_or
  | false => exact bit_minus hi hj
theorem tk_bit {b : Bool} {m j : Nat} (hj : j < 64) : ∀ l : List Nat, (∀ i ∈ l, i < 64) → (tk b m l).testBit j = if j ∈ l then b else m.testBit j := by
  intro l
  induction l generalizing m with
  | nil => intro _; simp [tk]
  | cons i l ih =>
    intro h
    have e : tk b m (i :: l) = tk b (one b m i) l := rfl
    rw [e, ih (fun k hk => h k (List.mem_cons_of_mem _ hk)), one_bit (h i (List.mem_cons_self ..)) hj]
    by_cases h1 : j = i
    · subst h1; simp
    · simp [h1]
theorem tk_lt {b : Bool} {n : Nat} : ∀ (l : List Nat) (m : Nat), m < 2 ^ n → (∀ i ∈ l, i < n) → tk b m l < 2 ^ n := by
  intro l
  induction l with
  | nil => intro m hm _; exact hm
  | cons i l ih =>
    intro m hm h
    exact ih _ (one_lt hm (h i (List.mem_cons_self ..))) (fun k hk => h k (List.mem_cons_of_mem _ hk))
theorem tk_all {b : Bool} {m t n : Nat} (hm : m < 2 ^ n) (ht : t < 2 ^ n) (hn : n ≤ 34) : tk b m (sl t) = tkn b m t := by
  unfold tkn
  have hlt : ∀ i ∈ sl t, i < n := fun i hi => sl_lt ht (by omega) hi
  apply Nat.eq_of_testBit_eq
  intro j
  by_cases hj : j < 64
  · rw [tk_bit hj _ (fun i hi => by have := hlt i hi; omega)]
    have e := mem_sl (i := j) ht (show n ≤ 64 by omega)
    cases b with
    | true =>
      rw [if_pos (show true = true from rfl), Nat.testBit_or]
      by_cases h1 : t.testBit j = true
      · rw [if_pos (e.2 h1), h1]; simp
      · rw [if_neg (fun h => h1 (e.1 h))]; simp [h1]
    | false =>
      rw [if_neg (show ¬ (false = true) by decide), minus_more hm ht hn]
      by_cases h1 : t.testBit j = true
      · rw [if_pos (e.2 h1), h1]; simp
      · rw [if_neg (fun h => h1 (e.1 h))]; simp [h1]
  · have hp : 2 ^ n ≤ 2 ^ j := Nat.pow_le_pow_right (by decide) (by omega)
    rw [Nat.testBit_lt_two_pow (Nat.lt_of_lt_of_le (tk_lt _ _ hm hlt) hp)]
    cases b with
    | true => exact (Nat.testBit_lt_two_pow (Nat.lt_of_lt_of_le (Nat.or_lt_two_pow hm ht) hp)).symm
    | false => exact (Nat.testBit_lt_two_pow (Nat.lt_of_lt_of_le (minus_lt hm) hp)).symm
theorem SL.beside {A : Option Addr} {l : List Nat} {i : Nat} {v : Value} (h : SL w A l) (k : ROwn w B R g c n m) : SL (w.setCell ⟨g, i, none⟩ v) A l := fun hn => by
  obtain ⟨b, rfl, hc⟩ := h hn
  refine ⟨b, rfl, fun j x hx => ?_⟩
  have hne : b ≠ g := by
    rintro rfl
    have h0 := hc 0 _ (List.getElem?_eq_getElem hn)
    rw [k.at k.pos] at h0
    cases h0
  exact (World.cell?_of_block (Below.heap_setCell w _ _ b hne)).trans (hc j x hx)
theorem rtake_none1 (q : Option Addr) (b : Bool) (w : World) : Calls Try.prog 43 #[.pointer none, .pointer q, .bool b] w fun e w' => e = .returned (.int .i64 1) ∧ w = w' := by
  go_enter Try.func43, Try.ntmps43
  go_wp2_with fail
  refine (rvalid_none _).mono ?_
  rintro e _ ⟨rfl, rfl⟩
  go_wp2_with fail
  go_ret
  exact ⟨rfl, rfl⟩
theorem rtake_none2 (h : ROwn w B R g c n m) (b : Bool) : Calls Try.prog 43 #[.pointer (some ⟨R, 0, none⟩), .pointer none, .bool b] w fun e w' => e = .returned (.int .i64 1) ∧ w = w' := by
  have gh := Lib.hid h
  clear h
  go_enter Try.func43, Try.ntmps43
  go_wp2_with fail
  refine (rvalid_any gh.out).mono ?_
  rintro e _ ⟨rfl, rfl⟩
  go_wp2_with fail
  refine (rvalid_none _).mono ?_
  rintro e _ ⟨rfl, rfl⟩
  go_wp2_with fail
  go_ret
  exact ⟨rfl, rfl⟩
theorem rtake_ne {B2 R2 g2 c2 n2 t : Nat} (h : ROwn w B R g c n m) (k : ROwn w B2 R2 g2 c2 n2 t) (hne : n ≠ n2) (b : Bool) : Calls Try.prog 43 #[.pointer (some ⟨R, 0, none⟩), .pointer (some ⟨R2, 0, none⟩), .bool b] w fun e w' => e = .returned (.int .i64 2) ∧ ∃ q, w' = w.drewN q := by
  have gh := Lib.hid h
  have gk := Lib.hid k
  have c0 := h.c0
  have d0 := k.c0
  have e1 : ((n : Int) == (n2 : Int)) = false := by simp; omega
  have e2 : ((n : Int) != (n2 : Int)) = true := by simp; omega
  clear h k hne
  go_enter Try.func43, Try.ntmps43
  go_wp2_with fail
  refine (rvalid_any gh.out).mono ?_
  rintro e _ ⟨rfl, rfl⟩
  go_wp2_with fail
  refine (rvalid_any gk.out).mono ?_
  rintro e _ ⟨rfl, rfl⟩
  go_wp2_with fail
  go_quiet (fail)
  go_wp2_with fail
  go_ret
  exact ⟨rfl, _, rfl⟩
set_option maxRecDepth 100000 in
set_option maxHeartbeats 4000000 in
theorem rtake_any {B2 R2 g2 c2 t : Nat} (h : ROwn w B R g c n m) (k : ROwn w B2 R2 g2 c2 n t) (b : Bool) : Calls Try.prog 43 #[.pointer (some ⟨R, 0, none⟩), .pointer (some ⟨R2, 0, none⟩), .bool b] w fun e w' => e = .returned (.int .i64 0) ∧ RLeft w B R g c n (tkn b m t) w' := by
  have gh := Lib.hid h
  have gk := Lib.hid k
  have c0 := h.c0
  have d0 := k.c0
  have gT := Lib.hid (tk_all (b := b) h.lt k.lt h.le)
  have gt := Lib.hid k.lt
  have hn34 := h.le
  have hlen : (sl t).length ≤ n := sl_len k.lt (by omega)
  obtain ⟨N, hN⟩ : ∃ N, N = (sl t).length := ⟨_, rfl⟩
  have gN := Lib.hid hN
  rw [← hN] at hlen
  clear h k hN
  go_enter Try.func43, Try.ntmps43
  go_wp2_with fail
  refine (rvalid_any gh.out).mono ?_
  rintro e _ ⟨rfl, rfl⟩
  go_wp2_with fail
  refine (rvalid_any gk.out).mono ?_
  rintro e _ ⟨rfl, rfl⟩
  go_wp2_with fail
  go_quiet (fail)
  obtain ⟨V, hV⟩ : ∃ V, V = w.drewN nq := ⟨_, rfl⟩
  rw [← hV]
  have gV := Lib.hid (show Below w.heap.size w V from by rw [hV]; exact bel_drewN (Below.refl _ _) _)
  clear hV c0 d0
  go_wp2_with fail
  refine (rall_any (gk.out.below gV.out)).mono ?_
  rintro e W ⟨A, d, rfl, gS⟩
  rw [← gN.out]
  have gW := Lib.hid (gV.out.trans (gS.out.2.mono gV.out.size))
  have gA := Lib.hid gS.out.1
  clear gV gS gk
  go_wp2_with fail
  go_loopw [8] (fun i wr => ∃ k : Nat, k ≤ N ∧ i = .int .i64 (k : Nat) ∧ Hid (RLeft W B R g c n (tk b m ((sl t).take k)) wr ∧ SL wr A (sl t))) (fun i _ => N - (intOf i).toNat)
  case atStart => exact ⟨0, Nat.zero_le _, rfl, ⟨gh.out.below gW.out, But.refl _ _⟩, gA.out⟩
  case round =>
    obtain ⟨k, hk, rfl, gI⟩ := hrel
    by_cases hlt : k < N
    · obtain ⟨x, hx⟩ : ∃ x, (sl t)[k]? = some x := ⟨_, List.getElem?_eq_getElem (by rw [← gN.out]; exact hlt)⟩
      obtain ⟨bA, rfl, hc⟩ := gI.out.2.at hx
      have hxn : x < n := by
        have h1 := List.mem_of_getElem? hx
        exact sl_lt gt.out (show n ≤ 64 by omega) h1
      have c0 := gI.out.1.1.c0
      have cx := gI.out.1.1.at hxn
      have fx := gI.out.1.1.fz x
      have x0 : (0 : Int) ≤ (x : Int) := by omega
      have x1 : (x : Int) < (n : Int) := by omega
      have k0 : (0 : Int) ≤ (k : Int) := by omega
      have k1 : (k : Int) < (N : Int) := by omega
      obtain ⟨u, hu⟩ : ∃ u, u = (tk b m ((sl t).take k)).testBit x := ⟨_, rfl⟩
      rw [← hu] at cx
      have gE := Lib.hid (show RLeft W B R g c n (tk b m ((sl t).take (k + 1))) (wr.setCell ⟨g, x, none⟩ (.bool b)).drew ∧ SL (wr.setCell ⟨g, x, none⟩ (.bool b)).drew (some ⟨bA, 0, none⟩) (sl t) from by
        rw [take_snoc hx, tk_snoc]
        have hs := gI.out.1.1.store (i := x) (b := b) (one_lt (b := b) gI.out.1.1.lt hxn) (fun j hj => one_bit (by omega) (by omega))
        exact ⟨⟨hs.below ((Below.refl _ _).drew), (gI.out.1.2.setCell (.inl (.inr rfl)) _).drew⟩, (gI.out.2.beside gI.out.1.1).below ((Below.refl _ _).drew)⟩)
      clear hx hu
      go_wp2_with fail
      go_region
      go_wp2_with fail
      go_roundw
      case rel => exact ⟨k + 1, by omega, by simp, gE.out⟩
      case measure => simp [intOf] <;> omega
    · obtain rfl : k = N := by omega
      have gE := Lib.hid (show RLeft w B R g c n (tkn b m t) wr from by
        have h := gI.out.1
        rw [gN.out, List.take_length, gT.out] at h
        exact ⟨h.1, (But.of_below gW.out).trans h.2⟩)
      go_wp2_with fail
      go_ret
      exact ⟨rfl, gE.out⟩
end
theorem empty_owns (w : World) : (w.alloc (.cells #[] 4)).ownsRow w.heap.size 4 1 (.slice (some ⟨w.heap.size, 0, none⟩) 0 0) 0 [] :=
  ⟨by simp, .inr ⟨w.heap.size, 0, #[], rfl, Nat.le_refl _, World.alloc_heap_new _ _, Nat.le_refl _, by unfold maxLen; omega, by simp, by simp⟩⟩
theorem bl_one (n m : Nat) : ∀ v ∈ bl n m, v.oneCell' = true := fun v h => by
  obtain ⟨z, _, rfl⟩ := List.mem_map.1 h
  rfl
theorem rcopy_none (w : World) : Calls Try.prog 24 #[.pointer none] w fun e w' => e = .returned (.pointer none) ∧ w = w' := by
  go_enter Try.func24, Try.ntmps24
  go_wp2_with fail
  refine (rvalid_none _).mono ?_
  rintro e _ ⟨rfl, rfl⟩
  go_wp2_with fail
  go_ret
  exact ⟨rfl, rfl⟩
theorem row_slice {w : World} {B n : Nat} {v : Value} {xs : List Value} (h : w.ownsRow B 4 1 v n xs) (hn : 1 ≤ n) : ∃ g c, v = .slice (some ⟨g, 0, none⟩) n c := by
  rcases h.2 with ⟨_, h0⟩ | ⟨g, cap, cur, rfl, _⟩
  · omega
  · exact ⟨g, cap, rfl⟩
set_option maxHeartbeats 1000000 in
theorem rcopy_any {w : World} {B R g c n m : Nat} (h : ROwn w B R g c n m) : Calls Try.prog 24 #[.pointer (some ⟨R, 0, none⟩)] w fun e w' => ∃ R2 g2 c2, e = .returned (.pointer (some ⟨R2, 0, none⟩)) ∧ Hid (ROwn w' w.heap.size R2 g2 c2 n m ∧ Below w.heap.size w w') := by
  obtain ⟨i0, hinf, hz0, hz1, hz2⟩ := info_parts infoB
  have gh := Lib.hid h
  have c0 := h.c0
  have hn := h.le
  have gp := Lib.hid h.pos
  have hb1 := alloc_below w (.cells #[] 4)
  have gb := Lib.hid hb1
  have cR := (hb1.cell (lt_of_cell c0)).trans c0
  have hsrc : ∀ j u, (bl n m)[j]? = some u → (w.alloc (.cells #[] 4)).cell? ((⟨g, 0, none⟩ : Addr).add j) = some u := fun j u hj => by
    have hjn : j < n := by have := (List.getElem?_eq_some_iff.1 hj).1; simpa [bl] using this
    rw [add_plain, Nat.zero_add]
    exact (hb1.cell (p := ⟨g, j, none⟩) h.gB.2).trans ((h.row.cellAt j (by omega)).trans hj)
  have gsrc := Lib.hid hsrc
  clear h hb1 hsrc
  go_enter Try.func24, Try.ntmps24
  go_wp2_with fail
  refine (rvalid_any gh.out).mono ?_
  rintro e _ ⟨rfl, rfl⟩
  go_wp2_with (at_builtin; refine wpList_append_own_at _ rfl _ _ 53 rfl w.heap.size 4 i0 _ 1 1 Try.underlying53 hinf hz0 hz1 hz2 rfl (by decide) _ _ _ rfl (empty_owns w) ⟨g, 0, none⟩ n c (bl n m) rfl (by simp [bl]) gsrc.out (bl_one _ _) (by unfold maxLen; omega) (by omega) (by simp) ?_
               intro v2 w2 hr2 hg2 _ _
               have gE := Lib.hid (show w2.ownsRow w.heap.size 4 1 v2 n (bl n m) ∧ Below w.heap.size w w2 from ⟨by simpa using hr2, gb.out.grown hg2 gb.out.size (fun k e => Nat.le_of_eq (Option.some.inj (show some w.heap.size = some k from e)))⟩)
               obtain ⟨g2, c2, rfl⟩ := row_slice gE.out.1 gp.out
               clear hr2 hg2)
  go_ret
  refine ⟨_, g2, c2, rfl, ⟨gE.out.2.size, World.alloc_heap_new _ _, gE.out.1.alloc _, gh.out.pos, gh.out.le, gh.out.lt⟩, gE.out.2.alloc gE.out.2.size _⟩
end Go.Proofs.Ytpdipcgchhibeaa
