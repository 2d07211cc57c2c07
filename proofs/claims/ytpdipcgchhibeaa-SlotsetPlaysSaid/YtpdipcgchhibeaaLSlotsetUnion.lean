/- SlotsetUnion: the walk. -/
import Derived.Test.YtpdipcgchhibeaaLSlotsetCopies
import Derived.RegionTactic
namespace Go.Proofs.Ytpdipcgchhibeaa
open Go.RowKit
theorem Row.set {w : World} {X n u u' i : Nat} {b : Bool} (h : Row w X n u) (hb : ∀ j, j < n → u'.testBit j = if j = i then b else u.testBit j) : Row (w.setCell ⟨X, i, none⟩ (.bool b)) X n u' := by
  unfold Row at h ⊢
  rw [heap_setCell_same w X i _ _ _ h, bools_set hb]
theorem Row.aside {w : World} {R X n m i : Nat} {v : Value} (h : Row w R n m) (hne : R ≠ X) : Row (w.setCell ⟨X, i, none⟩ v) R n m := (Below.heap_setCell w _ _ R hne).trans h
theorem Hold.aside {w0 w : World} {P X n m i : Nat} {v : Value} (h : Hold w0 P n m w) (hne : P ≠ X) (hX : w0.heap.size ≤ X) : Hold w0 P n m (w.setCell ⟨X, i, none⟩ v) :=
  ⟨h.set.same (Below.heap_setCell w _ _ P hne), h.hP, h.low.setCell hX _⟩
theorem low_bits {x k j : Nat} : (x % 2 ^ (k + 1)).testBit j = if j = k then x.testBit k else (x % 2 ^ k).testBit j := by
  rw [Nat.testBit_mod_two_pow, Nat.testBit_mod_two_pow]
  by_cases e : j = k
  · subst e; simp
  · rw [if_neg e]
    by_cases h : j < k
    · simp [h, show j < k + 1 by omega]
    · simp [h, show ¬ j < k + 1 by omega]
/-- The blocks of SlotsetUnion: two sets, their rows, the rows of the union and of the rest. -/
structure Un (w : World) (P Q R S X Y n s t a b u v : Nat) (wr : World) : Prop where
  s : Hold w P n s wr
  t : Hold w Q n t wr
  r : Row wr R n a
  q : Row wr S n b
  x : Row wr X n u
  y : Row wr Y n v
  p1 : Q ≠ P
  p2 : R ≠ P
  p3 : S ≠ P
  p4 : X ≠ P
  p5 : Y ≠ P
  q2 : R ≠ Q
  q3 : S ≠ Q
  q4 : X ≠ Q
  q5 : Y ≠ Q
  r4 : X ≠ R
  r5 : Y ≠ R
  s4 : X ≠ S
  s5 : Y ≠ S
  x5 : Y ≠ X
  hX : w.heap.size ≤ X
  hY : w.heap.size ≤ Y
section
variable {w wr w' : World} {P Q R S X Y n s t a b u v k : Nat}
theorem Un.below (h : Un w P Q R S X Y n s t a b u v wr) (hb : Below wr.heap.size wr w') : Un w P Q R S X Y n s t a b u v w' :=
  { h with s := h.s.below hb, t := h.t.below hb, r := h.r.below hb, q := h.q.below hb, x := h.x.below hb, y := h.y.below hb }
theorem Un.turnP (h : Un w P Q R S X Y n s t a b u v wr) (hL : Left wr P n k w') : Un w P Q R S X Y n k t a b u v w' :=
  { h with s := h.s.left hL, t := h.t.beside hL h.s.hP h.p1, r := h.r.left hL h.p2, q := h.q.left hL h.p3, x := h.x.left hL h.p4, y := h.y.left hL h.p5 }
theorem Un.turnQ (h : Un w P Q R S X Y n s t a b u v wr) (hL : Left wr Q n k w') : Un w P Q R S X Y n s k a b u v w' :=
  { h with s := h.s.beside hL h.t.hP h.p1.symm, t := h.t.left hL, r := h.r.left hL h.q2, q := h.q.left hL h.q3, x := h.x.left hL h.q4, y := h.y.left hL h.q5 }
theorem Un.setX {u' i : Nat} {c : Bool} (h : Un w P Q R S X Y n s t a b u v wr) (hb : ∀ j, j < n → u'.testBit j = if j = i then c else u.testBit j) : Un w P Q R S X Y n s t a b u' v (wr.setCell ⟨X, i, none⟩ (.bool c)) :=
  { h with s := h.s.aside h.p4.symm h.hX, t := h.t.aside h.q4.symm h.hX, r := h.r.aside h.r4.symm, q := h.q.aside h.s4.symm, x := h.x.set hb, y := h.y.aside h.x5 }
theorem Un.setY {v' i : Nat} {c : Bool} (h : Un w P Q R S X Y n s t a b u v wr) (hb : ∀ j, j < n → v'.testBit j = if j = i then c else v.testBit j) : Un w P Q R S X Y n s t a b u v' (wr.setCell ⟨Y, i, none⟩ (.bool c)) :=
  { h with s := h.s.aside h.p5.symm h.hY, t := h.t.aside h.q5.symm h.hY, r := h.r.aside h.r5.symm, q := h.q.aside h.s5.symm, x := h.x.aside h.x5.symm, y := h.y.set hb }
end
theorem two_new (w : World) (a b : Obj) : ∀ W, W = ((w.alloc a).alloc b).drew → W.heap[w.heap.size]? = some a ∧ W.heap[w.heap.size + 1]? = some b ∧ Below w.heap.size w W := by
  rintro W rfl
  refine ⟨?_, ?_, (((Below.refl _ w).alloc (Nat.le_refl _) _).alloc (by simp) _).drew⟩
  · exact (Below.heap_alloc _ _ _ (by simp)).trans (World.alloc_heap_new w a)
  · have := World.alloc_heap_new (w.alloc a) b
    rwa [World.size_alloc] at this
theorem minus_more {a b n i : Nat} (ha : a < 2 ^ n) (hb : b < 2 ^ n) (hn : n ≤ 34) : (minus a b).testBit i = (a.testBit i && !b.testBit i) := minus_low ha (by omega) (lt_64 hb (by omega))
theorem minus_or {a b n : Nat} (ha : a < 2 ^ n) (hb : b < 2 ^ n) (hn : n ≤ 34) : minus (a ||| b) b = minus a b := by
  apply Nat.eq_of_testBit_eq
  intro i
  rw [minus_more (Nat.or_lt_two_pow ha hb) hb hn, minus_more ha hb hn, Nat.testBit_or]
  cases a.testBit i <;> cases b.testBit i <;> rfl
set_option maxRecDepth 100000 in
set_option maxHeartbeats 8000000 in
theorem slotsetUnion_walk (a0 : Int) (a1 : Option Addr) (len1 cap1 : Nat) (z1 : List Int) (a2 : Option Addr) (len2 cap2 : Nat) (z2 : List Int) (w : World) (w0 : (Lit.int .u8 a0).wf = true) (w1 : IsRow .u8 w a1 len1 cap1 z1) (w2 : IsRow .u8 w a2 len2 cap2 z2) :
    Calls Try.prog 7 #[.int .u8 a0, .slice a1 len1 cap1, .slice a2 len2 cap2] w fun e w' => e = .returned (.bool true) ∧ Below w.heap.size w w' := by
  obtain ⟨s, rfl, hs⟩ := nat_of_u8 w0
  have hlen := w1.len
  have hlen2 := w2.len
  have gl := Lib.hid w1.bn
  have gl2 := Lib.hid w2.bn
  obtain ⟨ns, hns⟩ : ∃ ns, ns = nums len1 z1 := ⟨_, rfl⟩
  obtain ⟨ms, hms⟩ : ∃ ms, ms = nums len2 z2 := ⟨_, rfl⟩
  rw [← hns] at gl
  rw [← hms] at gl2
  clear w0 w1 w2 hns hms
  by_cases h100 : 100 < len1
  · have d1 : decide (100 < len1) = true := by simpa using h100
    go_enter Try.func7, Try.ntmps7
    go_wp2_with fail
    refine (works_any _).mono ?_
    rintro e w' ⟨rfl, hb⟩
    have gb := Lib.hid hb
    clear hb
    go_wp2_with fail
    go_ret
    exact ⟨rfl, gb.out⟩
  · have d1 : decide (100 < len1) = false := by simpa using h100
    have d1i : decide ((100 : Int) < (len1 : Int)) = false := by simp; omega
    have h100' : len1 ≤ 100 := by omega
    by_cases h40 : 100 < len2
    · have d2 : decide (100 < len2) = true := by simpa using h40
      clear h100
      go_enter Try.func7, Try.ntmps7
      go_wp2_with fail
      refine (works_any _).mono ?_
      rintro e w' ⟨rfl, hb⟩
      have gb := Lib.hid hb
      clear hb
      go_wp2_with fail
      go_ret
      exact ⟨rfl, gb.out⟩
    · have d2 : decide (100 < len2) = false := by simpa using h40
      have d2i : decide ((100 : Int) < (len2 : Int)) = false := by simp; omega
      have h40' : len2 ≤ 100 := by omega
      have gs := Lib.hid hs
      clear hs h100 h40
      go_enter Try.func7, Try.ntmps7
      go_wp2_with fail
      refine (filled_any s a1 len1 cap1 ns w gl.out (by omega) gs.out).mono ?_
      rintro e W1 ⟨P, R, rfl, gF⟩
      clear d1 d1i d2 d2i
      go_wp2_with fail
      refine (filled_any s a2 len2 cap2 ms W1 (gl2.out.below gF.out.low) (by omega) gs.out).mono ?_
      rintro e W2 ⟨Q, S, rfl, gG⟩
      obtain ⟨n, hn⟩ : ∃ n, n = 1 + s % 34 := ⟨_, rfl⟩
      obtain ⟨a, ha⟩ : ∃ a, a = fillN (1 + s % 34) ns := ⟨_, rfl⟩
      obtain ⟨b, hb⟩ : ∃ b, b = fillN (1 + s % 34) ms := ⟨_, rfl⟩
      rw [← ha, ← hn] at gF
      rw [← hb, ← hn] at gG
      rw [← hn]
      clear hn ha hb
      have hn34 : n ≤ 34 := gF.out.set.le
      have ga := Lib.hid gF.out.set.lt
      have gb := Lib.hid gG.out.set.lt
      have g2 := Lib.hid (gF.out.hold.below gG.out.low)
      have k2 : Hid (Hold w Q n b W2) := Lib.hid ⟨gG.out.set, Nat.le_trans gF.out.low.size gG.out.hP, g2.out.low⟩
      have r2 := Lib.hid (gF.out.rows.below gG.out.low)
      have s2 := Lib.hid gG.out.rows
      have gap := Lib.hid (show Q ≠ P ∧ R ≠ P ∧ S ≠ P ∧ R ≠ Q ∧ S ≠ Q from by
        have h1 := gF.out.set.blt
        have h2 := lt_of_heap gF.out.row
        have h3 := gG.out.hP
        have h4 := gG.out.hR
        exact ⟨by omega, gF.out.ne, by omega, by omega, gG.out.ne⟩)
      clear gl gl2 gs gF gG
      go_wp2_with fail
      refine (h_union g2.out k2.out.set).mono ?_
      rintro e W3 ⟨rfl, h3, hL⟩
      have g3 := Lib.hid h3
      have k3 := Lib.hid (k2.out.beside hL g2.out.hP gap.out.1)
      have r3 := Lib.hid (r2.out.left hL gap.out.2.1)
      have s3 := Lib.hid (s2.out.left hL gap.out.2.2.1)
      have hmk := make_bools n (by omega)
      rw [bools_zero] at hmk
      clear h3 hL g2 k2 r2 s2
      go_wp2_with fail
      go_region
      all_goals
        obtain ⟨q1, q2, q3⟩ := two_new W3 (.cells (bools n 0) 4) (.cells (bools n 0) 4) _ rfl
        obtain ⟨V, hV⟩ : ∃ V, V = ((W3.alloc (.cells (bools n 0) 4)).alloc (.cells (bools n 0) 4)).drew := ⟨_, rfl⟩
        rw [← hV] at q1 q2 q3
        rw [← hV]
        have lt1 := g3.out.lt
        have lt2 := k3.out.lt
        have lt3 := lt_of_heap r3.out
        have lt4 := lt_of_heap s3.out
        have lt5 := g3.out.low.size
      obtain ⟨X, hX⟩ : ∃ X, X = W3.heap.size := ⟨_, rfl⟩
      obtain ⟨Y, hY⟩ : ∃ Y, Y = W3.heap.size + 1 := ⟨_, rfl⟩
      rw [← hY, ← hX]
      rw [← hY] at q2
      rw [← hX] at q1
      have gUN : Hid (Un w P Q R S X Y n (a ||| b) b a b 0 0 V) :=
        Lib.hid ⟨g3.out.below q3, k3.out.below q3, r3.out.below q3, s3.out.below q3, q1, q2, gap.out.1, gap.out.2.1, gap.out.2.2.1, by omega, by omega, gap.out.2.2.2.1, gap.out.2.2.2.2, by omega, by omega, by omega, by omega, by omega, by omega, by omega, by omega, by omega⟩
      rotate_left 1
      obtain ⟨Y, hY⟩ : ∃ X, X = W3.heap.size := ⟨_, rfl⟩
      obtain ⟨X, hX⟩ : ∃ Y, Y = W3.heap.size + 1 := ⟨_, rfl⟩
      rw [← hX, ← hY]
      rw [← hX] at q2
      rw [← hY] at q1
      have gUN : Hid (Un w P Q R S X Y n (a ||| b) b a b 0 0 V) :=
        Lib.hid ⟨g3.out.below q3, k3.out.below q3, r3.out.below q3, s3.out.below q3, q2, q1, gap.out.1, gap.out.2.1, gap.out.2.2.1, by omega, by omega, gap.out.2.2.2.1, gap.out.2.2.2.2, by omega, by omega, by omega, by omega, by omega, by omega, by omega, by omega, by omega⟩
      rotate_left 1
      all_goals
        clear q1 q2 q3 hV hX hY lt1 lt2 lt3 lt4 lt5 g3 k3 r3 s3 hmk gap
        go_wp2_with fail
        go_loopw [13] (fun c wr => ∃ k : Nat, k ≤ n ∧ c = .int .i64 (k : Nat) ∧ Hid (Un w P Q R S X Y n (a ||| b) b a b ((a ||| b) % 2 ^ k) (minus a b % 2 ^ k) wr)) (fun c _ => n - (intOf c).toNat)
        case atStart =>
          refine ⟨0, Nat.zero_le _, rfl, ?_⟩
          rw [Nat.pow_zero, Nat.mod_one, Nat.mod_one]
          exact gUN.out
        case round =>
          obtain ⟨k, hk, rfl, gI⟩ := hrel
          clear gUN
          by_cases hlt : k < n
          · have c1 := gI.out.r.at hlt
            have c2 := gI.out.q.at hlt
            have k0 : (0 : Int) ≤ (k : Int) := by omega
            have k1 : (k : Int) < (n : Int) := by omega
            have x1 := gI.out.x.at hlt
            have xf : wr.frozen? ⟨X, k, none⟩ = false := frozen_of_row wr X k _ _ gI.out.x
            obtain ⟨A, hA⟩ : ∃ A, A = a.testBit k := ⟨_, rfl⟩
            obtain ⟨B, hB⟩ : ∃ B, B = b.testBit k := ⟨_, rfl⟩
            have gX := Lib.hid (gI.out.setX (i := k) (c := A || B) (u' := (a ||| b) % 2 ^ (k + 1)) fun j _ => by rw [low_bits, Nat.testBit_or, hA, hB])
            have gY := Lib.hid (gX.out.setY (i := k) (c := A && !B) (v' := minus a b % 2 ^ (k + 1)) fun j _ => by rw [low_bits, minus_more ga.out gb.out hn34, hA, hB])
            have c1' := gX.out.r.at hlt
            have c2' := gX.out.q.at hlt
            have y1 := gX.out.y.at hlt
            have yf := frozen_of_row _ Y k _ _ gX.out.y
            rw [← hA] at c1 c1'
            rw [← hB] at c2 c2'
            obtain ⟨z1, hz1⟩ : ∃ z, z = ((a ||| b) % 2 ^ k).testBit k := ⟨_, rfl⟩
            obtain ⟨z2, hz2⟩ : ∃ z, z = (minus a b % 2 ^ k).testBit k := ⟨_, rfl⟩
            rw [← hz1] at x1
            rw [← hz2] at y1
            clear hA hB hz1 hz2
            cases A <;> cases B
            all_goals
              simp only [Bool.or_true, Bool.or_false, Bool.and_true, Bool.and_false, Bool.not_true, Bool.not_false] at gX gY c1' c2' y1 yf
              go_wp2_with fail
              go_roundw
              case rel => exact ⟨k + 1, by omega, by simp, gY.out⟩
              case measure => simp [intOf] <;> omega
          · obtain rfl : k = n := by omega
            have gU := Lib.hid (show Un w P Q R S X Y k (a ||| b) b a b (a ||| b) (minus a b) wr from by
              have h := gI.out
              rw [Nat.mod_eq_of_lt (Nat.or_lt_two_pow ga.out gb.out), Nat.mod_eq_of_lt (minus_lt ga.out)] at h
              exact h)
            clear gI hlt
            go_wp2_with fail
            refine (slots_is gU.out.x hn34 (Nat.or_lt_two_pow ga.out gb.out)).mono ?_
            rintro e W4 ⟨A, d, rfl, gA⟩
            have g4 := Lib.hid (gU.out.below gA.out.2)
            clear gU
            go_wp2_with fail
            refine (same_is g4.out.s gA.out.1).mono ?_
            rintro e W5 ⟨rfl, hb⟩
            have g5 := Lib.hid (g4.out.below hb)
            clear g4 gA hb
            go_wp2_with fail
            refine (h_minus g5.out.s g5.out.t.set).mono ?_
            rintro e W6 ⟨rfl, _, hL⟩
            rw [minus_or ga.out gb.out hn34] at hL
            have g6 := Lib.hid (g5.out.turnP hL)
            clear g5 hL
            go_wp2_with fail
            refine (slots_is g6.out.y hn34 (minus_lt ga.out)).mono ?_
            rintro e W7 ⟨A, d, rfl, gA⟩
            have g7 := Lib.hid (g6.out.below gA.out.2)
            clear g6
            go_wp2_with fail
            refine (same_is g7.out.s gA.out.1).mono ?_
            rintro e W8 ⟨rfl, hb⟩
            have g8 := Lib.hid (g7.out.below hb)
            clear g7 gA hb
            go_wp2_with fail
            refine (slots_is g8.out.q hn34 gb.out).mono ?_
            rintro e W9 ⟨A, d, rfl, gA⟩
            have g9 := Lib.hid (g8.out.below gA.out.2)
            clear g8
            go_wp2_with fail
            refine (same_is g9.out.t gA.out.1).mono ?_
            rintro e W10 ⟨rfl, hb⟩
            have g10 := Lib.hid (g9.out.below hb)
            clear g9 gA hb
            go_wp2_with fail
            refine (h_union g10.out.t g10.out.t.set).mono ?_
            rintro e W11 ⟨rfl, _, hL⟩
            rw [Nat.or_self] at hL
            have g11 := Lib.hid (g10.out.turnQ hL)
            clear g10 hL
            go_wp2_with fail
            refine (slots_is g11.out.q hn34 gb.out).mono ?_
            rintro e W12 ⟨A, d, rfl, gA⟩
            have g12 := Lib.hid (g11.out.below gA.out.2)
            clear g11
            go_wp2_with fail
            refine (same_is g12.out.t gA.out.1).mono ?_
            rintro e W13 ⟨rfl, hb⟩
            have g13 := Lib.hid (g12.out.below hb)
            clear g12 gA hb
            go_wp2_with fail
            refine (h_minus g13.out.t g13.out.t.set).mono ?_
            rintro e W14 ⟨rfl, h14, _⟩
            rw [minus_self g13.out.t.set.m64] at h14
            have g14 := Lib.hid h14
            clear g13 h14
            go_wp2_with fail
            refine (h_len g14.out).mono ?_
            rintro e _ ⟨rfl, rfl⟩
            rw [sl_zero]
            go_wp2_with fail
            refine (works_any _).mono ?_
            rintro e W15 ⟨rfl, hb⟩
            have gE := Lib.hid (g14.out.below hb).low
            clear hb g14
            go_wp2_with fail
            go_ret
            exact ⟨rfl, gE.out⟩
end Go.Proofs.Ytpdipcgchhibeaa
