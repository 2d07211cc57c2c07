/- The matrix of 32 numbers: an array; shifting by one byte, applying, squaring. -/
import Derived.Test.YtcaodblmdaifjaaTab
namespace Go.Proofs.Ytcaodblmdaifjaa
open Go.RowKit

theorem ret_cell {fn : Func} {p : Tmp} {ty : TypeId} {n : Nat} {m : Nat → Nat} (h : fn.results = #[.cell p ty]) (tmps : Array Value) {w : World} {g : Nat} (hp : tmps.getD p undef = .pointer (some ⟨g, 0, none⟩)) (hr : Row32 w g ty m n)
    {e : TypeId} (hu : Try.prog.underlying ty = some (.array n e)) (hi : (Try.prog.info? ty).map (·.size) = some n) : (results fn tmps).run Try.prog w = .ok (.agg (arr32 m n)) w :=
  results_cell_row h tmps w g ty _ (0, 0) _ hp hr.heap hu rfl (by rw [size_arr32]; exact hi)

theorem bchain {w a b : World} (h : Below w.heap.size w a) (k : Below a.heap.size a b) : Below w.heap.size w b := h.trans (k.mono h.size)
theorem pow_lt32 {i : Nat} (h : i < 32) : 2 ^ i < 4294967296 := Nat.pow_lt_pow_right (by decide) (m := i) (n := 32) h

set_option maxRecDepth 100000 in
set_option maxHeartbeats 400000 in
theorem one_any (w : World) : Calls Try.prog 27 #[] w fun e w' => e = .returned (.agg (arr32 (fun i => cshift 1 (2 ^ i)) 32)) ∧ Below w.heap.size w w' := by
  obtain ⟨hz, hs⟩ := zero_of_info info48
  go_enter Try.func27, Try.ntmps27
  go_wp2_with fail
  clear hz
  go_loopw [4] (fun i wr => ∃ j : Nat, j ≤ 32 ∧ i = .int .i64 j ∧ Row32 wr w.heap.size 48 (fun _ => 0) 32 ∧ (∃ f : Nat → Nat, Row32 wr (w.heap.size + 1) 48 f 32 ∧ ∀ q, q < j → f q = cshift 1 (2 ^ q)) ∧ Below w.heap.size w wr) (fun i _ => 32 - (intOf i).toNat)
  case atStart =>
    refine ⟨0, by omega, rfl, (Row32.new _ _ _ _).alloc _, ⟨fun _ => 0, ?_, ?_⟩, ((Below.refl _ _).alloc (Nat.le_refl _) _).alloc (by simp) _⟩
    · have := Row32.new (w.alloc (.cells (arr32 (fun _ => 0) 32) 48)) 48 (fun _ => 0) 32
      simpa using this
    · intro j hj
      omega
  case round =>
    obtain ⟨j, hj, rfl, h0, ⟨f, hf, hv⟩, hbl⟩ := hrel
    have g0 := Lib.hid h0
    clear h0
    by_cases hlt : j < 32
    · have hpl := pow_lt32 hlt
      obtain ⟨p, hp⟩ : ∃ p, p = 2 ^ j := ⟨_, rfl⟩
      have hsh : (2 : Int) ^ j % 4294967296 = (p : Int) := by
        have e : (2 : Int) ^ j = ((2 ^ j : Nat) : Int) := by simp
        rw [e, hp]; omega
      rw [← hp] at hpl
      have gp := Lib.hid hp
      have hd : decide ((j : Int) < 32) = true := decide_eq_true (by omega)
      have gv := Lib.hid hv
      clear hv hp
      go_wp2_with fail
      rw [hsh]
      go_loop [3, 9] (fun x i => ∃ q : Nat, q ≤ 8 ∧ i = .int .i64 q ∧ x = .int .u32 (csteps q p : Nat)) (fun _ i => 8 - (intOf i).toNat)
      case atStart => exact ⟨0, by omega, rfl, rfl⟩
      case round =>
        obtain ⟨q, hq, rfl, rfl⟩ := hrel
        have hxl := csteps_lt q hpl
        by_cases hq8 : q < 8
        · go_wp2_with (go_at_call 25; refine (step_any _ hxl _).mono ?_; rintro e w' ⟨rfl, rfl⟩)
          go_round
          case rel => exact ⟨q + 1, by omega, by go_num, by rw [csteps_snoc]⟩
          case measure => simp [intOf]; omega
        · obtain rfl : q = 8 := by omega
          have hc2 := hf.cell hlt
          have hfz := hf.frozen j
          have gf := Lib.hid hf
          clear hf
          go_wp2_with fail
          refine ⟨⟨j + 1, by omega, rfl, g0.out.other _ (by simp), ⟨_, gf.out.store _ _, fun q hq => ?_⟩, hbl.setCell (by simp) _⟩, by simp [intOf]; omega⟩
          show (if q = j then csteps 8 p else f q) = cshift 1 (2 ^ q)
          by_cases hqj : q = j
          · rw [if_pos hqj, hqj, gp.out]; rfl
          · rw [if_neg hqj, gv.out q (by omega)]
    · obtain rfl : j = 32 := by omega
      have ef : arr32 f 32 = arr32 (fun i => cshift 1 (2 ^ i)) 32 := arr32_congr fun j hj => hv j hj
      have gf : RowKit.Hid (wr.heap[w.heap.size + 1]? = some (.cells (arr32 (fun i => cshift 1 (2 ^ i)) 32) 48 (0, 0))) := by
        have := hf.heap; rw [ef] at this; exact this
      clear hf hv ef
      have hst := g0.out.storeAll (fun i => cshift 1 (2 ^ i)) hs
      go_wp2_with (refine wpList_load_row rfl 48 _ rfl (w.heap.size + 1) rfl 48 _ (0, 0) _ gf.out Try.underlying48 rfl (by rw [size_arr32]; exact hs) ?_)
      refine bodyPost_ret (v := .agg (arr32 (fun i => cshift 1 (2 ^ i)) 32)) ?_ rfl ⟨rfl, Below.row hbl (Nat.le_refl _) _⟩
      exact ret_cell rfl _ rfl (g0.out.setRow _) Try.underlying48 hs

/-- A matrix applied to a number: what is xored so far. -/
theorem capp_lt {m : Nat → Nat} (hm : ∀ i, i < 32 → m i < 4294967296) (x : Nat) : ∀ n, n ≤ 32 → capp m x n < 4294967296
  | 0, _ => by show 0 < _; decide
  | n + 1, h => by
    have ih := capp_lt hm x n (by omega)
    show (if x / 2 ^ n % 2 = 1 then capp m x n ^^^ m n else capp m x n) < _
    split
    · exact Nat.xor_lt_two_pow (n := 32) ih (hm n (by omega))
    · exact ih
theorem capp_one {m : Nat → Nat} {x n : Nat} (h : x / 2 ^ n % 2 = 1) : capp m x (n + 1) = capp m x n ^^^ m n := if_pos h
theorem capp_none {m : Nat → Nat} {x n : Nat} (h : ¬ x / 2 ^ n % 2 = 1) : capp m x (n + 1) = capp m x n := if_neg h

theorem bit_true {x j : Nat} (hx : x < 4294967296) (h : x / 2 ^ j % 2 = 1) : (bits .and .u32 ((x : Int) / 2 ^ j) 1 == 1) = true := by
  have e : (x : Int) / 2 ^ j = ((x / 2 ^ j : Nat) : Int) := by simp
  rw [e]; exact low_true (Nat.lt_of_le_of_lt (Nat.div_le_self ..) hx) h
theorem bit_false {x j : Nat} (hx : x < 4294967296) (h : ¬ x / 2 ^ j % 2 = 1) : (bits .and .u32 ((x : Int) / 2 ^ j) 1 == 1) = false := by
  have e : (x : Int) / 2 ^ j = ((x / 2 ^ j : Nat) : Int) := by simp
  rw [e]; exact low_false (Nat.lt_of_le_of_lt (Nat.div_le_self ..) hx) h
theorem index_arr32 (m : Nat → Nat) {j : Nat} (h : j < 32) (w : World) : (Instr.index 48 (.agg (arr32 m 32)) (.int .i64 j)).run Try.prog w = .ok (.int .u32 (m j : Nat)) w := by
  have hn : (0 : Int) ≤ j ∧ (j : Int) < 32 := by omega
  have hg : (arr32 m 32)[j]? = some (.int .u32 (m j : Nat)) := get_arr32 m h
  simp [Instr.index, run_underlying Try.underlying48, asIntOf, hn, go_sem, hg]
  intro hc; omega

set_option maxRecDepth 100000 in
set_option maxHeartbeats 400000 in
theorem of_any (m : Nat → Nat) (hm : ∀ i, i < 32 → m i < 4294967296) (x : Nat) (hx : x < 4294967296) (w : World) : Calls Try.prog 28 #[.agg (arr32 m 32), .int .u32 x] w fun e w' => e = .returned (.int .u32 (capp m x 32 : Nat)) ∧ Below w.heap.size w w' := by
  obtain ⟨hz, hs⟩ := zero_of_info info48
  have gm := Lib.hid hm
  clear hz hm
  go_enter Try.func28, Try.ntmps28
  go_wp2_with (refine wpList_load_row rfl 48 _ rfl w.heap.size rfl 48 _ (0, 0) _ (heap_alloc_new _ _) Try.underlying48 rfl (by rw [size_arr32]; exact hs) ?_)
  go_loop [5, 9] (fun a i => ∃ j : Nat, j ≤ 32 ∧ i = .int .i64 j ∧ a = .int .u32 (capp m x j : Nat)) (fun _ i => 32 - (intOf i).toNat)
  case atStart => exact ⟨0, by omega, rfl, rfl⟩
  case round =>
    obtain ⟨j, hj, rfl, rfl⟩ := hrel
    by_cases hlt : j < 32
    · have hix := index_arr32 m hlt
      by_cases hb : x / 2 ^ j % 2 = 1
      · have ht := bit_true hx hb
        have hxx := u32_xor_nat (capp m x j) (m j) (capp_lt gm.out x j hj) (gm.out j hlt)
        have gb := Lib.hid hb
        clear hb
        go_wp2_with fail
        exact ⟨⟨j + 1, by omega, rfl, by rw [capp_one gb.out]⟩, by simp [intOf]; omega⟩
      · have ht := bit_false hx hb
        have gb := Lib.hid hb
        clear hb
        go_wp2_with fail
        exact ⟨⟨j + 1, by omega, rfl, by rw [capp_none gb.out]⟩, by simp [intOf]; omega⟩
    · obtain rfl : j = 32 := by omega
      go_wp2_with fail
      go_ret
      exact ⟨rfl, (Below.refl _ _).alloc (Nat.le_refl _) _⟩

set_option maxRecDepth 100000 in
set_option maxHeartbeats 400000 in
theorem squared_any (m : Nat → Nat) (hm : ∀ i, i < 32 → m i < 4294967296) (w : World) : Calls Try.prog 29 #[.agg (arr32 m 32)] w fun e w' => e = .returned (.agg (arr32 (fun i => capp m (m i) 32) 32)) ∧ Below w.heap.size w w' := by
  obtain ⟨hz, hs⟩ := zero_of_info info48
  have gm := Lib.hid hm
  clear hm
  go_enter Try.func29, Try.ntmps29
  go_wp2_with (refine wpList_load_row rfl 48 _ rfl w.heap.size rfl 48 _ (0, 0) _ (show (((w.alloc _).alloc _).alloc _).heap[w.heap.size]? = _ from (Below.heap_alloc _ _ _ (by simp; omega)).trans ((Below.heap_alloc _ _ _ (by simp)).trans (heap_alloc_new _ _))) Try.underlying48 rfl (by rw [size_arr32]; exact hs) ?_)
  clear hz
  go_loopw [7] (fun i wr => ∃ j : Nat, j ≤ 32 ∧ i = .int .i64 j ∧ Row32 wr w.heap.size 48 m 32 ∧ Row32 wr (w.heap.size + 1) 48 (fun _ => 0) 32 ∧ (∃ f : Nat → Nat, Row32 wr (w.heap.size + 2) 48 f 32 ∧ ∀ q, q < j → f q = capp m (m q) 32) ∧ Below w.heap.size w wr) (fun i _ => 32 - (intOf i).toNat)
  case atStart =>
    have h1 := Row32.new (w.alloc (.cells (arr32 m 32) 48)) 48 (fun _ => 0) 32
    have h2 := Row32.new ((w.alloc (.cells (arr32 m 32) 48)).alloc (.cells (arr32 (fun _ => 0) 32) 48)) 48 (fun _ => 0) 32
    refine ⟨0, by omega, rfl, ((Row32.new w 48 m 32).alloc _).alloc _, ?_, ⟨fun _ => 0, ?_, ?_⟩, (((Below.refl _ _).alloc (Nat.le_refl _) _).alloc (by simp) _).alloc (by simp; omega) _⟩
    · have := h1.alloc (.cells (arr32 (fun _ => 0) 32) 48); simpa using this
    · simpa using h2
    · intro j hj
      omega
  case round =>
    obtain ⟨j, hj, rfl, hB, h0, ⟨f, hf, hv⟩, hbl⟩ := hrel
    have gB := Lib.hid hB
    have g0 := Lib.hid h0
    clear h0 hB
    by_cases hlt : j < 32
    · have hix := index_arr32 m hlt
      have hml := gm.out j hlt
      have gv := Lib.hid hv
      have gf := Lib.hid hf
      clear hv hf
      go_wp2_with (first | refine wpList_load_row rfl 48 _ rfl w.heap.size rfl 48 _ (0, 0) _ gB.out.heap Try.underlying48 rfl (by rw [size_arr32]; exact hs) ?_ | (go_at_call 28; refine (of_any m gm.out _ hml _).mono ?_; rintro e wo ⟨rfl, hBo⟩; have hc2 := ((gf.out).below hBo (gf.out).lt).cell hlt; have hfz := ((gf.out).below hBo (gf.out).lt).frozen j))
      have hbo := bchain hbl hBo
      refine ⟨⟨j + 1, by omega, rfl, (gB.out.below hBo gB.out.lt).other _ (by simp; omega), (g0.out.below hBo g0.out.lt).other _ (by simp), ⟨_, (gf.out.below hBo gf.out.lt).store _ _, fun q hq => ?_⟩, hbo.setCell (by simp; omega) _⟩, by simp [intOf]; omega⟩
      show (if q = j then capp m (m j) 32 else f q) = capp m (m q) 32
      by_cases hqj : q = j
      · rw [if_pos hqj, hqj]
      · rw [if_neg hqj, gv.out q (by omega)]
    · obtain rfl : j = 32 := by omega
      have ef : arr32 f 32 = arr32 (fun i => capp m (m i) 32) 32 := arr32_congr fun j hj => hv j hj
      have gf : RowKit.Hid (wr.heap[w.heap.size + 1 + 1]? = some (.cells (arr32 (fun i => capp m (m i) 32) 32) 48 (0, 0))) := by
        have := hf.heap; rw [ef] at this; exact this
      clear hf hv ef
      have hst := g0.out.storeAll (fun i => capp m (m i) 32) hs
      go_wp2_with (refine wpList_load_row rfl 48 _ rfl (w.heap.size + 1 + 1) rfl 48 _ (0, 0) _ gf.out Try.underlying48 rfl (by rw [size_arr32]; exact hs) ?_)
      refine bodyPost_ret (v := .agg (arr32 (fun i => capp m (m i) 32) 32)) ?_ rfl ⟨rfl, Below.row hbl (by omega) _⟩
      exact ret_cell rfl _ rfl (g0.out.setRow _) Try.underlying48 hs

/-- The matrix that shifts by s bytes. -/
def shm (s : Nat) : Nat → Nat := fun i => cshift s (2 ^ i)
theorem shm_lt (s : Nat) : ∀ i, i < 32 → shm s i < 4294967296 := fun _ h => cshift_lt s (pow_lt32 h)
theorem shm_app (s : Nat) {x : Nat} (hx : x < 4294967296) : capp (shm s) x 32 = cshift s x := capp_shift (shm s) s (fun _ _ => rfl) hx
theorem shm_sq (s : Nat) : arr32 (fun i => capp (shm s) (shm s i) 32) 32 = arr32 (shm (2 * s)) 32 := arr32_congr fun i hi => by
  rw [shm_app s (shm_lt s i hi), show 2 * s = s + s from by omega]
  exact (cshift_add s s (2 ^ i)).symm
theorem shm_of (s x : Nat) (hx : x < 4294967296) (w : World) : Calls Try.prog 28 #[.agg (arr32 (shm s) 32), .int .u32 x] w fun e w' => e = .returned (.int .u32 (cshift s x : Nat)) ∧ Below w.heap.size w w' := by
  have := of_any (shm s) (shm_lt s) x hx w
  rw [shm_app s hx] at this
  exact this
theorem shm_squared (s : Nat) (w : World) : Calls Try.prog 29 #[.agg (arr32 (shm s) 32)] w fun e w' => e = .returned (.agg (arr32 (shm (2 * s)) 32)) ∧ Below w.heap.size w w' := by
  have := squared_any (shm s) (shm_lt s) w
  rw [shm_sq s] at this
  exact this
theorem shm_one (w : World) : Calls Try.prog 27 #[] w fun e w' => e = .returned (.agg (arr32 (shm 1) 32)) ∧ Below w.heap.size w w' := one_any w

theorem wraps_i64 (n : Int) (h₀ : 0 ≤ n) (h₁ : n < 2 ^ 63) : IntKind.i64.wrap n = n := by rw [IntKind.wrap_i64]; omega
theorem and1_i64 {n : Nat} (h : n < 9223372036854775808) : bits .and .i64 (n : Int) 1 = ((n % 2 : Nat) : Int) := by
  have := bits_mask .i64 63 (by decide) wraps_i64 1 (by decide) n (by omega) (by omega)
  simpa using this
theorem odd_true {n : Nat} (h : n < 9223372036854775808) (ho : n % 2 = 1) : (bits .and .i64 (n : Int) 1 == 1) = true := by rw [and1_i64 h, ho]; rfl
theorem odd_false {n : Nat} (h : n < 9223372036854775808) (ho : ¬ n % 2 = 1) : (bits .and .i64 (n : Int) 1 == 1) = false := by rw [and1_i64 h, show n % 2 = 0 from by omega]; rfl
theorem store_new48 (hs : (Try.prog.info? 48).map (·.size) = some 32) (w : World) (m m' : Nat → Nat) : (storeCells ⟨w.heap.size, 0, none⟩ (arr32 m' 32).toList 0).run Try.prog (w.alloc (.cells (arr32 m 32) 48)) = .ok () (w.alloc (.cells (arr32 m' 32) 48)) :=
  run_storeCells_new w 48 _ _ (by rw [size_arr32]; exact hs) (by rw [size_arr32, size_arr32]) (one_arr32 _ _)

theorem shift_odd (s k y : Nat) (h : k % 2 = 1) : cshift (2 * s * (k / 2)) (cshift s y) = cshift (s * k) y := by
  obtain ⟨q, rfl⟩ : ∃ q, k = 2 * q + 1 := ⟨k / 2, by omega⟩
  rw [show (2 * q + 1) / 2 = q from by omega, ← cshift_add]
  congr 1
  rw [Nat.mul_add, Nat.mul_one, Nat.mul_comm 2 s, Nat.mul_assoc, Nat.add_comm]
theorem shift_even (s k y : Nat) (h : ¬ k % 2 = 1) : cshift (2 * s * (k / 2)) y = cshift (s * k) y := by
  obtain ⟨q, rfl⟩ : ∃ q, k = 2 * q := ⟨k / 2, by omega⟩
  rw [show (2 * q) / 2 = q from by omega, Nat.mul_comm 2 s, Nat.mul_assoc]

/-- Shifting so far: what is left to shift, and the matrix. -/
def ShRel (w : World) (G : Nat) (n x : Nat) (a b : Value) (wr : World) : Prop :=
  ∃ s y k : Nat, a = .int .u32 y ∧ b = .int .i64 k ∧ k < 9223372036854775808 ∧ y < 4294967296 ∧ cshift (s * k) y = cshift n x ∧ Row32 wr G 48 (shm s) 32 ∧ Below w.heap.size w wr

set_option maxRecDepth 100000 in
set_option maxHeartbeats 400000 in
theorem shift_any (x n : Nat) (hx : x < 4294967296) (hn : n < 9223372036854775808) (w : World) : Calls Try.prog 23 #[.int .u32 x, .int .i64 n] w fun e w' => e = .returned (.int .u32 (cshift n x : Nat)) ∧ Below w.heap.size w w' := by
  obtain ⟨hz, hs⟩ := zero_of_info info48
  go_enter Try.func23, Try.ntmps23
  go_wp2_with (go_at_call 27; refine (shm_one _).mono ?_; rintro e wo ⟨rfl, hBo⟩; have hst := store_new48 hs wo (fun _ => 0) (shm 1))
  clear hz hst
  go_loopw [0, 1] (fun a b wr => ShRel w wo.heap.size n x a b wr) (fun _ b _ => (intOf b).toNat)
  case atStart => exact ⟨1, x, n, rfl, rfl, hn, hx, by rw [Nat.one_mul], Row32.new _ _ _ _, hBo.alloc hBo.size _⟩
  case round =>
    obtain ⟨s, y, k, rfl, rfl, hk, hy, he, hR, hbl⟩ := hrel
    have ge := Lib.hid he
    have gR := Lib.hid hR
    clear he hR
    by_cases hk0 : 0 < k
    · by_cases ho : k % 2 = 1
      · have ht := odd_true hk ho
        have gO := Lib.hid ho
        clear ho
        go_wp2_with (first | refine wpList_load_row rfl 48 _ rfl wo.heap.size rfl 48 _ (0, 0) _ gR.out.heap Try.underlying48 rfl (by rw [size_arr32]; exact hs) ?_ | refine wpList_load_row rfl 48 _ rfl wo.heap.size rfl 48 _ (0, 0) _ gR1.out.heap Try.underlying48 rfl (by rw [size_arr32]; exact hs) ?_ | (go_at_call 28; refine (shm_of s y hy _).mono ?_; rintro e w1 ⟨rfl, hB1⟩; have gR1 := Lib.hid (gR.out.below hB1 gR.out.lt)) | (go_at_call 29; refine (shm_squared s _).mono ?_; rintro e w2 ⟨rfl, hB2⟩; have gR2 := Lib.hid (gR1.out.below hB2 gR1.out.lt); have hst := gR2.out.storeAll (shm (2 * s)) hs))
        refine ⟨⟨2 * s, cshift s y, k / 2, rfl, rfl, by omega, cshift_lt s hy, ?_, gR2.out.setRow _, Below.row (bchain (bchain hbl hB1) hB2) hBo.size _⟩, by simp [intOf]; omega⟩
        rw [← ge.out]; exact shift_odd s k y gO.out
      · have ht := odd_false hk ho
        have gO := Lib.hid ho
        clear ho
        go_wp2_with (first | refine wpList_load_row rfl 48 _ rfl wo.heap.size rfl 48 _ (0, 0) _ gR.out.heap Try.underlying48 rfl (by rw [size_arr32]; exact hs) ?_ | (go_at_call 29; refine (shm_squared s _).mono ?_; rintro e w2 ⟨rfl, hB2⟩; have gR2 := Lib.hid (gR.out.below hB2 gR.out.lt); have hst := gR2.out.storeAll (shm (2 * s)) hs))
        refine ⟨⟨2 * s, y, k / 2, rfl, rfl, by omega, hy, ?_, gR2.out.setRow _, Below.row (bchain hbl hB2) hBo.size _⟩, by simp [intOf]; omega⟩
        rw [← ge.out]; exact shift_even s k y gO.out
    · obtain rfl : k = 0 := by omega
      have e : cshift n x = y := by rw [← ge.out, Nat.mul_zero]; rfl
      have gE := Lib.hid e
      clear e
      go_wp2_with fail
      go_ret
      exact ⟨by rw [gE.out]; rfl, hbl⟩
end Go.Proofs.Ytcaodblmdaifjaa
