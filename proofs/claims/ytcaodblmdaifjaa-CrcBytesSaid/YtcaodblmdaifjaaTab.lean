/- The table of all bytes: an array that the call makes. -/
import Derived.Test.YtcaodblmdaifjaaStep
namespace Go.Proofs.Ytcaodblmdaifjaa
open Go.RowKit

/-- The cells of an array of numbers of 32 bits. -/
def arr32 (m : Nat → Nat) (n : Nat) : Array Value := ((List.range n).map fun i => Value.int .u32 (m i : Nat)).toArray
theorem size_arr32 (m : Nat → Nat) (n : Nat) : (arr32 m n).size = n := by simp [arr32]
theorem get_arr32 (m : Nat → Nat) {n i : Nat} (h : i < n) : (arr32 m n)[i]? = some (.int .u32 (m i : Nat)) := by simp [arr32, h]
theorem arr32_congr {m m' : Nat → Nat} {n : Nat} (h : ∀ i, i < n → m i = m' i) : arr32 m n = arr32 m' n := by
  unfold arr32
  congr 1
  apply List.map_congr_left
  intro i hi
  rw [h i (List.mem_range.1 hi)]
theorem set_arr32 (m : Nat → Nat) (n i x : Nat) : (arr32 m n).setIfInBounds i (.int .u32 (x : Nat)) = arr32 (fun j => if j = i then x else m j) n := by
  apply Array.ext_getElem?
  intro j
  rw [Array.getElem?_setIfInBounds]
  by_cases hj : j < n
  · by_cases hi : i = j
    · subst hi
      rw [if_pos rfl, if_pos (by rw [size_arr32]; exact hj), get_arr32 _ hj, if_pos rfl]
    · rw [if_neg hi, get_arr32 _ hj, get_arr32 _ hj, if_neg (by omega)]
  · have h1 : ∀ f, (arr32 f n)[j]? = none := fun f => by simp [arr32]; omega
    rw [h1, h1]
    by_cases hi : i = j
    · rw [if_pos hi, if_neg (by rw [size_arr32]; omega)]
    · rw [if_neg hi]
theorem one_arr32 (m : Nat → Nat) (n : Nat) : (arr32 m n).all (·.oneCell') = true := by
  rw [Array.all_eq_true]
  intro i hi
  simp [arr32, Value.oneCell']

theorem info33 : (Try.prog.info? 33).map (fun i => (i.zero, i.size)) = some (some (.agg (arr32 (fun _ => 0) 256)), 256) := by kernel_rfl
theorem info48 : (Try.prog.info? 48).map (fun i => (i.zero, i.size)) = some (some (.agg (arr32 (fun _ => 0) 32)), 32) := by kernel_rfl

/-- Block g is a row of numbers of 32 bits. -/
def Row32 (w : World) (g : Nat) (t : TypeId) (m : Nat → Nat) (n : Nat) : Prop := w.heap[g]? = some (.cells (arr32 m n) t (0, 0))
theorem Row32.heap {w : World} {g : Nat} {t : TypeId} {m : Nat → Nat} {n : Nat} (h : Row32 w g t m n) : w.heap[g]? = some (.cells (arr32 m n) t (0, 0)) := h
theorem Row32.lt {w : World} {g : Nat} {t : TypeId} {m : Nat → Nat} {n : Nat} (h : Row32 w g t m n) : g < w.heap.size := by
  rcases Nat.lt_or_ge g w.heap.size with hlt | hge
  · exact hlt
  · unfold Row32 at h; rw [Array.getElem?_eq_none hge] at h; cases h
theorem Row32.cell {w : World} {g : Nat} {t : TypeId} {m : Nat → Nat} {n : Nat} (h : Row32 w g t m n) {i : Nat} (hi : i < n) : w.cell? ⟨g, i, none⟩ = some (.int .u32 (m i : Nat)) := by
  rw [cell_of_row w g i _ t (0, 0) h, get_arr32 m hi]
theorem Row32.frozen {w : World} {g : Nat} {t : TypeId} {m : Nat → Nat} {n : Nat} (h : Row32 w g t m n) (i : Nat) : w.frozen? ⟨g, i, none⟩ = false := frozen_of_row w g i _ t h
theorem Row32.store {w : World} {g : Nat} {t : TypeId} {m : Nat → Nat} {n : Nat} (h : Row32 w g t m n) (i x : Nat) : Row32 (w.setCell ⟨g, i, none⟩ (.int .u32 (x : Nat))) g t (fun j => if j = i then x else m j) n := by
  have := heap_setCell_same w g i _ t (.int .u32 (x : Nat)) h
  unfold Row32
  rw [this, set_arr32]
theorem Row32.below {w w' : World} {g B : Nat} {t : TypeId} {m : Nat → Nat} {n : Nat} (h : Row32 w g t m n) (hb : Below B w w') (hg : g < B) : Row32 w' g t m n := (hb.block g hg).trans h
theorem Row32.other {w : World} {g : Nat} {t : TypeId} {m : Nat → Nat} {n : Nat} (h : Row32 w g t m n) {a : Addr} (u : Value) (hg : g ≠ a.block) : Row32 (w.setCell a u) g t m n := (Below.heap_setCell w a u g hg).trans h
theorem Row32.new (w : World) (t : TypeId) (m : Nat → Nat) (n : Nat) : Row32 (w.alloc (.cells (arr32 m n) t)) w.heap.size t m n := heap_alloc_new _ _
theorem Row32.alloc {w : World} {g : Nat} {t : TypeId} {m : Nat → Nat} {n : Nat} (h : Row32 w g t m n) (o : Obj) : Row32 (w.alloc o) g t m n := (Below.heap_alloc w o g h.lt).trans h

/-- A whole array into a block. -/
theorem Row32.storeAll {w : World} {g : Nat} {t : TypeId} {m : Nat → Nat} {n : Nat} (h : Row32 w g t m n) (m' : Nat → Nat) (hi : (Try.prog.info? t).map (·.size) = some n) :
    (storeCells ⟨g, 0, none⟩ (arr32 m' n).toList 0).run Try.prog w = .ok () (w.setRow g (arr32 m' n)) := by
  have := run_storeVar_row (P := Try.prog) w g t t _ (arr32 m' n) h.heap (by rw [size_arr32]; exact hi) (by rw [size_arr32, size_arr32]) (one_arr32 _ _)
  cases hq : Try.prog.info? t with
  | none => simp [hq] at hi
  | some i =>
    have hs : (arr32 m' n).size = i.size := by rw [size_arr32]; simp [hq] at hi; omega
    simpa [storeVar, sizeOf, typeInfo, hq, Value.cells, hs] using this
theorem Row32.setRow {w : World} {g : Nat} {t : TypeId} {m : Nat → Nat} {n : Nat} (h : Row32 w g t m n) (m' : Nat → Nat) : Row32 (w.setRow g (arr32 m' n)) g t m' n := setRow_heap w g _ _ t _ h
theorem Below.row {B : Nat} {a w : World} (h : Below B a w) {g : Nat} (hg : B ≤ g) (cs : Array Value) : Below B a (w.setRow g cs) :=
  h.trans ⟨rfl, rfl, rfl, by simp, fun k hk => setRow_other w g k cs (by omega)⟩

/-- The table behind k of its 8 rounds; behind a part of one round. -/
def TOut (w : World) (k : Nat) (wr : World) : Prop :=
  Row32 wr w.heap.size 33 (fun _ => 0) 256 ∧ (∃ f : Nat → Nat, Row32 wr (w.heap.size + 1) 33 f 256 ∧ ∀ j, j < 256 → j % (256 / 2 ^ k) = 0 → f j = csteps 8 j) ∧ Below w.heap.size w wr
def TIn (w : World) (b i : Nat) (wr : World) : Prop :=
  Row32 wr w.heap.size 33 (fun _ => 0) 256 ∧ (∃ f : Nat → Nat, Row32 wr (w.heap.size + 1) 33 f 256 ∧ ∀ j, j < 256 → (j % (2 * b) = 0 ∨ (j % b = 0 ∧ j < i)) → f j = csteps 8 j) ∧ Below w.heap.size w wr

theorem tout_in {w wr : World} {k : Nat} (hk : k < 8) (h : TOut w k wr) : TIn w (128 / 2 ^ k) 0 wr := by
  obtain ⟨h0, ⟨f, hf, hv⟩, hb⟩ := h
  refine ⟨h0, ⟨f, hf, fun j hj hc => hv j hj ?_⟩, hb⟩
  rcases hc with hc | hc
  · rcases (show k = 0 ∨ k = 1 ∨ k = 2 ∨ k = 3 ∨ k = 4 ∨ k = 5 ∨ k = 6 ∨ k = 7 from by omega) with rfl | rfl | rfl | rfl | rfl | rfl | rfl | rfl <;> exact hc
  · omega
theorem tin_out {w wr : World} {k i : Nat} (hk : k < 8) (hi : 256 ≤ i) (h : TIn w (128 / 2 ^ k) i wr) : TOut w (k + 1) wr := by
  obtain ⟨h0, ⟨f, hf, hv⟩, hb⟩ := h
  refine ⟨h0, ⟨f, hf, fun j hj hc => hv j hj (Or.inr ⟨?_, by omega⟩)⟩, hb⟩
  rcases (show k = 0 ∨ k = 1 ∨ k = 2 ∨ k = 3 ∨ k = 4 ∨ k = 5 ∨ k = 6 ∨ k = 7 from by omega) with rfl | rfl | rfl | rfl | rfl | rfl | rfl | rfl <;> exact hc
/-- In the round of bit b the next element. -/
theorem tab_elem {k i : Nat} (hk : k < 8) (hi : i % (2 * (128 / 2 ^ k)) = 0) (_hl : i < 256) : csteps 8 i ^^^ csteps (k + 1) 1 = csteps 8 (i + 128 / 2 ^ k) := by
  have e : i + 128 / 2 ^ k = i ^^^ 128 / 2 ^ k := by
    have h := Nat.two_pow_add_eq_or_of_lt (i := 8 - k) (b := 128 / 2 ^ k) (by
      rcases (show k = 0 ∨ k = 1 ∨ k = 2 ∨ k = 3 ∨ k = 4 ∨ k = 5 ∨ k = 6 ∨ k = 7 from by omega) with rfl | rfl | rfl | rfl | rfl | rfl | rfl | rfl <;> decide) (i / 2 ^ (8 - k))
    have hm : 2 ^ (8 - k) * (i / 2 ^ (8 - k)) = i := by
      rcases (show k = 0 ∨ k = 1 ∨ k = 2 ∨ k = 3 ∨ k = 4 ∨ k = 5 ∨ k = 6 ∨ k = 7 from by omega) with rfl | rfl | rfl | rfl | rfl | rfl | rfl | rfl <;> simp at hi ⊢ <;> omega
    rw [hm] at h
    rw [h]
    apply Nat.eq_of_testBit_eq
    intro n
    rw [Nat.testBit_or, Nat.testBit_xor]
    have hi' : i.testBit n = (decide (8 - k ≤ n) && (i / 2 ^ (8 - k)).testBit (n - (8 - k))) := by
      conv => lhs; rw [← hm]
      rw [Nat.testBit_two_pow_mul]
    by_cases hn : 8 - k ≤ n
    · have : (128 / 2 ^ k).testBit n = false := by
        apply Nat.testBit_lt_two_pow
        refine Nat.lt_of_lt_of_le ?_ (Nat.pow_le_pow_right (by decide) hn)
        rcases (show k = 0 ∨ k = 1 ∨ k = 2 ∨ k = 3 ∨ k = 4 ∨ k = 5 ∨ k = 6 ∨ k = 7 from by omega) with rfl | rfl | rfl | rfl | rfl | rfl | rfl | rfl <;> decide
      rw [this]; simp
    · rw [hi']; simp [hn]
  rw [e, csteps_xor]
  congr 1
  rcases (show k = 0 ∨ k = 1 ∨ k = 2 ∨ k = 3 ∨ k = 4 ∨ k = 5 ∨ k = 6 ∨ k = 7 from by omega) with rfl | rfl | rfl | rfl | rfl | rfl | rfl | rfl <;> decide
theorem tab_step {k i : Nat} (hk : k < 8) (hi : i % (2 * (128 / 2 ^ k)) = 0) (hl : i < 256) : i + 2 * (128 / 2 ^ k) ≤ 256 ∧ (i + 2 * (128 / 2 ^ k)) % (2 * (128 / 2 ^ k)) = 0 ∧ 1 ≤ 128 / 2 ^ k ∧ 128 / 2 ^ k ≤ 128 := by
  rcases (show k = 0 ∨ k = 1 ∨ k = 2 ∨ k = 3 ∨ k = 4 ∨ k = 5 ∨ k = 6 ∨ k = 7 from by omega) with rfl | rfl | rfl | rfl | rfl | rfl | rfl | rfl <;> simp at hi ⊢ <;> omega
theorem tab_pos {k i j : Nat} (hk : k < 8) (hi : i % (2 * (128 / 2 ^ k)) = 0) (h : j % (128 / 2 ^ k) = 0) (hj : j < i + 2 * (128 / 2 ^ k)) (hn : j ≠ i + 128 / 2 ^ k) : j ≤ i := by
  rcases (show k = 0 ∨ k = 1 ∨ k = 2 ∨ k = 3 ∨ k = 4 ∨ k = 5 ∨ k = 6 ∨ k = 7 from by omega) with rfl | rfl | rfl | rfl | rfl | rfl | rfl | rfl <;> simp at * <;> omega
theorem tin_step {w wr : World} {k i : Nat} (hk : k < 8) (hi : i % (2 * (128 / 2 ^ k)) = 0) (hl : i < 256) (h0 : Row32 wr w.heap.size 33 (fun _ => 0) 256) (f : Nat → Nat) (hf : Row32 wr (w.heap.size + 1) 33 f 256)
    (hv : ∀ j, j < 256 → (j % (2 * (128 / 2 ^ k)) = 0 ∨ (j % (128 / 2 ^ k) = 0 ∧ j < i)) → f j = csteps 8 j) (hb : Below w.heap.size w wr) :
    TIn w (128 / 2 ^ k) (i + 2 * (128 / 2 ^ k)) (wr.setCell ⟨w.heap.size + 1, i + 128 / 2 ^ k, none⟩ (.int .u32 (f i ^^^ csteps (k + 1) 1 : Nat))) := by
  refine ⟨h0.other _ (by simp), ⟨_, hf.store _ _, fun j hj hc => ?_⟩, hb.setCell (by simp) _⟩
  show (if j = i + 128 / 2 ^ k then f i ^^^ csteps (k + 1) 1 else f j) = csteps 8 j
  by_cases hn : j = i + 128 / 2 ^ k
  · rw [if_pos hn, hv i hl (Or.inl hi), tab_elem hk hi hl, hn]
  · rw [if_neg hn]
    rcases hc with hc | ⟨h1, h2⟩
    · exact hv j hj (Or.inl hc)
    · have := tab_pos hk hi h1 h2 hn
      rcases Nat.lt_or_ge j i with hlt | hge
      · exact hv j hj (Or.inr ⟨h1, hlt⟩)
      · obtain rfl : j = i := by omega
        exact hv j hj (Or.inl hi)

set_option maxRecDepth 100000 in
set_option maxHeartbeats 400000 in
theorem table_any (w : World) : Calls Try.prog 21 #[] w fun e w' => e = .returned (.agg (arr32 (csteps 8) 256)) ∧ Below w.heap.size w w' := by
  obtain ⟨hz, hs⟩ := zero_of_info info33
  go_enter Try.func21, Try.ntmps21
  go_wp2_with fail
  clear hz
  go_loopw [2, 3] (fun x b wr => ∃ k : Nat, k ≤ 8 ∧ x = .int .u32 (csteps k 1 : Nat) ∧ b = .int .i64 (128 / 2 ^ k : Nat) ∧ TOut w k wr) (fun _ b _ => (intOf b).toNat)
  case atStart =>
    refine ⟨0, by omega, rfl, rfl, (Row32.new _ _ _ _).alloc _, ⟨fun _ => 0, ?_, ?_⟩, ((Below.refl _ _).alloc (Nat.le_refl _) _).alloc (by simp) _⟩
    · have := Row32.new (w.alloc (.cells (arr32 (fun _ => 0) 256) 33)) 33 (fun _ => 0) 256
      simpa using this
    · intro j hj h
      obtain rfl : j = 0 := by simp at h; omega
      rfl
  case round =>
    obtain ⟨k, hk, rfl, rfl, hT⟩ := hrel
    have hxl := csteps_lt k (show 1 < 4294967296 from by decide)
    by_cases hk8 : k < 8
    · have hTi := Lib.hid (tout_in hk8 hT)
      clear hT
      have hb1 : 1 ≤ 128 / 2 ^ k ∧ 128 / 2 ^ k ≤ 128 := (tab_step (i := 0) hk8 (by simp) (by decide)).2.2
      have hbe := Lib.hid (show (128 / 2 ^ k) / 2 = 128 / 2 ^ (k + 1) from by rw [Nat.div_div_eq_div_mul, Nat.pow_succ])
      obtain ⟨B, hB⟩ : ∃ B, B = 128 / 2 ^ k := ⟨_, rfl⟩
      rw [← hB] at hTi hb1 hbe ⊢
      have hBh := Lib.hid hB
      clear hB
      go_wp2_with (go_at_call 25; refine (step_any _ hxl _).mono ?_; rintro e w' ⟨rfl, rfl⟩)
      go_wp2_with fail
      rw [← csteps_snoc]
      go_loopw [4] (fun i wr => ∃ i' : Nat, i' ≤ 256 ∧ i = .int .i64 i' ∧ i' % (2 * B) = 0 ∧ TIn w B i' wr) (fun i _ => 256 - (intOf i).toNat)
      case atStart => exact ⟨0, by omega, rfl, by simp, hTi.out⟩
      case round =>
        obtain ⟨i, hi, rfl, him, h0, ⟨f, hf, hv⟩, hbl⟩ := hrel
        have g0 := Lib.hid h0
        clear h0
        by_cases hlt : i < 256
        · have hBe := hBh.out
          have hst := tab_step hk8 (by rw [← hBe]; exact him) hlt
          rw [← hBe] at hst
          clear hBe
          have hfi := hv i hlt (Or.inl him)
          have hfl : f i < 4294967296 := by rw [hfi]; exact csteps_lt 8 (by omega)
          have hxx := u32_xor_nat (f i) (csteps (k + 1) 1) hfl (csteps_lt _ (by decide))
          have hc := hf.cell hlt
          have hc2 := hf.cell (show i + B < 256 from by omega)
          have hfz := hf.frozen (i + B)
          have gf := Lib.hid hf
          have gv := Lib.hid hv
          clear hf hv
          clear hfi
          go_wp2_with fail
          refine ⟨⟨i + 2 * B, hst.1, by simp, hst.2.1, ?_⟩, by simp [intOf]; omega⟩
          have hBe := hBh.out
          subst hBe
          exact tin_step hk8 him hlt g0.out f gf.out gv.out hbl
        · have hi6 : i = 256 := by omega
          have hTo : TOut w (k + 1) wr := by
            have hBe := hBh.out
            subst hBe
            exact tin_out hk8 (by omega) ⟨g0.out, ⟨f, hf, hv⟩, hbl⟩
          have gTo := Lib.hid hTo
          clear hTo hf hv
          subst hi6
          go_wp2_with fail
          refine ⟨⟨k + 1, by omega, rfl, ?_, gTo.out⟩, by simp [intOf]; omega⟩
          rw [← hbe.out]; simp
    · obtain rfl : k = 8 := by omega
      obtain ⟨h0, ⟨f, hf, hv⟩, hbl⟩ := hT
      have ef : arr32 f 256 = arr32 (csteps 8) 256 := arr32_congr fun j hj => hv j hj (by simp; omega)
      have g0 := Lib.hid h0
      have gf : RowKit.Hid (wr.heap[w.heap.size + 1]? = some (.cells (arr32 (csteps 8) 256) 33 (0, 0))) := by
        have := hf.heap; rw [ef] at this; exact this
      clear h0 hf hv ef
      have hst := g0.out.storeAll (csteps 8) hs
      go_wp2_with (refine wpList_load_row rfl 33 _ rfl (w.heap.size + 1) rfl 33 _ (0, 0) _ gf.out Try.underlying33 rfl (by rw [size_arr32]; exact hs) ?_)
      refine bodyPost_ret (v := .agg (arr32 (csteps 8) 256)) ?_ rfl ⟨rfl, Below.row hbl (Nat.le_refl _) _⟩
      exact results_cell_row rfl _ _ w.heap.size 33 _ (0, 0) _ rfl (g0.out.setRow _).heap Try.underlying33 rfl (by rw [size_arr32]; exact hs)
end Go.Proofs.Ytcaodblmdaifjaa
