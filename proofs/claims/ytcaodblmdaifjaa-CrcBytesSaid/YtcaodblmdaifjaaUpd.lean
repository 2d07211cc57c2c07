/- Feeding a slice of bytes: Update, Sum, Valid; the reference's Update and Sum. -/
import Derived.Test.YtcaodblmdaifjaaTab
namespace Go.Proofs.Ytcaodblmdaifjaa
open Go.RowKit

theorem lt_of_cell {w : World} {b o : Nat} {v : Value} (h : w.cell? ⟨b, o, none⟩ = some v) : b < w.heap.size := by
  rcases Nat.lt_or_ge b w.heap.size with hlt | hge
  · exact hlt
  · simp [World.cell?, Array.getElem?_eq_none hge] at h

/-- The bytes of a slice: its n numbers are l. -/
def BN (w : World) (A : Option Addr) (n : Nat) (l : List Nat) : Prop :=
  l.length = n ∧ (∀ z ∈ l, z < 256) ∧ (0 < n → ∃ b o, A = some ⟨b, o, none⟩ ∧ ∀ i, i < n → w.cell? ⟨b, o + i, none⟩ = some (.int .u8 (l.getD i 0 : Nat)))
theorem BN.below {w w' : World} {A : Option Addr} {n : Nat} {l : List Nat} (h : BN w A n l) (hb : Below w.heap.size w w') : BN w' A n l := by
  refine ⟨h.1, h.2.1, fun hn => ?_⟩
  obtain ⟨b, o, rfl, hc⟩ := h.2.2 hn
  exact ⟨b, o, rfl, fun i hi => (hb.cell (lt_of_cell (hc i hi))).trans (hc i hi)⟩
theorem BN.nil (w : World) (A : Option Addr) : BN w A 0 [] := ⟨rfl, (fun _ h => by cases h), fun h => absurd h (by omega)⟩

/-- In the middle of a list of bytes. -/
theorem cfeeds_take (x : Nat) (l : List Nat) {i : Nat} (h : i < l.length) : cfeeds x (l.take (i + 1)) = cfeed (cfeeds x (l.take i)) (l.getD i 0) := by
  rw [List.take_add_one, List.getElem?_eq_getElem h, List.getD_eq_getElem?_getD, List.getElem?_eq_getElem h]
  exact cfeeds_snoc _ _ _
theorem take_lt {l : List Nat} (h : ∀ z ∈ l, z < 256) (i : Nat) : ∀ z ∈ l.take i, z < 256 := fun z hz => h z (List.mem_of_mem_take hz)
theorem getD_lt {l : List Nat} (h : ∀ z ∈ l, z < 256) (i : Nat) : l.getD i 0 < 256 := by
  rw [List.getD_eq_getElem?_getD]
  rcases Nat.lt_or_ge i l.length with hi | hi
  · rw [List.getElem?_eq_getElem hi]; exact h _ (List.getElem_mem hi)
  · rw [List.getElem?_eq_none hi]; decide

theorem not_u32 {x : Nat} (hx : x < 4294967296) : bits .xor .u32 IntKind.u32.max (x : Int) = ((x ^^^ 4294967295 : Nat) : Int) := by
  have e : IntKind.u32.max = ((4294967295 : Nat) : Int) := by kernel_rfl
  rw [e, u32_xor_nat _ _ (by decide) hx, Nat.xor_comm]
theorem inv_lt {x : Nat} (hx : x < 4294967296) : x ^^^ 4294967295 < 4294967296 := Nat.xor_lt_two_pow (n := 32) hx (by decide)
/-- The place in the table. -/
theorem place_u8 {x b : Nat} (hb : b < 256) : bits .xor .u8 ((x : Int) % 256) (b : Int) = (((x ^^^ b) % 256 : Nat) : Int) := by
  have h := u8_xor_nat (x % 256) b (Nat.mod_lt _ (by decide)) hb
  have e : (x ^^^ b) % 256 = x % 256 ^^^ b := by
    have := Nat.xor_mod_two_pow (a := x) (b := b) (n := 8)
    rw [show (256 : Nat) = 2 ^ 8 from rfl, this]
    congr 1
    exact Nat.mod_eq_of_lt hb
  rw [e, ← h]
  simp
theorem store_new33 (hs : (Try.prog.info? 33).map (·.size) = some 256) (w : World) (m m' : Nat → Nat) : (storeCells ⟨w.heap.size, 0, none⟩ (arr32 m' 256).toList 0).run Try.prog (w.alloc (.cells (arr32 m 256) 33)) = .ok () (w.alloc (.cells (arr32 m' 256) 33)) :=
  run_storeCells_new w 33 _ _ (by rw [size_arr32]; exact hs) (by rw [size_arr32, size_arr32]) (one_arr32 _ _)

set_option maxRecDepth 100000 in
set_option maxHeartbeats 400000 in
theorem update_any (s : Nat) (hx : s < 4294967296) (A : Option Addr) (n c : Nat) (l : List Nat) (w : World) (hb : BN w A n l) (hn : n ≤ 9223372036854775807) :
    Calls Try.prog 17 #[.int .u32 s, .slice A n c] w fun e w' => e = .returned (.int .u32 (cupd s l : Nat)) ∧ Below w.heap.size w w' := by
  obtain ⟨hz, hs⟩ := zero_of_info info33
  have gb := Lib.hid hb
  have hnot := not_u32 hx
  clear hb
  go_enter Try.func17, Try.ntmps17
  go_wp2_with (go_at_call 21; refine (table_any _).mono ?_; rintro e wo ⟨rfl, hBo⟩; have hst := store_new33 hs wo (fun _ => 0) (csteps 8))
  clear hz hst
  go_loopw [6, 14] (fun x i wr => ∃ j : Nat, j ≤ n ∧ i = .int .i64 j ∧ x = .int .u32 (cfeeds (s ^^^ 4294967295) (l.take j) : Nat) ∧ Row32 wr wo.heap.size 33 (csteps 8) 256 ∧ Below w.heap.size w wr) (fun _ i _ => n - (intOf i).toNat)
  case atStart => exact ⟨0, by omega, rfl, rfl, Row32.new _ _ _ _, hBo.alloc hBo.size _⟩
  case round =>
    obtain ⟨j, hj, rfl, rfl, hR, hbl⟩ := hrel
    have hin := Lib.hid (cfeeds_lt (inv_lt hx) (take_lt gb.out.2.1 j))
    obtain ⟨x, hX⟩ : ∃ x, x = cfeeds (s ^^^ 4294967295) (l.take j) := ⟨_, rfl⟩
    rw [← hX] at hin ⊢
    have gX := Lib.hid hX
    have gR := Lib.hid hR
    clear hX hR
    by_cases hlt : j < n
    · have hc0 := getD_lt gb.out.2.1 j
      obtain ⟨b, o, hA, hcl⟩ := gb.out.2.2 (by omega)
      subst hA
      have hc1 := (hbl.cell (lt_of_cell (hcl j hlt))).trans (hcl j hlt)
      clear hcl
      obtain ⟨cb, hcb⟩ : ∃ cb, cb = l.getD j 0 := ⟨_, rfl⟩
      rw [← hcb] at hc0 hc1
      have gcb := Lib.hid hcb
      clear hcb
      obtain ⟨q, hq⟩ : ∃ q, q = (x ^^^ cb) % 256 := ⟨_, rfl⟩
      have hq1 : q < 256 := by rw [hq]; exact Nat.mod_lt _ (by decide)
      have hpl := place_u8 (x := x) hc0
      rw [← hq] at hpl
      have hct := gR.out.cell hq1
      have hxx := u32_xor_nat (csteps 8 q) (x / 256) (csteps_lt 8 (by omega)) (by have := hin.out; omega)
      have hfe : csteps 8 q ^^^ x / 256 = cfeed x cb := by rw [cfeed_table hc0, hq]
      rw [hfe] at hxx
      have hxx2 : bits .xor .u32 (csteps 8 q : Nat) ((x : Int) / 256) = ((cfeed x cb : Nat) : Int) := hxx
      have gq := Lib.hid hq
      clear hq hxx hfe
      go_wp2_with fail
      refine ⟨⟨j + 1, by omega, rfl, ?_, gR.out, hbl⟩, by simp [intOf]; omega⟩
      rw [cfeeds_take _ _ (by rw [gb.out.1]; exact hlt), ← gX.out, ← gcb.out]
    · obtain rfl : j = n := by omega
      have hnx := not_u32 hin.out
      go_wp2_with fail
      go_ret
      refine ⟨?_, hbl⟩
      have e : cupd s l = x ^^^ 4294967295 := by
        unfold cupd
        rw [gX.out, List.take_of_length_le (by rw [gb.out.1]; exact Nat.le_refl _)]
      rw [e]; rfl

set_option maxHeartbeats 400000 in
theorem sum_any (A : Option Addr) (n c : Nat) (l : List Nat) (w : World) (hb : BN w A n l) (hn : n ≤ 9223372036854775807) :
    Calls Try.prog 15 #[.slice A n c] w fun e w' => e = .returned (.int .u32 (csum l : Nat)) ∧ Below w.heap.size w w' := by
  go_enter Try.func15, Try.ntmps15
  go_wp2_with (go_at_call 17; refine (update_any 0 (by decide) A n c l _ hb hn).mono ?_; rintro e wo ⟨rfl, hBo⟩)
  go_ret
  exact ⟨rfl, hBo⟩

theorem beq_nat (a b : Nat) : ((a : Int) == (b : Int)) = (a == b) := by
  rw [Bool.eq_iff_iff]; simp; omega
theorem cupd_lt' {s : Nat} (hs : s < 4294967296) {w : World} {A : Option Addr} {n : Nat} {l : List Nat} (hb : BN w A n l) : cupd s l < 4294967296 := cupd_lt hs hb.2.1

set_option maxHeartbeats 400000 in
theorem valid_any (A : Option Addr) (n c : Nat) (l : List Nat) (y : Nat) (w : World) (hb : BN w A n l) (hn : n ≤ 9223372036854775807) :
    Calls Try.prog 16 #[.slice A n c, .int .u32 y] w fun e w' => e = .returned (.bool (csum l == y)) ∧ Below w.heap.size w w' := by
  go_enter Try.func16, Try.ntmps16
  go_wp2_with (go_at_call 15; refine (sum_any A n c l _ hb hn).mono ?_; rintro e wo ⟨rfl, hBo⟩)
  go_ret
  refine ⟨?_, hBo⟩
  show Ending.returned (.bool (((csum l : Nat) : Int) == (y : Int))) = _
  rw [beq_nat]

set_option maxRecDepth 100000 in
set_option maxHeartbeats 400000 in
theorem rupdate_any (s : Nat) (hx : s < 4294967296) (A : Option Addr) (n c : Nat) (l : List Nat) (w : World) (hb : BN w A n l) (hn : n ≤ 9223372036854775807) :
    Calls Try.prog 18 #[.int .u32 s, .slice A n c] w fun e w' => e = .returned (.int .u32 (cupd s l : Nat)) ∧ w = w' := by
  have hnot : bits .xor .u32 (s : Int) 4294967295 = ((s ^^^ 4294967295 : Nat) : Int) := u32_xor_nat s 4294967295 hx (by decide)
  have gb := Lib.hid hb
  clear hb
  go_enter Try.func18, Try.ntmps18
  go_wp2_with fail
  go_loop [5, 6] (fun x i => ∃ j : Nat, j ≤ n ∧ i = .int .i64 j ∧ x = .int .u32 (cfeeds (s ^^^ 4294967295) (l.take j) : Nat)) (fun _ i => n - (intOf i).toNat)
  case atStart => exact ⟨0, by omega, rfl, rfl⟩
  case round =>
    obtain ⟨j, hj, rfl, rfl⟩ := hrel
    have hin := Lib.hid (cfeeds_lt (inv_lt hx) (take_lt gb.out.2.1 j))
    obtain ⟨x, hX⟩ : ∃ x, x = cfeeds (s ^^^ 4294967295) (l.take j) := ⟨_, rfl⟩
    rw [← hX] at hin ⊢
    have gX := Lib.hid hX
    clear hX
    by_cases hlt : j < n
    · have hc0 := getD_lt gb.out.2.1 j
      obtain ⟨b, o, hA, hcl⟩ := gb.out.2.2 (by omega)
      subst hA
      have hc1 := hcl j hlt
      clear hcl
      obtain ⟨cb, hcb⟩ : ∃ cb, cb = l.getD j 0 := ⟨_, rfl⟩
      rw [← hcb] at hc0 hc1
      have gcb := Lib.hid hcb
      clear hcb
      go_wp2_with (go_at_call 22; refine (feed_any x cb hin.out hc0 _).mono ?_; rintro e wo ⟨rfl, rfl⟩)
      refine ⟨⟨j + 1, by omega, rfl, ?_⟩, by simp [intOf]; omega⟩
      rw [cfeeds_take _ _ (by rw [gb.out.1]; exact hlt), ← gX.out, ← gcb.out]
    · obtain rfl : j = n := by omega
      have hnx : bits .xor .u32 (x : Int) 4294967295 = ((x ^^^ 4294967295 : Nat) : Int) := u32_xor_nat x 4294967295 hin.out (by decide)
      go_wp2_with fail
      go_ret
      refine ⟨?_, rfl⟩
      have e : cupd s l = x ^^^ 4294967295 := by
        unfold cupd
        rw [gX.out, List.take_of_length_le (by rw [gb.out.1]; exact Nat.le_refl _)]
      rw [e]; rfl

set_option maxHeartbeats 400000 in
theorem rsum_any (A : Option Addr) (n c : Nat) (l : List Nat) (w : World) (hb : BN w A n l) (hn : n ≤ 9223372036854775807) :
    Calls Try.prog 14 #[.slice A n c] w fun e w' => e = .returned (.int .u32 (csum l : Nat)) ∧ w = w' := by
  go_enter Try.func14, Try.ntmps14
  go_wp2_with (go_at_call 18; refine (rupdate_any 0 (by decide) A n c l _ hb hn).mono ?_; rintro e wo ⟨rfl, rfl⟩)
  go_ret
  exact ⟨rfl, rfl⟩
end Go.Proofs.Ytcaodblmdaifjaa
