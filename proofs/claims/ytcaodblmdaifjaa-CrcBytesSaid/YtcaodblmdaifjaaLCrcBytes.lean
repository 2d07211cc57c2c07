/- The walk of CrcBytes: the table leads on by a byte. -/
import Derived.Test.YtcaodblmdaifjaaFrame
import Derived.Test.YtcaodblmdaifjaaWorks
namespace Go.Proofs.Ytcaodblmdaifjaa
open Go.RowKit

theorem take_getD (l : List Nat) {i : Nat} (h : i < l.length) : l.take (i + 1) = l.take i ++ [l.getD i 0] := by
  rw [List.take_add_one, List.getElem?_eq_getElem h, List.getD_eq_getElem?_getD, List.getElem?_eq_getElem h]
  rfl
theorem cupd_take (s : Nat) (l : List Nat) {i : Nat} (h : i < l.length) : cupd s (l.take (i + 1)) = cupd (cupd s (l.take i)) [l.getD i 0] := by
  rw [take_getD l h, cupd_append]
theorem cupd_one (y c : Nat) : cupd y [c] = cfeed (y ^^^ 4294967295) c ^^^ 4294967295 := by simp only [cupd, cfeeds, List.foldl]

set_option maxRecDepth 100000 in
set_option maxHeartbeats 2000000 in
theorem crcBytes_walk (a0 : Int) (a1 : Option Addr) (len1 cap1 : Nat) (z1 : List Int) (w : World) (w0 : (Lit.int .u32 a0).wf = true) (w1 : IsRow .u8 w a1 len1 cap1 z1) :
    Calls Try.prog 12 #[.int .u32 a0, .slice a1 len1 cap1] w fun e w' => e = .returned (.bool true) ∧ Below w.heap.size w w' := by
  obtain ⟨s, rfl, hs0⟩ := nat_of_u32 w0
  have hn := w1.len
  have gb := Lib.hid w1.bn
  clear w0 w1
  by_cases hl : 300 < len1
  · go_enter Try.func12, Try.ntmps12
    go_wp2_with (go_at_call 13; refine (works_any _).mono ?_; rintro e wo ⟨rfl, hBo⟩)
    go_ret
    exact ⟨rfl, hBo⟩
  · obtain ⟨hz, hs⟩ := zero_of_info info33
    generalize nums len1 z1 = l at gb
    go_enter Try.func12, Try.ntmps12
    go_wp2_with fail
    refine (table_any _).mono ?_
    rintro e wE ⟨rfl, hE⟩
    have hst := store_new33 hs wE (fun _ => 0) (csteps 8)
    go_wp2_with fail
    clear hz hst
    go_loopw [0, 6] (fun y i wr => ∃ j : Nat, j ≤ len1 ∧ i = .int .i64 j ∧ y = .int .u32 (cupd s (l.take j) : Nat) ∧ Row32 wr wE.heap.size 33 (csteps 8) 256 ∧ Below w.heap.size w wr) (fun _ i _ => len1 - (intOf i).toNat)
    case atStart => exact ⟨0, by omega, rfl, by rw [List.take_zero, cupd_nil], Row32.new _ _ _ _, hE.alloc hE.size _⟩
    case round =>
      obtain ⟨j, hj, rfl, rfl, hR, hbl⟩ := hrel
      have hin := Lib.hid (cupd_lt hs0 (take_lt gb.out.2.1 j))
      obtain ⟨y, hY⟩ : ∃ y, y = cupd s (l.take j) := ⟨_, rfl⟩
      rw [← hY] at hin ⊢
      have gY := Lib.hid hY
      have gR := Lib.hid hR
      clear hY hR
      by_cases hlt : j < len1
      · have hc0 := getD_lt gb.out.2.1 j
        obtain ⟨b, o, hA, hcl⟩ := gb.out.2.2 (by omega)
        subst hA
        have hc1 := (hbl.cell (lt_of_cell (hcl j hlt))).trans (hcl j hlt)
        clear hcl
        obtain ⟨cb, hcb⟩ : ∃ cb, cb = l.getD j 0 := ⟨_, rfl⟩
        rw [← hcb] at hc0 hc1
        have gcb := Lib.hid hcb
        clear hcb
        obtain ⟨x, hX⟩ : ∃ x, x = y ^^^ 4294967295 := ⟨_, rfl⟩
        have hxl : x < 4294967296 := by rw [hX]; exact inv_lt hin.out
        have hx1 : bits .xor .u32 (y : Int) 4294967295 = (x : Int) := by rw [hX]; exact u32_xor_nat y 4294967295 hin.out (by decide)
        obtain ⟨q, hq⟩ : ∃ q, q = (x ^^^ cb) % 256 := ⟨_, rfl⟩
        have hq1 : q < 256 := by rw [hq]; exact Nat.mod_lt _ (by decide)
        have hpl := place_u8 (x := x) hc0
        rw [← hq] at hpl
        have hct := gR.out.cell hq1
        have hxx := u32_xor_nat (csteps 8 q) (x / 256) (csteps_lt 8 (by omega)) (by omega)
        have hfe : csteps 8 q ^^^ x / 256 = cfeed x cb := by rw [cfeed_table hc0, hq]
        rw [hfe] at hxx
        have hxx2 : bits .xor .u32 (csteps 8 q : Nat) ((x : Int) / 256) = ((cfeed x cb : Nat) : Int) := hxx
        obtain ⟨v, hV⟩ : ∃ v, v = cupd y [cb] := ⟨_, rfl⟩
        have hx3 : bits .xor .u32 (cfeed x cb : Nat) 4294967295 = (v : Int) := by
          rw [hV, cupd_one, ← hX]; exact u32_xor_nat _ 4294967295 (cfeed_lt hxl hc0) (by decide)
        have hone : BN wr (some ⟨b, o + j, none⟩) 1 [cb] := ⟨rfl, by simpa using hc0, fun _ => ⟨b, o + j, rfl, fun i hi => by
          obtain rfl : i = 0 := by omega
          exact hc1⟩⟩
        have gone := Lib.hid hone
        have gq := Lib.hid hq
        have gV := Lib.hid hV
        clear hq hxx hfe hone hX hV
        go_wp2_with fail
        refine (update_any y hin.out _ 1 (cap1 - j) [cb] _ gone.out (by omega)).mono ?_
        rintro e wU ⟨rfl, hU⟩
        rw [← gV.out]
        go_wp2_with fail
        refine ⟨⟨j + 1, by omega, rfl, ?_, gR.out.below hU gR.out.lt, bchain hbl hU⟩, by simp [intOf]; omega⟩
        rw [cupd_take _ _ (by rw [gb.out.1]; exact hlt), ← gY.out, ← gcb.out, gV.out]
      · obtain rfl : j = len1 := by omega
        go_wp2_with (go_at_call 13; refine (works_any _).mono ?_; rintro e wo ⟨rfl, hBo⟩)
        go_ret
        exact ⟨rfl, bchain hbl hBo⟩
end Go.Proofs.Ytcaodblmdaifjaa
