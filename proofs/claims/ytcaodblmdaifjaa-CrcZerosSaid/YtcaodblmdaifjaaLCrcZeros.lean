/- The walk of CrcZeros: zeros at the end. -/
import Derived.Test.YtcaodblmdaifjaaFrame
import Derived.Test.YtcaodblmdaifjaaApp
import Derived.Test.YtcaodblmdaifjaaLCrcShifts
namespace Go.Proofs.Ytcaodblmdaifjaa
open Go.RowKit

theorem IsRow.none_len {k : IntKind} {w : World} {a : Option Addr} {len cap : Nat} {zs : List Int} (h : IsRow k w a len cap zs) : a = none → len = 0 ∧ cap = 0 := by
  rintro rfl
  rcases h with ⟨_, h1, h2, _⟩ | ⟨x, h, _⟩
  · exact ⟨h1, h2⟩
  · cases h

theorem combine_nat (a b n : Nat) (ha : a < 4294967296) (hb : b < 4294967296) (hn : n < 9223372036854775808) (w : World) :
    Calls Try.prog 19 #[.int .u32 a, .int .u32 b, .int .i64 n] w fun e w' => e = .returned (.tuple #[.int .u32 (cshift n a ^^^ b : Nat), .int .i64 0]) ∧ Below w.heap.size w w' := by
  have := combine_pos a b n ha hb ⟨by omega, by omega⟩ w
  simpa using this
theorem csum_lt {l : List Nat} (h : ∀ z ∈ l, z < 256) : csum l < 4294967296 := cupd_lt (by decide) h

set_option maxRecDepth 100000 in
set_option maxHeartbeats 2000000 in
theorem crcZeros_walk (a0 : Option Addr) (len0 cap0 : Nat) (z0 : List Int) (a1 : Int) (w : World) (w0 : IsRow .u8 w a0 len0 cap0 z0) (w1 : (Lit.int .u16 a1).wf = true) :
    Calls Try.prog 11 #[.slice a0 len0 cap0, .int .u16 a1] w fun e w' => e = .returned (.bool true) ∧ Below w.heap.size w w' := by
  have hn := w0.len
  have hnil := Lib.hid w0.none_len
  have gb := Lib.hid w0.bn
  have hb1 := bounds_u16 w1
  obtain ⟨m, rfl⟩ := Int.eq_ofNat_of_zero_le (show 0 ≤ a1 by omega)
  clear w0 w1
  by_cases hl : 300 < len0
  · go_enter Try.func11, Try.ntmps11
    go_wp2_with (go_at_call 13; refine (works_any _).mono ?_; rintro e wo ⟨rfl, hBo⟩)
    go_ret
    exact ⟨rfl, hBo⟩
  · generalize nums len0 z0 = l at gb
    obtain ⟨k, hk⟩ : ∃ k, k = m % 2001 := ⟨_, rfl⟩
    have hk1 : k < 2001 := by rw [hk]; exact Nat.mod_lt _ (by decide)
    have hkm : (m : Int) % 2001 = (k : Int) := by rw [hk]; omega
    clear hk
    have hmk := make_bytes k (by omega)
    have hlz := gb.out.1
    have hcl := Lib.hid (csum_parts l (List.replicate k 0))
    go_enter Try.func11, Try.ntmps11
    go_wp2_with fail
    rw [hkm]
    have gb1 := Lib.hid (gb.out.below (below_alloc w (.cells (byteZeros k) 5)))
    refine (sum_any _ _ _ _ _ gb1.out (by omega)).mono ?_
    rintro e wA ⟨rfl, hA⟩
    have hbA := Lib.hid (bchain (below_alloc w (.cells (byteZeros k) 5)) hA)
    have gz := Lib.hid ((zeros_bn w k).below hA)
    have hzl : ∀ z ∈ List.replicate k 0, z < 256 := by simp
    have gzl := Lib.hid hzl
    clear hzl hA
    go_wp2_with fail
    refine (sum_any _ _ _ _ _ gz.out (by omega)).mono ?_
    rintro e wB ⟨rfl, hB⟩
    have hbB := Lib.hid (bchain hbA.out hB)
    have gz2 := Lib.hid (gz.out.below hB)
    clear hB
    go_wp2_with fail
    refine (combine_nat _ _ k (csum_lt gb.out.2.1) (csum_lt gzl.out) (by omega) _).mono ?_
    rintro e wC ⟨rfl, hC⟩
    have hbC := Lib.hid (bchain hbB.out hC)
    have gz3 := Lib.hid (gz2.out.below hC)
    have gb3 := Lib.hid (gb.out.below hbC.out)
    clear hC
    have e1 : cshift k (csum l) ^^^ csum (List.replicate k 0) = csum (l ++ List.replicate k 0) := by rw [hcl.out, List.length_replicate]
    rw [e1]
    clear e1
    have hown0 : (wC.alloc (.cells #[] 5)).ownsRow wC.heap.size 5 1 (.slice (some ⟨wC.heap.size, 0, none⟩) 0 0) 0 [] := World.ownsRow_lit wC #[] 0 (Nat.le_refl _) (by unfold maxLen; omega) (by simp)
    have hb0 := gb3.out.below (below_alloc wC (.cells #[] 5))
    go_wp2_with (first
      | (at_builtin
         refine app_bytes _ rfl (.tmp 31) (.tmp 32) rfl wC.heap.size (.slice (some ⟨wC.heap.size, 0, none⟩) 0 0) 0 [] rfl hown0 a0 len0 cap0 l rfl hb0 hnil.out (by omega) (below_alloc wC (.cells #[] 5)).size ?_
         intro v1 w1 hown1 hg1
         have hB1 := Lib.hid ((below_alloc wC (.cells #[] 5)).grown hg1 (by simp) (by simp [Value.ownBlock]))
         have gz4 := gz3.out.below hB1.out
         clear hown0 hb0 hg1)
      | (at_builtin
         refine app_bytes _ rfl (.tmp 33) (.tmp 34) rfl wC.heap.size v1 (0 + len0) ([] ++ bv l) rfl hown1 _ k k (List.replicate k 0) rfl gz4 (fun h => by cases h) (by omega) hB1.out.size ?_
         intro v2 w2 hown2 hg2
         have hB2 := Lib.hid (hB1.out.grown hg2 hB1.out.size (fun q hq => (hown1.lt q hq).1))
         have hown3 : w2.ownsRow wC.heap.size 5 1 v2 (len0 + k) (bv (l ++ List.replicate k 0)) := by rw [bv_append]; simpa using hown2
         obtain ⟨A2, c2, rfl, _, hb2⟩ := own_bn hown3 (fun z hz => by rcases List.mem_append.1 hz with h | h; exact gb.out.2.1 z h; exact gzl.out z h)
         have gb2 := Lib.hid hb2
         clear hown1 hown2 hown3 hg2 hb2 gz4))
    refine (sum_any _ _ _ _ _ gb2.out (by omega)).mono ?_
    rintro e wD ⟨rfl, hD⟩
    have hbD := Lib.hid (bchain (bchain hbC.out hB2.out) hD)
    clear hD
    go_wp2_with fail
    refine (works_any _).mono ?_
    rintro e wE ⟨rfl, hE⟩
    go_wp2_with fail
    go_ret
    exact ⟨rfl, bchain hbD.out hE⟩
end Go.Proofs.Ytcaodblmdaifjaa
