/- The walk of CrcChanges: changes within 32 bits are detected. -/
import Derived.Test.YtcaodblmdaifjaaOwn
import Derived.Test.YtcaodblmdaifjaaMat
namespace Go.Proofs.Ytcaodblmdaifjaa
open Go.RowKit

theorem own_b {w : World} {B n : Nat} {v : Value} {l : List Nat} (h : w.ownsRow B 5 1 v n (bv l)) (hb : ∀ z ∈ l, z < 256) (hp : 0 < n) : ∃ G c, v = .slice (some ⟨G, 0, none⟩) n c ∧ B ≤ G ∧ n ≤ c ∧ c ≤ maxLen ∧ OwnB w G n l := by
  have hl : l.length = n := by have := h.1; rw [length_bv] at this; omega
  rcases h.2 with ⟨_, h0⟩ | ⟨G, c, cur, hv, hG, _, hc, hm, _⟩
  · omega
  · refine ⟨G, c, hv, hG, hc, hm, hl, hb, fun i hi => ⟨?_, ?_⟩⟩
    · rw [hv] at h
      have := h.cells (g := G) rfl i (.int .u8 (l.getD i 0 : Nat)) (by unfold bv; rw [List.getElem?_map, List.getElem?_eq_getElem (by omega)]; simp [show i < l.length from by omega])
      have e : (⟨G, 0, none⟩ : Addr).add i = ⟨G, 0 + i, none⟩ := by unfold Addr.add; split <;> simp_all
      rw [e, Nat.zero_add] at this
      exact this
    · rw [hv] at h
      exact h.frozenAt i

/-- The bits that are turned so far. -/
def turned (b at_ n : Nat) : Nat → Nat
  | 0 => 0
  | i + 1 => if b / 2 ^ i % 2 = 1 ∧ at_ + i < 8 * n then turned b at_ n i ^^^ 2 ^ i else turned b at_ n i
theorem turned_lt (b at_ n : Nat) : ∀ i, turned b at_ n i < 2 ^ i
  | 0 => by show 0 < 2 ^ 0; decide
  | i + 1 => by
    have ih := turned_lt b at_ n i
    have hp : 2 ^ i < 2 ^ (i + 1) := Nat.pow_lt_pow_right (by decide) (Nat.lt_succ_self i)
    show (if b / 2 ^ i % 2 = 1 ∧ at_ + i < 8 * n then turned b at_ n i ^^^ 2 ^ i else turned b at_ n i) < _
    split
    · exact Nat.xor_lt_two_pow (by omega) hp
    · omega
theorem turned_ne {b at_ n i : Nat} : turned b at_ n i ^^^ 2 ^ i ≠ 0 := by
  intro h
  have h1 := turned_lt b at_ n i
  have h2 : turned b at_ n i = 2 ^ i := by
    have := congrArg (fun z => z ^^^ 2 ^ i) h
    simpa [Nat.xor_assoc] using this
  omega

theorem turned_on {b at_ n i : Nat} (h1 : b / 2 ^ i % 2 = 1) (h2 : at_ + i < 8 * n) : turned b at_ n (i + 1) = turned b at_ n i ^^^ 2 ^ i := if_pos ⟨h1, h2⟩
theorem turned_off {b at_ n i : Nat} (h : ¬ (b / 2 ^ i % 2 = 1 ∧ at_ + i < 8 * n)) : turned b at_ n (i + 1) = turned b at_ n i := if_neg h
theorem one_bit {x K : Nat} (hx : x < 256) : bits .xor .u8 (x : Int) ((2 : Int) ^ (K % 8) % 256) = ((x ^^^ 2 ^ (K % 8) : Nat) : Int) := by
  have hp : 2 ^ (K % 8) < 256 := Nat.pow_lt_pow_right (by decide) (m := K % 8) (n := 8) (by omega)
  have e : (2 : Int) ^ (K % 8) % 256 = ((2 ^ (K % 8) : Nat) : Int) := by
    rw [show (2 : Int) ^ (K % 8) = ((2 ^ (K % 8) : Nat) : Int) from by simp]
    exact Int.emod_eq_of_lt (Int.natCast_nonneg _) (show ((2 ^ (K % 8) : Nat) : Int) < ((256 : Nat) : Int) from Int.ofNat_lt.2 hp)
  rw [e]
  exact u8_xor_nat x _ hx hp

/-- The bytes so far: which bits are turned, and whether any is. -/
def ChRel (G n : Nat) (l : List Nat) (b at_ i : Nat) (ch : Value) (wr : World) : Prop :=
  ∃ f : List Nat, OwnB wr G n f ∧ lnum f = lnum l ^^^ 2 ^ at_ * turned b at_ n i ∧ ch = .bool (decide (turned b at_ n i ≠ 0))

theorem turn_step {l f : List Nat} {at_ m i : Nat} (hf : ∀ z ∈ f, z < 256) (hk : (at_ + i) / 8 < f.length) (e : lnum f = lnum l ^^^ 2 ^ at_ * m) :
    lnum (f.set ((at_ + i) / 8) (f.getD ((at_ + i) / 8) 0 ^^^ 2 ^ ((at_ + i) % 8))) = lnum l ^^^ 2 ^ at_ * (m ^^^ 2 ^ i) := by
  rw [lnum_turn f hf _ _ hk (Nat.mod_lt _ (by decide)), e, mul_xor, ← Nat.xor_assoc, ← Nat.pow_add, show 8 * ((at_ + i) / 8) + (at_ + i) % 8 = at_ + i from by omega]

set_option maxRecDepth 100000 in
set_option maxHeartbeats 4000000 in
theorem crcChanges_walk (a0 : Option Addr) (len0 cap0 : Nat) (z0 : List Int) (a1 : Int) (a2 : Int) (w : World) (w0 : IsRow .u8 w a0 len0 cap0 z0) (w1 : (Lit.int .u32 a1).wf = true) (w2 : (Lit.int .u16 a2).wf = true) :
    Calls Try.prog 8 #[.slice a0 len0 cap0, .int .u32 a1, .int .u16 a2] w fun e w' => e = .returned (.bool true) ∧ Below w.heap.size w w' := by
  have hn := w0.len
  have hnil := Lib.hid w0.none_len
  have gb := Lib.hid w0.bn
  have hb2 := bounds_u16 w2
  obtain ⟨b, rfl, hb⟩ := nat_of_u32 w1
  obtain ⟨m, rfl⟩ := Int.eq_ofNat_of_zero_le (show 0 ≤ a2 by omega)
  clear w0 w1 w2
  by_cases hbad : 1000 < len0 ∨ len0 = 0 ∨ b = 0
  · rcases (show (1000 < len0) ∨ (len0 = 0) ∨ (len0 ≤ 1000 ∧ 0 < len0 ∧ b = 0) from by omega) with h | h | ⟨h, h1, h2⟩
    · go_enter Try.func8, Try.ntmps8
      go_wp2_with (go_at_call 13; refine (works_any _).mono ?_; rintro e wo ⟨rfl, hBo⟩)
      go_ret
      exact ⟨rfl, hBo⟩
    · subst h
      go_enter Try.func8, Try.ntmps8
      go_wp2_with (go_at_call 13; refine (works_any _).mono ?_; rintro e wo ⟨rfl, hBo⟩)
      go_ret
      exact ⟨rfl, hBo⟩
    · subst h2
      have hz : ((len0 : Int) == 0) = false := by simp; omega
      go_enter Try.func8, Try.ntmps8
      go_wp2_with (go_at_call 13; refine (works_any _).mono ?_; rintro e wo ⟨rfl, hBo⟩)
      go_ret
      exact ⟨rfl, hBo⟩
  · generalize nums len0 z0 = l at gb
    have hz : ((len0 : Int) == 0) = false := by simp; omega
    have hz2 : ((b : Int) == 0) = false := by simp; omega
    have hp : 0 < len0 := by omega
    have hlen : len0 ≤ 1000 := by omega
    have hd : decide ((1000 : Int) < (len0 : Int)) = false := decide_eq_false (by omega)
    clear hbad
    obtain ⟨at_, hat⟩ : ∃ k, k = m % (8 * len0) := ⟨_, rfl⟩
    have hat1 : at_ < 8 * len0 := by rw [hat]; exact Nat.mod_lt _ (by omega)
    have hkm : (m : Int) % (8 * (len0 : Int)) = (at_ : Int) := by rw [hat]; simp
    clear hat
    have hown0 : (w.alloc (.cells #[] 5)).ownsRow w.heap.size 5 1 (.slice (some ⟨w.heap.size, 0, none⟩) 0 0) 0 [] := World.ownsRow_lit w #[] 0 (Nat.le_refl _) (by unfold maxLen; omega) (by simp)
    have hb0 := gb.out.below (below_alloc w (.cells #[] 5))
    go_enter Try.func8, Try.ntmps8
    go_wp2_with (at_builtin
                 refine app_bytes _ rfl (.tmp 27) (.tmp 28) rfl w.heap.size (.slice (some ⟨w.heap.size, 0, none⟩) 0 0) 0 [] rfl hown0 a0 len0 cap0 l rfl hb0 hnil.out (by omega) (below_alloc w (.cells #[] 5)).size ?_
                 intro v1 w1 hown1 hg1
                 have hB1 := Lib.hid ((below_alloc w (.cells #[] 5)).grown hg1 (by simp) (by simp [Value.ownBlock]))
                 clear hown0 hb0 hg1)
    have hown3 : w1.ownsRow w.heap.size 5 1 v1 len0 (bv l) := by simpa using hown1
    obtain ⟨G, c, rfl, hG, hc, _, hO⟩ := own_b hown3 gb.out.2.1 hp
    have gO := Lib.hid hO
    clear hown1 hown3 hO
    rw [hkm]
    go_loopw [9, 10] (fun ch i wr => ∃ j : Nat, j ≤ 32 ∧ i = .int .i64 j ∧ ChRel G len0 l b at_ j ch wr ∧ Below w.heap.size w wr) (fun _ i _ => 32 - (intOf i).toNat)
    case atStart => exact ⟨0, by omega, rfl, ⟨l, gO.out, by simp [turned], rfl⟩, hB1.out⟩
    case round =>
      obtain ⟨j, hj, rfl, ⟨f, hf, he, rfl⟩, hbl⟩ := hrel
      have ge := Lib.hid he
      clear he
      by_cases hlt : j < 32
      · obtain ⟨K, hK⟩ : ∃ K, K = at_ + j := ⟨_, rfl⟩
        have hK2 : (at_ : Int) + (j : Int) = (K : Int) := by omega
        by_cases hbit : b / 2 ^ j % 2 = 1
        · have ht := bit_true hb hbit
          by_cases hin : at_ + j < 8 * len0
          · have hq : decide ((K : Int) < 8 * (len0 : Int)) = true := decide_eq_true (by omega)
            have hkl : K / 8 < len0 := by omega
            obtain ⟨dc, df⟩ := hf.2.2 (K / 8) hkl
            obtain ⟨x, hx⟩ : ∃ x, x = f.getD (K / 8) 0 := ⟨_, rfl⟩
            have hx1 : x < 256 := by rw [hx]; exact getD_lt hf.2.1 _
            rw [← hx] at dc
            have gx := Lib.hid hx
            have gf := Lib.hid hf
            have gK := Lib.hid hK
            have gbit := Lib.hid hbit
            have gin := Lib.hid hin
            clear hx hf hK hbit
            go_wp2_with fail
            have ev := one_bit (K := K) hx1
            rw [ev]
            have hp8 : 2 ^ (K % 8) < 256 := Nat.pow_lt_pow_right (by decide) (m := K % 8) (n := 8) (by omega)
            refine ⟨⟨j + 1, by omega, rfl, ⟨_, gf.out.store hkl (Nat.xor_lt_two_pow (n := 8) hx1 hp8), ?_, ?_⟩, hbl.setCell hG _⟩, by simp [intOf]; omega⟩
            · rw [turned_on gbit.out gin.out, gx.out, gK.out]
              exact turn_step gf.out.2.1 (by rw [gf.out.1, ← gK.out]; exact hkl) ge.out
            · rw [turned_on gbit.out gin.out, decide_eq_true turned_ne]
          · have hq : decide ((K : Int) < 8 * (len0 : Int)) = false := decide_eq_false (by omega)
            have gf := Lib.hid hf
            have eo := Lib.hid (turned_off (b := b) (at_ := at_) (n := len0) (i := j) (fun h => hin h.2))
            clear hf hK hbit hin
            go_wp2_with fail
            refine ⟨⟨j + 1, by omega, rfl, ⟨f, gf.out, ?_, ?_⟩, hbl⟩, by simp [intOf]; omega⟩
            · rw [eo.out]; exact ge.out
            · rw [eo.out]
        · have ht := bit_false hb hbit
          have gf := Lib.hid hf
          have eo := Lib.hid (turned_off (b := b) (at_ := at_) (n := len0) (i := j) (fun h => hbit h.1))
          clear hf hK hbit
          go_wp2_with fail
          refine ⟨⟨j + 1, by omega, rfl, ⟨f, gf.out, ?_, ?_⟩, hbl⟩, by simp [intOf]; omega⟩
          · rw [eo.out]; exact ge.out
          · rw [eo.out]
      · obtain rfl : j = 32 := by omega
        have hM := csum_turned l f gb.out.2.1 hf.2.1 (by rw [hf.1, gb.out.1]) at_ (turned b at_ len0 32) (by rw [gb.out.1]; omega) (turned_lt b at_ len0 32) ge.out
        have gbr := Lib.hid (gb.out.below hbl)
        have gcr := Lib.hid hf.bn
        obtain ⟨M, hMe⟩ : ∃ M, M = turned b at_ len0 32 := ⟨_, rfl⟩
        rw [← hMe] at hM ⊢
        by_cases h0 : M = 0
        · have hs := hM.2 h0
          rw [show decide (M ≠ 0) = false from decide_eq_false (fun h => h h0)]
          clear hM h0 hf hMe
          go_wp2_with fail
          refine (sum_any _ _ _ _ _ gbr.out (by omega)).mono ?_
          rintro e wA ⟨rfl, hA⟩
          rw [hs]
          go_wp2_with fail
          refine (sum_any _ _ _ _ _ (gcr.out.below hA) (by omega)).mono ?_
          rintro e wB ⟨rfl, hB⟩
          go_wp2_with fail
          refine (valid_any _ _ _ _ _ _ ((gcr.out.below hA).below hB) (by omega)).mono ?_
          rintro e wC ⟨rfl, hC⟩
          go_wp2_with fail
          refine (works_any _).mono ?_
          rintro e wD ⟨rfl, hD⟩
          go_wp2_with fail
          go_ret
          exact ⟨rfl, bchain (bchain (bchain (bchain hbl hA) hB) hC) hD⟩
        · have hs : ¬ csum l = csum f := fun h => h0 (hM.1 h)
          rw [show decide (M ≠ 0) = true from decide_eq_true h0]
          have e2 : (csum f == csum l) = false := by simpa using fun h => hs h.symm
          have e3 : ((csum l : Int) != (csum f : Int)) = true := by rw [bne, beq_nat]; simpa using hs
          clear hM h0 hf hMe
          go_wp2_with fail
          refine (sum_any _ _ _ _ _ gbr.out (by omega)).mono ?_
          rintro e wA ⟨rfl, hA⟩
          go_wp2_with fail
          refine (sum_any _ _ _ _ _ (gcr.out.below hA) (by omega)).mono ?_
          rintro e wB ⟨rfl, hB⟩
          go_wp2_with fail
          refine (valid_any _ _ _ _ _ _ ((gcr.out.below hA).below hB) (by omega)).mono ?_
          rintro e wC ⟨rfl, hC⟩
          rw [e2]
          go_wp2_with fail
          refine (works_any _).mono ?_
          rintro e wD ⟨rfl, hD⟩
          go_wp2_with fail
          go_ret
          exact ⟨rfl, bchain (bchain (bchain (bchain hbl hA) hB) hC) hD⟩
end Go.Proofs.Ytcaodblmdaifjaa
