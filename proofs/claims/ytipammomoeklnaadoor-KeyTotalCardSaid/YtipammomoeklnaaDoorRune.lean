/- strings.ContainsRune and strings.IndexByte over the key characters: at every rune, at every byte. -/
import Derived.Test.YtipammomoeklnaaDoorBase
import Derived.Test.YtipammomoeklnaaDoorShelf
import Derived.Laws.RangeAny
import Derived.Laws.Runes
import Derived.Deep.QuietTactic
import Derived.BigQuiet
import Derived.LoopN
namespace Go.Proofs.YtipammomoeklnaaDoor
open Go.RowKit Go.PlainAid

/-- The key characters, in order. -/
abbrev lets : ByteArray := ⟨#[45, 46, 48, 49, 50, 51, 52, 53, 54, 55, 56, 57, 95, 97, 98, 99, 100, 101, 102, 103, 104, 105, 106, 107, 108, 109, 110, 111, 112, 113, 114, 115, 116, 117, 118, 119, 120, 121, 122]⟩
theorem lets_size : lets.size = 39 := rfl
theorem bt_lets : ∀ i, i < 39 → bt lets i = chr i := by decide +kernel
theorem lets_ascii : ∀ b ∈ lets.data.toList, b.toNat < 128 := by decide +kernel
theorem index_nat : ∀ n : Nat, n < 256 → Lib.indexByte lets.data.toList n.toUInt8 = plc n := by decide +kernel
theorem index_lets (c : Int) (h0 : 0 ≤ c) (h1 : c ≤ 255) : Lib.indexByte lets.data.toList c.toNat.toUInt8 = plc c := by
  obtain ⟨n, rfl⟩ := Int.eq_ofNat_of_zero_le h0
  exact index_nat n (by omega)

theorem index_any (c : Int) (h0 : 0 ≤ c) (h1 : c ≤ 255) (w : World) : Calls Tryd.prog 26 #[.string lets, .int .u8 c] w fun e w' => e = .returned (.int .i64 (plc c)) ∧ w = w' :=
  (Tryd.strings_IndexByte lets c w).mono fun e w' ⟨he, hw⟩ => ⟨by rw [he, index_lets c h0 h1], hw.symm⟩
theorem index_high (s : ByteArray) (c : Int) (h0 : 128 ≤ c) (h1 : c ≤ 255) (hs : ∀ b ∈ s.data.toList, b.toNat < 128) (w : World) : Calls Tryd.prog 26 #[.string s, .int .u8 c] w fun e w' => e = .returned (.int .i64 (-1)) ∧ w' = w :=
  (Tryd.strings_IndexByte s c w).mono fun e w' ⟨he, hw⟩ => ⟨by
    rw [he, ← Lib.firstIdx_eq, firstIdx_none s _ (fun b hb e => by
      have := hs b hb
      rw [e] at this
      simp at this
      omega)], hw⟩

theorem validRune_any (r : Int) (w : World) : Calls Tryd.prog 54 #[.int .i32 r] w fun e w' => e = .returned (.bool (validRune r)) ∧ w = w' := by
  by_cases h : (0 ≤ r ∧ r < 55296) ∨ (57343 < r ∧ r ≤ 1114111)
  · have e : validRune r = true := decide_eq_true h
    rw [e]
    rcases h with ⟨h1, h2⟩ | ⟨h1, h2⟩
    · go_enter Tryd.func54, Tryd.ntmps54
      go_wp2
      go_ret
      exact ⟨rfl, rfl⟩
    · have h3 : ¬ r < 55296 := by omega
      go_enter Tryd.func54, Tryd.ntmps54
      go_wp2
      go_ret
      exact ⟨rfl, rfl⟩
  · have e : validRune r = false := decide_eq_false h
    rw [e]
    by_cases h1 : 0 ≤ r
    · have h2 : ¬ r < 55296 := by omega
      by_cases h3 : 57343 < r
      · have h4 : ¬ r ≤ 1114111 := by omega
        go_enter Tryd.func54, Tryd.ntmps54
        go_wp2
        go_ret
        exact ⟨rfl, rfl⟩
      · go_enter Tryd.func54, Tryd.ntmps54
        go_wp2
        go_ret
        exact ⟨rfl, rfl⟩
    · have h3 : ¬ 57343 < r := by omega
      go_enter Tryd.func54, Tryd.ntmps54
      go_wp2
      go_ret
      exact ⟨rfl, rfl⟩

set_option maxRecDepth 100000 in
theorem high_invalid (r : Int) (h1 : 128 ≤ r) (hf : (r == 65533) = false) (hv : validRune r = false) (w : World) :
    Calls Tryd.prog 43 #[.string lets, .int .i32 r] w fun e w' => e = .returned (.int .i64 (-1)) ∧ Below w.heap.size w w' := by
  have h2 : ¬ r < 128 := by omega
  go_enter Tryd.func43, Tryd.ntmps43
  go_wp2_with (go_at_call 54; refine (validRune_any _ _).mono ?_; rintro e w' ⟨rfl, rfl⟩)
  go_ret
  exact ⟨rfl, Below.refl _ _⟩

theorem bt_high (s : ByteArray) (i : Nat) (h : i < s.size) (hb : 128 ≤ (s[i]'h).toNat) : 128 ≤ bt s i := by rw [← get_bt s i h]; omega
set_option maxRecDepth 100000 in
set_option maxHeartbeats 1000000 in
theorem high_valid (r : Int) (h1 : 128 ≤ r) (hf : (r == 65533) = false) (hv : validRune r = true) (w : World) :
    Calls Tryd.prog 43 #[.string lets, .int .i32 r] w fun e w' => e = .returned (.int .i64 (-1)) ∧ Below w.heap.size w w' := by
  have h2 : ¬ r < 128 := by omega
  obtain ⟨k1, k2, k3⟩ := encode_facts r (by rw [validRune_eq]; exact hv) h1
  obtain ⟨rs, hrs⟩ : ∃ rs, rs = Utf8.encode r := ⟨_, rfl⟩
  have hb := bt_high rs (rs.size - 1) (by rw [hrs]; omega) (by subst hrs; exact k3 (by omega))
  rw [← hrs] at k1 k2
  have hc := fun W => run_convert_int_string (P := Tryd.prog) W 21 9 .i32 r (by rw [Tryd.underlying21]; rfl) Tryd.underlying9
  rw [← hrs] at hc
  have hg := get_bt rs
  have hb2 := bt_le rs (rs.size - 1)
  obtain ⟨n, hn⟩ : ∃ n, rs.size = n + 1 := ⟨rs.size - 1, by omega⟩
  rw [hn, Nat.add_sub_cancel] at hb hb2
  have hn1 : 1 ≤ n ∧ n ≤ 3 := by omega
  have hls := get_bt lets
  have hl1 := bt_lets n (by omega)
  have hne : (chr (n : Int) == bt rs n) = false := by
    rw [beq_eq_false_iff_ne]; unfold chr; repeat' split <;> omega
  have hne2 : (chr (n : Int) != bt rs n) = true := by rw [bne, hne]; rfl
  have hz := lets_size
  have q1 : (0 : Int) ≤ (n : Int) + 1 := by omega
  have q2 : IntKind.i64.wrap ((n : Int) + 1) = (n : Int) + 1 := IntWalk.i64_in _ ⟨by omega, by omega⟩
  have q3 : ((n : Int) + 1).toNat = n + 1 := by omega
  clear hrs k3 k1 k2
  go_enter Tryd.func43, Tryd.ntmps43
  go_wp2_with (go_at_call 54; refine (validRune_any _ _).mono ?_; rintro e w' ⟨rfl, rfl⟩)
  go_step3
  go_wp2_with fail
  refine wp_loop_rounds 1 ?_
  rw [rounds_succ]
  go_wp2_with fail
  go_step3
  go_wp2_with fail
  go_quiet (fail)
  have hB : Below w.heap.size w (w.drewN nq) := below_drewN (Below.refl _ _) _
  generalize w.drewN nq = W at hB ⊢
  go_wp2_with fail
  go_quiet ((go_at_call 26; exact Calls.quiet_of_same (index_high _ _ hb hb2 (fun b hb => lets_ascii b (mem_extract hb)) _)))
  go_wp2_with fail
  go_simp
  go_ret
  exact ⟨rfl, below_drewN hB _⟩

theorem below_iter (w : World) (s : ByteArray) (p : Nat) : Below w.heap.size w (w.iter s p) := (Below.refl _ _).alloc (Nat.le_refl _) _
theorem lets_get (p : Nat) (h : p < lets.size) : (lets[p]'h).toNat < 128 := lets_ascii _ (Array.getElem_mem_toList (xs := lets.data) h)
set_option maxRecDepth 100000 in
set_option maxHeartbeats 1000000 in
theorem high_fffd (w : World) :
    Calls Tryd.prog 43 #[.string lets, .int .i32 65533] w fun e w' => e = .returned (.int .i64 (-1)) ∧ Below w.heap.size w w' := by
  have hls := get_bt lets
  go_enter Tryd.func43, Tryd.ntmps43
  go_wp2_with fail
  go_loopw [] (fun wr => ∃ p : Nat, p ≤ 39 ∧ wr = w.iter lets p) (fun wr => 39 - wr.iterPos w.heap.size)
  case atStart => exact ⟨0, by omega, rfl⟩
  case round =>
    obtain ⟨p, hp, rfl⟩ := hrel
    by_cases hlt : p < 39
    · have hnx := fun ty => run_next_ascii (P := Tryd.prog) w lets p ty (by rw [lets_size]; exact hlt) (lets_get p _)
      rw [hls] at hnx
      have b1 := bt_lets p hlt
      have hne : (chr (p : Int) == 65533) = false := by
        rw [beq_eq_false_iff_ne]; unfold chr; repeat' split <;> omega
      rw [b1] at hnx
      go_wp2
      go_roundw
      case rel => exact ⟨p + 1, by omega, rfl⟩
      case measure => simp; omega
    · have hnx := fun ty => run_next_end (P := Tryd.prog) w lets p ty (by rw [lets_size]; exact hlt)
      go_wp2
      go_ret
      exact ⟨rfl, below_iter _ _ _⟩

/-- strings.ContainsRune over the key characters. -/
theorem contains_any (r : Int) (h0 : 0 ≤ r) (w : World) : Calls Tryd.prog 28 #[.string lets, .int .i32 r] w fun e w' => e = .returned (.bool (kch r)) ∧ Below w.heap.size w w' := by
  by_cases h1 : r < 128
  · refine (Tryd.strings_ContainsRune_ascii lets r w h0 h1).mono ?_
    rintro e w' ⟨rfl, rfl⟩
    rw [index_lets r h0 (by omega), plc_kch]
    exact ⟨rfl, Below.refl _ _⟩
  · have hk : kch r = false := by unfold kch; simp; omega
    have hI : Calls Tryd.prog 43 #[.string lets, .int .i32 r] w fun e w' => e = .returned (.int .i64 (-1)) ∧ Below w.heap.size w w' := by
      by_cases h2 : r = 65533
      · subst h2; exact high_fffd w
      · have h3 : (r == 65533) = false := beq_eq_false_iff_ne.2 h2
        cases hv : validRune r with
        | true => exact high_valid r (by omega) h3 hv w
        | false => exact high_invalid r (by omega) h3 hv w
    rw [hk]
    go_enter Tryd.func28, Tryd.ntmps28
    go_wp2_with (go_at_call 43; refine hI.mono ?_; rintro e w' ⟨rfl, hB⟩)
    go_ret
    exact ⟨rfl, hB⟩
end Go.Proofs.YtipammomoeklnaaDoor
