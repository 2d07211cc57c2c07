/- bytes.Repeat of one byte. -/
import Derived.Test.YtaohlblhfmlpbaaUse
import Derived.Lib.MakeNoZero
import Derived.Laws.Externs
import Derived.Laws.CopyRow
namespace Go.Proofs.Ytaohlblhfmlpbaa
open Go.RowKit
/-- The first k cells are nines. -/
def Nines (k : Nat) (C : Array Value) : Prop := ∀ i, i < k → C[i]? = some (.int .u8 9)
/-- A row of nines at block G. -/
def NRow (w : World) (G n : Nat) : Prop := ∃ C, w.heap[G]? = some (.cells C 5 (0, 0)) ∧ n ≤ C.size ∧ Nines n C
theorem NRow.below {w w' : World} {G n : Nat} (h : NRow w G n) (hb : Below w.heap.size w w') : NRow w' G n := by
  obtain ⟨C, h1, h2, h3⟩ := h
  exact ⟨C, (hb.block G (lt_of_heap h1)).trans h1, h2, h3⟩
theorem NRow.sb {w : World} {G n : Nat} (h : NRow w G n) : SB w (some ⟨G, 0, none⟩) n (List.replicate n 9) := by
  obtain ⟨C, h1, h2, h3⟩ := h
  refine ⟨by simp, fun _ => ⟨_, rfl, fun i x hx => ?_⟩⟩
  have hi := (List.getElem?_eq_some_iff.1 hx).1
  rw [List.length_replicate] at hi
  rw [add_plain, Nat.zero_add]
  refine (cell_of_row w G i _ _ (0, 0) h1).trans ((h3 i hi).trans ?_)
  rw [List.getElem?_replicate, if_pos hi] at hx
  cases hx
  rfl
theorem mul_one_n {n : Nat} (hn : n ≤ 300) (w : World) : Calls Try.prog 43 #[.int .u64 1, .int .u64 (n : Nat)] w fun e w' => e = .returned (.tuple #[.int .u64 0, .int .u64 (n : Nat)]) ∧ w = w' := by
  refine (Try.bits_Mul 1 n (by decide) (by omega) w).mono ?_
  rintro e w' ⟨rfl, rfl⟩
  refine ⟨?_, rfl⟩
  rw [show 1 * n / 18446744073709551616 = 0 by omega, show 1 * n % 18446744073709551616 = n by omega]
  rfl
theorem wrap_ok9 {x : Int} (h0 : -4611686018427387904 ≤ x) (h1 : x ≤ 4611686018427387904) : wrap64 x = x := by unfold wrap64; omega
/-- Where the buffer lies: at block G, k of its n bytes are laid. -/
def Buf (w : World) (G n k : Nat) (wr : World) : Prop := w.heap.size ≤ G ∧ Below w.heap.size w wr ∧ ∃ C, wr.heap[G]? = some (.cells C 5 (0, 0)) ∧ n ≤ C.size ∧ Nines k C
theorem Buf.drew {w wr : World} {G n k : Nat} (h : Buf w G n k wr) : Buf w G n k wr.drew := by
  obtain ⟨h1, hb, C, h3⟩ := h
  exact ⟨h1, ⟨hb.os, hb.tape, hb.output, hb.size, fun b h => hb.block b h⟩, C, h3⟩
theorem copy_nines {w wr : World} {G n k m : Nat} (h : Buf w G n k wr) (hkn : k < n) (hm : m = min k (n - k)) : ∃ w2, (∀ ty, (Builtin.copy_ #[23, 23] ty #[.slice (some ⟨G, k, none⟩) (n - k) (n - k), .slice (some ⟨G, 0, none⟩) k n]).run Try.prog wr = .ok (.int .i64 (m : Nat)) w2) ∧ Buf w G n (k + m) w2 := by
  obtain ⟨h1, h2, C, h3, h4, h5⟩ := h
  have hlen : (List.replicate m (Value.int .u8 9)).length = m := List.length_replicate ..
  have hsrc : ∀ (j : Nat) v, (List.replicate m (Value.int .u8 9))[j]? = some v → wr.cell? ((⟨G, 0, none⟩ : Addr).add j) = some v := fun j v hj => by
    have hi := (List.getElem?_eq_some_iff.1 hj).1
    rw [hlen] at hi
    rw [add_plain, Nat.zero_add]
    refine (cell_of_row wr G j _ _ (0, 0) h3).trans ((h5 j (by omega)).trans ?_)
    rw [List.getElem?_replicate, if_pos hi] at hj
    exact hj
  have hrun := fun ty => run_copy_row (P := Try.prog) wr 23 23 ty 5 G k (n - k) (n - k) ⟨G, 0, none⟩ k n C 5 (List.replicate m (.int .u8 9)) Try.underlying23 sizeE h3 (by rw [hlen, hm]) hsrc (by rw [hlen]; omega) (fun v hv => by rw [(List.mem_replicate.1 hv).2]; rfl)
  rw [hlen] at hrun
  refine ⟨_, hrun, h1, ?_, _, setRow_heap wr G _ _ _ _ h3, ?_, ?_⟩
  · exact below_setRow h2 h1 _
  · simp [hlen]
    try omega
  · intro i hi
    rw [List.getElem?_toArray]
    by_cases h6 : i < k
    · rw [List.append_assoc, List.getElem?_append_left (by simp; omega), List.getElem?_take, if_pos h6, Array.getElem?_toList]
      exact h5 i h6
    · have hl1 : (C.toList.take k).length = k := by simp; omega
      rw [List.append_assoc, List.getElem?_append_right (by rw [hl1]; omega), hl1, List.getElem?_append_left (by rw [hlen]; omega), List.getElem?_replicate, if_pos (by omega)]
theorem copy_first {w wr : World} {G n R : Nat} (h : Buf w G n 0 wr) (hn : 1 ≤ n) (hc : wr.cell? ⟨R, 0, none⟩ = some (.int .u8 9)) : ∃ w2, (∀ ty, (Builtin.copy_ #[23, 23] ty #[.slice (some ⟨G, 0, none⟩) n n, .slice (some ⟨R, 0, none⟩) 1 1]).run Try.prog wr = .ok (.int .i64 1) w2) ∧ Buf w G n 1 w2 := by
  obtain ⟨h1, h2, C, h3, h4, h5⟩ := h
  have hsrc : ∀ (j : Nat) v, [Value.int .u8 9][j]? = some v → wr.cell? ((⟨R, 0, none⟩ : Addr).add j) = some v := fun j v hj => by
    rcases j with _ | j
    · cases hj
      rw [add_plain]
      exact hc
    · simp at hj
  refine ⟨_, fun ty => run_copy_row (P := Try.prog) wr 23 23 ty 5 G 0 n n ⟨R, 0, none⟩ 1 1 C 5 [.int .u8 9] Try.underlying23 sizeE h3 (by show 1 = min 1 n; omega) hsrc (by simp; omega) (fun v hv => by rw [List.mem_singleton.1 hv]; rfl), h1, below_setRow h2 h1 _, _, setRow_heap wr G _ _ _ _ h3, ?_, ?_⟩
  · simp
    omega
  · intro i hi
    obtain rfl : i = 0 := by omega
    simp
set_option maxRecDepth 100000 in
set_option maxHeartbeats 4000000 in
theorem repeat_any (n : Nat) (hn : n ≤ 300) (w : World) {R : Nat} (hb : SB w (some ⟨R, 0, none⟩) 1 [9]) : Calls Try.prog 31 #[.slice (some ⟨R, 0, none⟩) 1 1, .int .i64 (n : Nat)] w fun e w' => ∃ G, e = .returned (.slice (some ⟨G, 0, none⟩) n n) ∧ Hid (NRow w' G n ∧ w.heap.size ≤ G ∧ Below w.heap.size w w') := by
  rcases Nat.eq_zero_or_pos n with rfl | hp
  · go_enter Try.func31, Try.ntmps31
    go_wp2_with fail
    go_ret
    exact ⟨w.heap.size, rfl, ⟨_, World.alloc_heap_new _ _, Nat.zero_le _, fun i hi => absurd hi (Nat.not_lt_zero _)⟩, Nat.le_refl _, lit_b w _⟩
  · have i1 : ¬ (n : Int) = 0 := by omega
    have i2 : ¬ (n : Int) < 0 := by omega
    have gM := Lib.hid (mul_one_n hn w)
    have gb := Lib.hid hb
    have hc9 : w.cell? ⟨R, 0, none⟩ = some (.int .u8 9) := by
      obtain ⟨a, e, hc⟩ := hb.2 (by decide)
      cases e
      have := hc 0 9 rfl
      rwa [add_plain] at this
    go_enter Try.func31, Try.ntmps31
    go_wp2_with fail
    refine gM.out.mono ?_
    rintro e _ ⟨rfl, rfl⟩
    obtain ⟨cs, hrunM, hle, _⟩ := Lib.run_makeNoZero (P := Try.prog) w #[3] 23 5 Try.underlying23 n (by omega)
    have hcall : (callFunc 44 #[.int .i64 (n : Int)]).run Try.prog w = .ok (.value (.slice (some ⟨w.heap.size, 0, none⟩) n cs.size)) ((w.alloc (.cells cs 5)).drewN 2) := by
      rw [run_callFunc_extern Try.func44 (by kernel_rfl) (by kernel_rfl) (by kernel_rfl) (e := Extern.BytealgMakeNoZero.makeNoZero #[3] #[23]) (by kernel_rfl), hrunM]
      rfl
    clear hrunM
    have k0 : (0 : Int) ≤ (n : Int) := by omega
    have k1 : (n : Int) ≤ (cs.size : Int) := by omega
    have k2 : ¬ (8192 : Int) < (n : Int) := by omega
    have k3 : ¬ (9223372036854775807 : Int) < (n : Int) := by omega
    obtain ⟨G, hG⟩ : ∃ G, G = w.heap.size := ⟨_, rfl⟩
    have hB0 : Buf w G n 0 ((w.alloc (.cells cs 5)).drewN 2) := by
      have hb := lit_b w (.cells cs 5)
      refine ⟨by omega, ⟨hb.os, hb.tape, hb.output, hb.size, fun b h => hb.block b h⟩, cs, ?_, hle, fun i hi => absurd hi (Nat.not_lt_zero _)⟩
      rw [hG]
      exact World.alloc_heap_new w (.cells cs 5)
    obtain ⟨w1, hc1, gB1⟩ := copy_first hB0 hp ((Below.cell (lit_b w (.cells cs 5)) (lt_of_cell hc9)).trans hc9)
    have gB1 := Lib.hid gB1
    rw [hG] at hc1
    clear gM hB0 hc9 hle
    go_wp2_with fail
    simp only [← hG]
    have gbs := gb
    clear hcall hc1 hG k0 k1 k2 k3 gb hb
    go_loopw [10, 11] (fun m10 _ wr => ∃ k : Nat, 1 ≤ k ∧ k ≤ n ∧ m10 = .int .i64 (k : Nat) ∧ Hid (Buf w G n k wr)) (fun m10 _ _ => n - (intOf m10).toNat)
    case atStart => exact ⟨1, Nat.le_refl _, hp, rfl, gB1.out⟩
    case round =>
      obtain ⟨k, hk1, hk, rfl, gI⟩ := hrel
      by_cases hlt : k < n
      · obtain ⟨m, hm⟩ : ∃ m, m = min k (n - k) := ⟨_, rfl⟩
        obtain ⟨w2, hc2, hB2⟩ := copy_nines (wr := wr.drew) (w := w) (G := G) (n := n) (k := k) gI.out.drew hlt hm
        have gB2 := Lib.hid hB2
        have hmin : min (k : Int) (n : Int) = (k : Nat) := by omega
        have hs1 : ∀ W : World, (Instr.slice 23 (.slice (some ⟨G, 0, none⟩) n n) (some (.int .i64 (k : Int))) none none).run Try.prog W = .ok (.slice (some ⟨G, k, none⟩) (n - k) (n - k)) W := by
          intro W
          have i1 : k ≤ n := hk
          have i2 : ¬ n = k := by omega
          have i3 : ¬ k = 0 := by omega
          simp [Instr.slice, run_underlying Try.underlying23, Instr.sliceBounds, Instr.sliceBound, asIntOf, i1, i2, i3, Addr.add, Try.sizeOf5]
        have hs2 := slice_to (some ⟨G, 0, none⟩) n n k hk
        have gm := Lib.hid (show 1 ≤ m ∧ k + m ≤ n from by omega)
        have hw : wrap64 ((k : Int) + (m : Int)) = ((k + m : Nat) : Int) := by rw [wrap_ok9 (by omega) (by omega)]; omega
        have hkz : (k : Int) < (n : Int) := by omega
        clear hB2 hm
        go_wp2_with fail
        go_region
        go_wp2_with fail
        rw [hw]
        go_roundw
        case rel => exact ⟨k + m, by have := gm.out; omega, gm.out.2, rfl, gB2⟩
        case measure =>
          have := gm.out
          simp only [intOf, Int.toNat_natCast]
          clear hw
          omega
      · obtain rfl : k = n := by omega
        obtain ⟨h1, h2, C, h3, h4, h5⟩ := gI.out
        have gE := Lib.hid (show NRow wr G k ∧ w.heap.size ≤ G ∧ Below w.heap.size w wr from ⟨⟨C, h3, h4, h5⟩, h1, h2⟩)
        clear gI h1 h2 h3 h4 h5 gB1
        go_wp2_with fail
        go_ret
        exact ⟨G, rfl, gE⟩
end Go.Proofs.Ytaohlblhfmlpbaa
