/- The iterator All. -/
import Derived.Test.YtpdipcgchhibeaaLen
import Derived.Test.YtpdipcgchhibeaaFull
import Derived.Shelf.RegionOpen
import Derived.OwnWalkIn
import Derived.TacticsInMore
import Derived.LoopNIn
import Derived.LoopIn
import Derived.WalkHide
namespace Go.Proofs.Ytpdipcgchhibeaa
open Go.RowKit Go.Shelf
attribute [local go_sem] Oper.semAt_some
theorem room_of_none {F : Fence} (hd : F.depth = none) (k : Nat) : F.room k := fun d h => by rw [hd] at h; cases h
theorem yield_any {m : Nat} (m' : Nat) {P : Program} {l : Nat} {args : Array Value} {W : World} {R : Ending → World → Prop} (h : YieldAt Fence.wide m P l args W R) : YieldAt Fence.wide m' P l args W R := by
  obtain ⟨fn, tmps, assign, body, hy, hR⟩ := h
  exact ⟨fn, tmps, assign, body, hy, ⟨hR.1, fun c cs _ => hR.2 c cs (room_of_none rfl _)⟩⟩
def encN (_ : List Nat) (x : Nat) : Array Value := #[.int .i64 (x : Nat)]
theorem bitLen_lt : ∀ (k x : Nat), x < 2 ^ k → k ≤ 64 → x < 2 ^ Lib.bitLen x := by
  intro k
  induction k with
  | zero =>
    intro x hx _
    have : x = 0 := by simpa using hx
    subst this
    decide
  | succ k ih =>
    intro x hx hk
    by_cases h0 : x = 0
    · subst h0
      decide
    · rw [Lib.bitLen_half x h0 (lt_64 hx hk)]
      have h := ih (x / 2) (by rw [Nat.pow_succ] at hx; omega) (by omega)
      rw [Nat.pow_add]
      omega
/-- The slots below k. -/
def low (m k : Nat) : List Nat := (List.range k).filter fun i => m.testBit i
theorem low_all {m n : Nat} (h : m < 2 ^ n) (hn : n ≤ 64) (hb : Lib.bitLen m ≤ 64) : low m (Lib.bitLen m) = sl m := sl_range (bitLen_lt n m h hn) hb
theorem low_yes {m k : Nat} (h : m.testBit k = true) : low m (k + 1) = low m k ++ [k] := by
  unfold low
  rw [List.range_succ, List.filter_append]
  simp [h]
theorem low_no {m k : Nat} (h : m.testBit k = false) : low m (k + 1) = low m k := by
  unfold low
  rw [List.range_succ, List.filter_append]
  simp [h]
theorem low_prefix {m a b : Nat} (h : a ≤ b) : low m a <+: low m b := by
  obtain ⟨d, rfl⟩ : ∃ d, b = a + d := ⟨b - a, by omega⟩
  unfold low
  rw [List.range_add, List.filter_append]
  exact List.prefix_append _ _
theorem all_any (p : Option Addr) (w : World) : Calls Try.prog 39 #[.pointer p] w fun e w' => e = .returned (.func (.func 49) #[] #[.pointer (some ⟨w.heap.size, 0, none⟩)]) ∧ w' = w.alloc (.cells #[.pointer p] 27) := by
  go_enter Try.func39, Try.ntmps39
  go_wp2
  go_ret
  exact ⟨rfl, rfl⟩
/-- What held gives: the slots of a valid set, or none. -/
def Gives (w : World) (p : Option Addr) (m : Nat) : Prop := ∀ W, Below w.heap.size w W → Calls Try.prog 48 #[.pointer p] W fun e W' => e = .returned (.int .u64 (m : Nat)) ∧ W = W'
theorem gives_own {w : World} {P n m : Nat} (h : SOwn w P n m) : Gives w (some ⟨P, 0, none⟩) m := fun _ hb => held_any (h.below hb)
theorem gives_bad {w : World} {p : Option Addr} (h : Bad w p) : Gives w p 0 := fun W hb => held_bad p W (h.below hb)
theorem Gives.below {w w' : World} {p : Option Addr} {m : Nat} (h : Gives w p m) (hb : Below w.heap.size w w') : Gives w' p m := fun W hW => h W (hb.trans (hW.mono hb.size))
/-- How a walk over l ends. -/
def Walked (l : List Nat) (J Jx : List Nat → (Nat → Prop) → World → Prop) (e : Ending) (W' : World) : Prop := (∃ v, e = .returned v) ∧ ∃ F, (J l F W' ∨ ∃ pre, pre <+: l ∧ Jx pre F W')
set_option maxRecDepth 100000 in
set_option maxHeartbeats 2000000 in
/-- All's iterator: the slots in their order. -/
theorem all_foot (n Bm : Nat) (p : Option Addr) (n₀ m : Nat) (w : World) (hc : w.cell? ⟨Bm, 0, none⟩ = some (.pointer p)) (hG : Gives w p m) (hn₀ : n₀ ≤ w.heap.size) (hm : m < 17179869184) :
    SeqFoot n 49 #[.pointer (some ⟨Bm, 0, none⟩)] encN n₀ (sl m) w := by
  intro lp J Jx W F₀ hb hF _ _ hY h0
  show CallsIn Fence.wide n Try.prog 49 #[.func (.yield lp) #[] #[], .pointer (some ⟨Bm, 0, none⟩)] W (Walked (sl m) J Jx)
  have hc2 := (hb.cell (lt_of_cell hc)).trans hc
  have hL64 : Lib.bitLen m ≤ 34 := Lib.bitLen_le m 34 (by omega) (by omega)
  have hlow := low_all (m := m) (n := 34) (by omega) (by omega) (by omega)
  obtain ⟨L, hL⟩ : ∃ L, L = Lib.bitLen m := ⟨_, rfl⟩
  rw [← hL] at hlow hL64
  have gG := Lib.hid (hG W hb)
  have gY := Lib.hid hY
  have g0 := Lib.hid h0
  have gF := Lib.hid hF
  have glow := Lib.hid hlow
  have gLen := Lib.hid (fun W' => (Try.bits_Len64 (m : Int) W' (by omega) (by omega)).mono fun e w' h => (⟨h.1, h.2.symm⟩ : _ ∧ W' = w'))
  have eL : (Lib.bitLen (m : Int).toNat : Int) = (L : Nat) := by rw [Int.toNat_natCast, hL]
  have gm := Lib.hid hm
  have hW := Nat.le_trans hn₀ hb.size
  have t1 : Fence.wide.fn 48 := trivial
  have t2 : Fence.wide.fn 50 := trivial
  rw [eL] at gLen
  clear hc hG hY h0 hb hF hL hlow eL hm
  refine callsIn_of_wp Try.func49 rfl trivial ?_ rfl
  simp only [Try.ntmps49, List.size_toArray, List.length_cons, List.length_nil, Nat.reduceAdd, Nat.reduceSub, Array.replicate_succ, Array.replicate_zero, List.push_toArray, List.append_toArray, List.nil_append, List.cons_append]
  gi_wp2_with fail
  refine ⟨(fun h => by cases h), (callsIn_wide.2 gG.out).mono ?_⟩
  rintro e w' ⟨rfl, rfl⟩
  gi_wp2_with fail
  refine ⟨(fun h => by cases h), (callsIn_wide.2 (gLen.out _)).mono ?_⟩
  rintro e w' ⟨rfl, rfl⟩
  gi_wp2_with fail
  gi_loopw [9] (fun i wr => ∃ k : Nat, k ≤ L ∧ i = .int .i64 (k : Nat) ∧ Hid (∃ F, J (low m k) F wr ∧ Below n₀ W wr ∧ W.heap.size ≤ wr.heap.size ∧ ∀ b, F b → n₀ ≤ b))
    (fun i _ => L - (intOf i).toNat)
  case atStart => exact ⟨0, Nat.zero_le _, rfl, _, by simpa [low] using g0.out, Below.refl _ _, Nat.le_refl _, fun b hb => (gF.out b hb).1⟩
  case round =>
    obtain ⟨k, hk, rfl, gR⟩ := hrel
    by_cases hlt : k < L
    · have hbit := bit_u64 (m := m) (i := k) (by have := gm.out; omega) (by omega)
      rw [Nat.min_eq_left (by omega)] at hbit
      have i0 : (0 : Int) ≤ (k : Int) := by omega
      by_cases hset : m.testBit k = true
      · rw [hset] at hbit
        obtain ⟨F, r1, r2, r3, r4⟩ := gR.out
        have hpx : low m k ++ [k] <+: sl m := by rw [← low_yes hset, ← glow.out]; exact low_prefix (by omega)
        obtain ⟨fn, tmps, assign, body, hy, hR⟩ := yield_any (n - 1) (gY.out _ k _ _ r1 hpx r3)
        unfold encN at hy
        rw [← low_yes hset] at hR
        have gRR := Lib.hid hR
        have q2 := Lib.hid r2
        have q4 := Lib.hid r4
        clear hpx hR r1 r2 r4 hset
        gi_wp2_with fail
        refine ⟨fun h => (by cases h), gRR.out.mono ?_⟩
        rintro e W3 ⟨F3, hT3, ⟨rfl, hJ3⟩ | ⟨rfl, hJx3⟩⟩
        · have hb3 := hT3.below (Nat.le_trans hW r3) q4.out
          have g3 := Lib.hid (show ∃ F, J (low m (k + 1)) F W3 ∧ Below n₀ W W3 ∧ W.heap.size ≤ W3.heap.size ∧ ∀ b, F b → n₀ ≤ b from ⟨F3, hJ3, q2.out.trans hb3.1, Nat.le_trans r3 hb3.1.size, hb3.2⟩)
          clear hJ3 hb3 hT3
          gi_wp2_with fail
          go_roundw
          case rel => exact ⟨k + 1, by omega, by simp, g3.out⟩
          case measure => simp [intOf]; omega
        · have g3 := Lib.hid (show ∃ F, (J (sl m) F W3 ∨ ∃ pre, pre <+: sl m ∧ Jx pre F W3) from ⟨F3, .inr ⟨_, by rw [← glow.out]; exact low_prefix (by omega), hJx3⟩⟩)
          clear hJx3 hT3
          gi_wp2_with fail
          refine bodyPost_ret (results_none rfl _ _ _) rfl ?_
          exact ⟨⟨_, rfl⟩, g3.out⟩
      · have hset2 : m.testBit k = false := by simpa using hset
        rw [hset2] at hbit
        have g3 := Lib.hid (show ∃ F, J (low m (k + 1)) F wr ∧ Below n₀ W wr ∧ W.heap.size ≤ wr.heap.size ∧ ∀ b, F b → n₀ ≤ b from by rw [low_no hset2]; exact gR.out)
        clear hset hset2
        gi_wp2_with fail
        refine ⟨(fun _ h => by cases h), ?_⟩
        gi_wp2_with fail
        go_roundw
        case rel => exact ⟨k + 1, by omega, by simp, g3.out⟩
        case measure => simp [intOf]; omega
    · obtain rfl : k = L := by omega
      have g3 := Lib.hid (show ∃ F, (J (sl m) F wr ∨ ∃ pre, pre <+: sl m ∧ Jx pre F wr) from by
        obtain ⟨F, h, _⟩ := gR.out
        exact ⟨F, .inl (by rwa [glow.out] at h)⟩)
      gi_wp2_with fail
      go_end0
      exact ⟨⟨_, rfl⟩, g3.out⟩
end Go.Proofs.Ytpdipcgchhibeaa
