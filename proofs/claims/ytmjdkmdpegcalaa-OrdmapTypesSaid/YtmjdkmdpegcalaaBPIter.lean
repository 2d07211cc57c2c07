/- The iterators: yieldEach, All, From; first, Min, Ceil. -/
import Derived.Test.YtmjdkmdpegcalaaBPRead
import Derived.RangeFuncNested
import Derived.RangeFuncBound
import Derived.RangeFuncCalls
import Derived.RangeFuncLeaves
import Derived.RangeFuncBox
import Derived.Shelf.Abstract
import Derived.Shelf.RegionOpen
import Derived.OwnWalkIn
import Derived.TacticsInMore
import Derived.LoopNIn
import Derived.LoopIn
import Derived.Deep.RegionHeld3
import Derived.Deep.RegionWith
import Derived.WalkHide
namespace Go.Proofs.Ytmjdkmdpegcalaa.BP
open Go.RowKit Go.Shelf Go.Sort Go.Lib
attribute [local go_sem] Oper.semAt_some

theorem room_of_none {F : Fence} (hd : F.depth = none) (k : Nat) : F.room k := fun d h => by rw [hd] at h; cases h
theorem yield_any {m : Nat} (m' : Nat) {P : Program} {l : Nat} {args : Array Value} {W : World} {R : Ending → World → Prop} (h : YieldAt Fence.wide m P l args W R) : YieldAt Fence.wide m' P l args W R := by
  obtain ⟨fn, tmps, assign, body, hy, hR⟩ := h
  exact ⟨fn, tmps, assign, body, hy, ⟨hR.1, fun c cs _ => hR.2 c cs (room_of_none rfl _)⟩⟩
theorem take_getD {α : Type} (l : List α) (z : α) {k : Nat} (h : k < l.length) : l.take k ++ [l.getD k z] = l.take (k + 1) := by
  rw [List.take_add_one, List.getElem?_eq_getElem h]; simp [h]

/-- The encoding of what is yielded. -/
def encs (x : K × V) : Array Value := #[(.int .u8 (x.1)), (.agg #[.int .i64 (x.2).1, .string (x.2).2])]
/-- What the rounds of a loop over l are owed. -/
def Rounds (m lp n₀ : Nat) (l : List (K × V)) (J Jx : List (K × V) → World → Prop) : Prop :=
  ∀ pre x W, J pre W → pre ++ [x] <+: l → YieldAt Fence.wide m Try.prog lp (encs x) W fun e W' =>
    (e = .returned (.bool true) ∧ J (pre ++ [x]) W' ∧ Below n₀ W W') ∨ (e = .returned (.bool false) ∧ Jx (pre ++ [x]) W')
/-- How a walk over l ends. -/
def Walked (l : List (K × V)) (J Jx : List (K × V) → World → Prop) (e : Ending) (W' : World) : Prop :=
  e = .returned (.tuple #[]) ∧ ((∃ ys, ys = l ∧ J ys W') ∨ (∃ pre, pre <+: l ∧ Jx pre W'))

set_option maxRecDepth 100000 in
set_option maxHeartbeats 2000000 in
theorem yieldEach_in (n m lp n₀ : Nat) (A : Option Addr) (c : Nat) (l : List (K × V)) (hlen : l.length ≤ 1000000) (J Jx : List (K × V) → World → Prop)
    (hJ : ∀ pre W o, J pre W → J pre (W.alloc o)) (hY : Rounds m lp n₀ l J Jx) (W : World) (hI : IT W A l.length l) (hA : ∀ a, A = some a → a.block < n₀) (hW : n₀ ≤ W.heap.size) (h0 : J [] W) :
    CallsIn Fence.wide n Try.prog 117 #[.slice A l.length c, .func (.yield lp) #[] #[]] W (Walked l J Jx) := by
  unfold Walked
  refine callsIn_of_wp Try.func117 rfl trivial ?_ rfl
  simp only [Try.ntmps117, List.size_toArray, List.length_cons, List.length_nil, Nat.reduceAdd, Nat.reduceSub, Array.replicate_succ, Array.replicate_zero, List.push_toArray, List.append_toArray, List.nil_append, List.cons_append]
  gi_wp2
  gi_loopw [8] (fun i wr => ∃ k : Nat, k ≤ l.length ∧ i = .int .i64 k ∧ J (l.take k) wr ∧ Below n₀ W wr)
    (fun i _ => l.length - (intOf i).toNat)
  case atStart => exact ⟨0, Nat.zero_le _, rfl, by simpa using h0, Below.refl _ _⟩
  case round =>
    obtain ⟨k, hk, rfl, hJs, hnx⟩ := hrel
    by_cases hlt : k < l.length
    · obtain ⟨b, o, rfl, hbw, h1, h2, h3⟩ := hI.at hlt
      have hb := hA _ rfl
      have h1' := (hnx.cell (p := ⟨b, o + k * 3, none⟩) hb).trans h1
      have h2' := (hnx.cell (p := ⟨b, o + k * 3 + 1, none⟩) hb).trans h2
      have h3' := (hnx.cell (p := ⟨b, o + k * 3 + 1 + 1, none⟩) hb).trans h3
      have hJ1 := hJ _ _ (.cells #[(.int .u8 ((l.getD k z0).1)), .int .i64 (l.getD k z0).2.1, .string (l.getD k z0).2.2] 164) hJs
      obtain ⟨fn, tmps, assign, body, hy, hR⟩ := yield_any (n - 1) (hY _ (l.getD k z0) _ hJ1 (by rw [take_getD l z0 hlt]; exact List.take_prefix _ _))
      rw [take_getD l z0 hlt] at hR
      unfold encs at hy
      obtain ⟨x, y, hxy⟩ : ∃ x y, l.getD k z0 = (x, y) := ⟨_, _, rfl⟩
      rw [hxy] at h1' h2' h3' hy hR
      dsimp only at hy hR h1' h2' h3'
      clear hxy h1 h2 h3 hJ1
      gi_wp2
      refine ⟨fun h => (by cases h), hR.mono ?_⟩
      rintro e W3 (⟨rfl, hJ3, hk3⟩ | ⟨rfl, hJx3⟩)
      · gi_wp2
        go_roundw
        case rel => exact ⟨k + 1, by omega, by simp, hJ3, (hnx.alloc (Nat.le_trans hW hnx.size) _).trans hk3⟩
        case measure => simp [intOf]; omega
      · gi_wp2
        refine bodyPost_ret (results_none rfl _ _ _) rfl ?_
        exact ⟨rfl, .inr ⟨_, List.take_prefix _ _, hJx3⟩⟩
    · obtain rfl : k = l.length := by omega
      rw [List.take_length] at hJs
      gi_wp2
      go_end0
      exact ⟨rfl, .inl ⟨_, rfl, hJs⟩⟩

theorem grown_of_below {w w' : World} (h : Below w.heap.size w w') : w.grownBy w' none := ⟨h.os, h.tape, h.output, h.size, fun k hk _ => h.block k hk⟩
/-- Where the items of a map lie. -/
def Under (n₀ : Nat) (A : Option Addr) : Prop := ∀ a, A = some a → a.block < n₀

theorem yieldEach_any (m lp n₀ nn : Nat) (A : Option Addr) (c : Nat) (l : List (K × V)) (hnn : l.length = nn) (hlen : l.length ≤ 1000000) (J Jx : List (K × V) → World → Prop)
    (hJ : ∀ pre W W', J pre W → W.grownBy W' none → J pre W') (hY : Rounds m lp n₀ l J Jx) (W : World) (hI : IT W A l.length l) (hA : Under n₀ A) (hW : n₀ ≤ W.heap.size) (h0 : J [] W) :
    Calls Try.prog 117 #[.slice A nn c, .func (.yield lp) #[] #[]] W (Walked l J Jx) := by
  subst hnn
  exact callsIn_wide.1 (yieldEach_in 0 m lp n₀ A c l hlen J Jx (fun pre W o hj => hJ pre W _ hj (World.grownBy_alloc W o none)) hY W hI hA hW h0)
theorem flat_drop (l : List (K × V)) (r j : Nat) (hr : r ≤ l.length) : (flat (l.drop r))[j]? = (flat l)[r * 3 + j]? := by
  have e : flat l = flat (l.take r) ++ flat (l.drop r) := by rw [← flat_append, List.take_append_drop]
  have hl : (flat (l.take r)).length = r * 3 := by rw [length_flat, List.length_take, Nat.min_eq_left hr]
  rw [e, List.getElem?_append_right (by omega), hl, Nat.add_sub_cancel_left]
theorem IT.dropA {w : World} {A : Option Addr} {n c r : Nat} {l : List (K × V)} (h : IT w A n l) (hr : r ≤ n) (hc : n ≤ c) : IT w (if c = r then A else Option.map (fun x => x.add (r * 3)) A) (n - r) (l.drop r) := by
  have hl := h.1
  refine ⟨by rw [List.length_drop, hl], fun h0 => ?_⟩
  rw [if_neg (by omega)]
  obtain ⟨b, o, rfl, hb, hcc⟩ := h.2 (by omega)
  refine ⟨b, o + r * 3, by simp [add_plain], hb, fun j v hj => ?_⟩
  rw [flat_drop l r j (by omega)] at hj
  rw [Nat.add_assoc]
  exact hcc _ _ hj
theorem under_dropA {n₀ : Nat} {A : Option Addr} {c r k : Nat} (h : Under n₀ A) : Under n₀ (if c = r then A else Option.map (fun x => x.add k) A) := by
  intro a e
  split at e
  · exact h _ e
  · cases A with
    | none => cases e
    | some a' =>
      have e' : a'.add k = a := by simpa using e
      have hb : (a'.add k).block = a'.block := by unfold Addr.add; split <;> rfl
      rw [← e', hb]
      exact h _ rfl
set_option maxRecDepth 100000 in
set_option maxHeartbeats 2000000 in
theorem all1_any (m lp n₀ Bm : Nat) (p A : Option Addr) (c : Nat) (l : List (K × V)) (J Jx : List (K × V) → World → Prop) (hJ : ∀ pre W W', J pre W → W.grownBy W' none → J pre W')
    (hY : Rounds m lp n₀ l J Jx) (W : World) (hm : W.cell? ⟨Bm, 0, none⟩ = some (.pointer p)) (h : Has W p A c l) (hA : Under n₀ A) (hW : n₀ ≤ W.heap.size) (h0 : J [] W) :
    Calls Try.prog 116 #[.func (.yield lp) #[] #[], .pointer (some ⟨Bm, 0, none⟩)] W (Walked l J Jx) := by
  have g := Lib.hid h
  have hy := Lib.hid (yieldEach_any m lp n₀ _ A c l rfl h.len J Jx hJ hY W h.it hA hW h0)
  clear h hY hJ h0
  go_enter Try.func116, Try.ntmps116
  go_wp2_with (first
    | (go_at_call 118; refine (sorted_any _ A c l _ g.out).mono ?_; rintro e w' ⟨rfl, rfl⟩)
    | (go_at_call 117; refine hy.out.mono ?_; rintro e w' ⟨rfl, hw⟩))
  go_end0
  exact ⟨rfl, hw⟩
set_option maxHeartbeats 1000000 in
theorem all_any (p : Option Addr) (w : World) : Calls Try.prog 47 #[.pointer p] w fun e w' => e = .returned (.func (.func 116) #[] #[.pointer (some ⟨w.heap.size, 0, none⟩)]) ∧ w' = w.alloc (.cells #[.pointer p] 84) := by
  go_enter Try.func47, Try.ntmps47
  go_wp2
  go_ret
  exact ⟨rfl, rfl⟩
theorem lt_of_prefix {α : Type} {pre l : List α} {x : α} (h : pre ++ [x] <+: l) : pre.length < l.length := by have := h.length_le; simp at this; omega
/-- All's iterator: the items in their order. -/
theorem all_stops (n n₀ Bm : Nat) (p A : Option Addr) (c : Nat) (l : List (K × V)) (w : World) (hm : w.cell? ⟨Bm, 0, none⟩ = some (.pointer p)) (h : Has w p A c l) (hA : Under n₀ A) (hW : n₀ ≤ w.heap.size) :
    SeqStopsK Fence.wide n Try.prog 116 #[.pointer (some ⟨Bm, 0, none⟩)] encs (Below n₀) (fun ys => ys = l) (fun pre => pre <+: l) l.length w := fun lp J Jx W hb hJ _ hY h0 =>
  callsIn_wide.2 ((all1_any (n - 1) lp n₀ Bm p A c l J Jx (fun s W W' hs hg => hJ s W W' none hs hg (fun r e => by cases e)) (fun pre x W hj hp => hY pre x W hj (lt_of_prefix hp)) W ((hb.cell (lt_of_cell hm)).trans hm) (h.below hb) hA (Nat.le_trans hW hb.size) h0).mono fun e w' h => ⟨⟨_, h.1⟩, h.2⟩)

end Go.Proofs.Ytmjdkmdpegcalaa.BP
