/- All of a queue of strings: the items in their order, out of a copy that is popped. -/
import Derived.Test.YtepgdeokjgjapaaQJTurn
import Derived.Shelf.Abstract
import Derived.Shelf.RegionOpen
import Derived.OwnWalkIn
import Derived.TacticsInMore
import Derived.LoopNIn
import Derived.LoopIn
import Derived.Sort.LoopGhostIn
namespace Go.Proofs.Ytepgdeokjgjapaa.QJ
open Go.RowKit
attribute [local go_sem] Oper.semAt_some
/-- What is left of the copy. -/
def Rest (V : World) (B R n : Nat) (t : List It) : Prop := ∃ v G pl, QOwn V B R n v G pl ∧ G.Perm t
theorem rest_lt {V : World} {B R n : Nat} {t : List It} (h : Rest V B R n t) : B ≤ V.heap.size := by
  obtain ⟨v, G, pl, h1, _⟩ := h
  have := lt_of_heap h1.qs.blk
  have := h1.qs.hP
  omega
theorem turned_chg {V V' : World} {B R n : Nat} {v v' : Value} {G : List It} {pl : List Nat} (h : QOwn V B R n v G pl) (hc : Chg V V' R v v') : Turned B V V' := by
  refine ⟨hc.but.os, hc.but.tape, hc.but.output, hc.but.size, fun k hk hne => hc.but.block k hk ?_⟩
  rintro (rfl | e)
  · rcases hne with h1 | h1
    · have := h.qs.hP; omega
    · exact h1 ⟨_, 53, _, h.qs.blk, .inl rfl⟩
  · have hl := h.qs.row.lt k e
    rcases hne with h1 | h1
    · omega
    · rcases h.qs.row.2 with ⟨rfl, _⟩ | ⟨g, cap, cur, rfl, _, hh, _⟩
      · cases e
      · obtain rfl : g = k := by simpa [Value.ownBlock] using e
        exact h1 ⟨_, 104, _, hh, .inr rfl⟩
theorem rest_spares {V V' : World} {B R n : Nat} {t : List It} (h : Rest V B R n t) (hs : Spares V V') : Rest V' B R n t := by
  obtain ⟨v, G, pl, h1, h2⟩ := h
  refine ⟨v, G, pl, ⟨⟨h1.qs.hP, (hs.block R ⟨_, 53, _, h1.qs.blk, .inl rfl⟩).trans h1.qs.blk, owns_of_block h1.qs.row fun g hg => hs.block g ?_, h1.qs.len⟩, h1.heap, h1.plc, h1.nd, h1.ids, h1.hn⟩, h2⟩
  rcases h1.qs.row.2 with ⟨rfl, _⟩ | ⟨g', cap, cur, rfl, _, hh, _⟩
  · cases hg
  · obtain rfl : g' = g := by simpa [Value.ownBlock] using hg
    exact ⟨_, 104, _, hh, .inr rfl⟩
theorem rest_pop {V : World} {B R n : Nat} {x : It} {t : List It} (h : Rest V B R n (x :: t)) (hs : Rising lt (x :: t)) :
    Calls Try.prog 20 #[.pointer (some ⟨R, 0, none⟩)] V fun e V' => e = .returned (.tuple #[.int .i64 (x.1 : Nat), .int .i64 x.2, .bool true]) ∧ Hid (Rest V' B R n t ∧ Turned B V V') := by
  obtain ⟨v, G, pl, h1, h2⟩ := h
  have hl := h2.length_eq
  obtain ⟨y, hy⟩ : ∃ y, G[0]? = some y := ⟨_, List.getElem?_eq_getElem (by rw [hl]; simp)⟩
  obtain ⟨t', e⟩ := head_first iord h1.heap hy hs h2.symm
  obtain ⟨rfl, rfl⟩ : x = y ∧ t = t' := by simpa using e
  refine (pop_any h1 x hy).mono ?_
  rintro e V' ⟨rfl, v', G', pl', k1, k2, k3⟩
  exact ⟨rfl, ⟨v', G', pl', k1, (k2.symm.trans h2).cons_inv⟩, turned_chg h1 k3⟩
theorem rest_none {V : World} {B R n : Nat} (h : Rest V B R n []) : Calls Try.prog 20 #[.pointer (some ⟨R, 0, none⟩)] V fun e V' => e = .returned (.tuple #[.int .i64 0, .int .i64 0, .bool false]) ∧ V = V' := by
  obtain ⟨v, G, pl, h1, h2⟩ := h
  obtain rfl : G = [] := h2.eq_nil
  exact pop_none h1.qs
theorem turned_below {B : Nat} {A C : World} (h : Below A.heap.size A C) : Turned B A C := ⟨h.os, h.tape, h.output, h.size, fun k hk _ => h.block k hk⟩
/-- How an item is yielded. -/
def encs (x : It) : Array Value := #[.int .i64 (x.1 : Nat), .int .i64 x.2]
theorem room_of_none {F : Fence} (hd : F.depth = none) (k : Nat) : F.room k := fun d h => by rw [hd] at h; cases h
theorem yield_any {m : Nat} (m' : Nat) {P : Program} {l : Nat} {args : Array Value} {W : World} {R : Ending → World → Prop} (h : YieldAt Fence.wide m P l args W R) : YieldAt Fence.wide m' P l args W R := by
  obtain ⟨fn, tmps, assign, body, hy, hR⟩ := h
  exact ⟨fn, tmps, assign, body, hy, ⟨hR.1, fun c cs _ => hR.2 c cs (room_of_none rfl _)⟩⟩
def Owed (m lp N : Nat) (J Jx : List It → World → Prop) : Prop :=
  ∀ pre x V, J pre V → pre.length < N → YieldAt Fence.wide m Try.prog lp (encs x) V fun e V' => (e = .returned (.bool true) ∧ J (pre ++ [x]) V' ∧ Spares V V') ∨ (e = .returned (.bool false) ∧ Jx (pre ++ [x]) V')
def Walked (T : List It) (J Jx : List It → World → Prop) (e : Ending) (W' : World) : Prop :=
  e = .returned (.tuple #[]) ∧ ((∃ xs, xs = T ∧ J xs W') ∨ (∃ pre, pre <+: T ∧ Jx pre W'))
set_option maxRecDepth 100000 in
set_option maxHeartbeats 2000000 in
theorem all_in (n m lp Bm P nq : Nat) (w0 W : World) (S T : List It) (hm : W.cell? ⟨Bm, 0, none⟩ = some (.pointer (some ⟨P, 0, none⟩))) (h : QHas w0 W P nq S) (hT : Rising lt T) (hp : T.Perm S) (J Jx : List It → World → Prop)
    (hJ : ∀ s A C, J s A → Turned W.heap.size A C → J s C) (hY : Owed m lp T.length J Jx) (h0 : J [] W) :
    CallsIn Fence.wide n Try.prog 69 #[.func (.yield lp) #[] #[], .pointer (some ⟨Bm, 0, none⟩)] W (Walked T J Jx) := by
  unfold Walked
  have gh := Lib.hid h
  have gT := Lib.hid hT
  have gp := Lib.hid hp
  have gJ := Lib.hid hJ
  have g0 := Lib.hid h0
  have gY := Lib.hid hY
  clear h hT hp hJ h0 hY
  refine callsIn_of_wp Try.func69 rfl trivial ?_ rfl
  simp only [Try.ntmps69, List.size_toArray, List.length_cons, List.length_nil, Nat.reduceAdd, Nat.reduceSub, Array.replicate_succ, Array.replicate_zero, List.push_toArray, List.append_toArray, List.nil_append, List.cons_append]
  gi_wp2_with fail
  refine ⟨trivial, (fun h => by cases h), (callsIn_wide.2 (has_copy gh.out)).mono ?_⟩
  rintro e w1 ⟨rfl, g1⟩
  have gR : Hid (Rest w1 W.heap.size W.heap.size nq T ∧ J [] w1) := by
    show Rest w1 W.heap.size W.heap.size nq T ∧ J [] w1
    obtain ⟨v, G, pl, h1, h2, h3⟩ := g1.out
    exact ⟨⟨v, G, pl, h1, h2.trans gp.out.symm⟩, gJ.out _ _ _ g0.out (turned_below h3)⟩
  obtain ⟨B, hB⟩ : ∃ B, B = W.heap.size := ⟨_, rfl⟩
  rw [← hB] at gR gJ ⊢
  clear g1 hB g0
  gi_wp2_with fail
  gi_loopg [9] T.length (fun k a wr => ∃ pre t, T = pre ++ t ∧ k = t.length ∧ a = a ∧ Hid (Rest wr B B nq t ∧ J pre wr))
  case atStart => exact ⟨[], T, rfl, rfl, rfl, gR.out⟩
  case round =>
    obtain ⟨pre, t, he, hk, _, gI⟩ := hrel
    clear gR
    cases t with
    | nil =>
      have ge := Lib.hid he
      clear he hk
      gi_wp2_with fail
      refine ⟨trivial, (fun h => by cases h), (callsIn_wide.2 (rest_none gI.out.1)).mono ?_⟩
      rintro e w2 ⟨rfl, rfl⟩
      gi_wp2_with fail
      refine ⟨(fun f hf => (by cases hf)), ?_⟩
      gi_wp2_with fail
      refine bodyPost_ret (results_none rfl _ _ _) rfl ?_
      refine ⟨rfl, .inl ⟨pre, ?_, gI.out.2⟩⟩
      have := ge.out
      rw [List.append_nil] at this
      exact this.symm
    | cons x t =>
      have ge := Lib.hid he
      have gk := Lib.hid hk
      have gr := Lib.hid (show Rising lt (x :: t) by have := gT.out; rw [he] at this; exact (List.pairwise_append.1 this).2.1)
      have hlen : pre.length < T.length := by rw [he, List.length_append, List.length_cons]; omega
      clear he hk
      gi_wp2_with fail
      refine ⟨trivial, (fun h => by cases h), (callsIn_wide.2 (rest_pop gI.out.1 gr.out)).mono ?_⟩
      rintro e w2 ⟨rfl, g2⟩
      obtain ⟨fn, tmps, assign, body, hy, hR⟩ := yield_any (n - 1) (gY.out pre x w2 (gJ.out _ _ _ gI.out.2 g2.out.2) hlen)
      unfold encs at hy
      clear hlen
      gi_wp2_with fail
      refine ⟨(fun h => (by cases h)), hR.mono ?_⟩
      rintro e w3 (⟨rfl, hJ3, hs3⟩ | ⟨rfl, hx3⟩)
      · have g3 := Lib.hid (And.intro (rest_spares g2.out.1 hs3) hJ3)
        clear hJ3 hs3 hR hy
        gi_wp2_with fail
        go_roundg t.length
        case measure => rw [gk.out]; simp
        case rel => exact ⟨pre ++ [x], t, by rw [ge.out]; simp, rfl, trivial, g3.out⟩
      · have g3 := Lib.hid hx3
        clear hx3 hR hy
        gi_wp2_with fail
        refine bodyPost_ret (results_none rfl _ _ _) rfl ?_
        refine ⟨rfl, .inr ⟨pre ++ [x], ?_, g3.out⟩⟩
        rw [ge.out]
        exact ⟨t, by simp⟩
set_option maxHeartbeats 1000000 in
theorem all_any (p : Option Addr) (w : World) : Calls Try.prog 27 #[.pointer p] w fun e w' => e = .returned (.func (.func 69) #[] #[.pointer (some ⟨w.heap.size, 0, none⟩)]) ∧ w' = w.alloc (.cells #[.pointer p] 24) := by
  go_enter Try.func27, Try.ntmps27
  go_wp2
  go_ret
  exact ⟨rfl, rfl⟩
/-- All's iterator: the items in their order. -/
theorem all_turns (n Bm P nq : Nat) (w0 w : World) (S T : List It) (hm : w.cell? ⟨Bm, 0, none⟩ = some (.pointer (some ⟨P, 0, none⟩))) (h : QHas w0 w P nq S) (hT : Rising lt T) (hp : T.Perm S) :
    SeqTurns n 69 #[.pointer (some ⟨Bm, 0, none⟩)] encs (fun ys => ys = T) (fun pre => pre <+: T) T.length w := fun lp J Jx W hb hJ _ hY h0 =>
  (all_in n (n - 1) lp Bm P nq w0 W S T ((hb.cell (lt_of_cell hm)).trans hm) (h.below hb) hT hp J Jx hJ hY h0).mono fun _ _ h => ⟨⟨_, h.1⟩, h.2⟩
end Go.Proofs.Ytepgdeokjgjapaa.QJ
