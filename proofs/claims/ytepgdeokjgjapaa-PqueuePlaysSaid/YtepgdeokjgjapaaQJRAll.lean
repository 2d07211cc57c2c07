/- The reference's queue: All. -/
import Derived.Test.YtepgdeokjgjapaaQJRCopy
import Derived.Deep.AppendLies
namespace Go.Proofs.Ytepgdeokjgjapaa.QJ
open Go.RowKit
theorem own_off {w : World} {B e k n : Nat} {v : Value} {xs : List Value} {cs : Array Value} {t : TypeId} {fr : Nat × Nat} (h : w.ownsRow B e 1 v n xs) (hk : w.heap[k]? = some (.cells cs t fr)) (ht : t ≠ e) : v.ownBlock ≠ some k := by
  rcases h.2 with ⟨rfl, _⟩ | ⟨g, cap, cur, rfl, _, hg, _⟩
  · simp [Value.ownBlock]
  · intro hh
    simp only [Value.ownBlock, Option.some.injEq] at hh
    subst hh
    rw [hg] at hk
    cases hk
    exact ht rfl
/-- The rows of ids and numbers so far. -/
structure Rows2 (w wr : World) (bP : Nat) (vi vo : Value) (pre : List It) : Prop where
  ids : wr.ownsRow w.heap.size 3 1 vi pre.length (pre.map fun x => .int .i64 (x.1 : Nat))
  nums : wr.ownsRow w.heap.size 2 1 vo pre.length (pre.map fun x => .int .i64 x.2)
  off : vo.ownBlock ≠ some bP
  low : Below w.heap.size w wr
section
variable {w wr w' : World} {B R n bI cI bP cP : Nat} {L : List Mk} {vi vo : Value} {pre : List It}
theorem Rows2.rc (h : Rows2 w wr bP vi vo pre) (r : ROwn wr w.heap.size R n bI cI bP cP L) (hc : RC wr w' bI bP) : Rows2 w w' bP vi vo pre := by
  obtain ⟨c1, e1⟩ := row_type r.rowI
  obtain ⟨c2, e2⟩ := row_type r.rowP
  have i1 := own_off h.ids e1 (by decide)
  have i2 := own_off h.ids e2 (by decide)
  have o1 := own_off h.nums e1 (by decide)
  have b1 : w.heap.size ≤ bI := (r.rowI.lt bI rfl).1
  have b2 : w.heap.size ≤ bP := (r.rowP.lt bP rfl).1
  refine ⟨owns_of_block h.ids fun g hg => hc.block g (h.ids.lt g hg).2 ?_, owns_of_block h.nums fun g hg => hc.block g (h.nums.lt g hg).2 ?_, h.off, ?_⟩
  · rintro (rfl | rfl)
    · exact i1 hg
    · exact i2 hg
  · rintro (rfl | rfl)
    · exact o1 hg
    · exact h.off hg
  · exact ⟨hc.os.trans h.low.os, hc.tape.trans h.low.tape, hc.output.trans h.low.output, Nat.le_trans h.low.size hc.size, fun k hk => (hc.block k (Nat.lt_of_lt_of_le hk h.low.size) (by rintro (rfl | rfl) <;> omega)).trans (h.low.block k hk)⟩
theorem Rows2.below (h : Rows2 w wr bP vi vo pre) (hb : Below wr.heap.size wr w') : Rows2 w w' bP vi vo pre :=
  ⟨owns_of_block h.ids fun g hg => hb.block g (h.ids.lt g hg).2, owns_of_block h.nums fun g hg => hb.block g (h.nums.lt g hg).2, h.off, h.low.trans (hb.mono h.low.size)⟩
theorem ROwn.grown {row : Option Nat} (h : ROwn wr B R n bI cI bP cP L) (hg : wr.grownBy w' row) (h1 : some R ≠ row) (h2 : some bI ≠ row) (h3 : some bP ≠ row) : ROwn w' B R n bI cI bP cP L :=
  ⟨h.len, h.pos, h.top, h.hR, h.ne, h.neI, h.neP, (hg.block R (lt_of_heap h.blk) h1).trans h.blk, owns_of_block h.rowI fun g hg' => by cases hg'; exact hg.block bI (h.rowI.lt bI rfl).2 h2, owns_of_block h.rowP fun g hg' => by cases hg'; exact hg.block bP (h.rowP.lt bP rfl).2 h3⟩
/-- An id appended: what stands. -/
theorem ids_on (h : Rows2 w wr bP vi vo pre) (r : ROwn wr w.heap.size R n bI cI bP cP L) {x : It} {v' : Value} {o : Obj} (hown : w'.ownsRow w.heap.size 3 1 v' (pre.length + 1) (pre.map (fun x : It => Value.int .i64 (x.1 : Nat)) ++ [.int .i64 (x.1 : Nat)])) (hg : (wr.alloc o).grownBy w' vi.ownBlock) :
    ROwn w' w.heap.size R n bI cI bP cP L ∧ w'.ownsRow w.heap.size 3 1 v' (pre ++ [x]).length ((pre ++ [x]).map fun x => .int .i64 (x.1 : Nat)) ∧ w'.ownsRow w.heap.size 2 1 vo pre.length (pre.map fun x => .int .i64 x.2) ∧ Below w.heap.size w w' := by
  have r1 := r.below ((Below.refl _ wr).alloc (Nat.le_refl _) o)
  obtain ⟨c1, e1⟩ := row_type r1.rowI
  obtain ⟨c2, e2⟩ := row_type r1.rowP
  have hi := h.ids.alloc o
  have hn := h.nums.alloc o
  refine ⟨r1.grown hg (own_off hi r1.blk (by decide)).symm (own_off hi e1 (by decide)).symm (own_off hi e2 (by decide)).symm, by simpa using hown, owns_of_block hn fun g hg' => hg.block g (hn.lt g hg').2 ?_, ?_⟩
  · rcases hn.2 with ⟨rfl, _⟩ | ⟨g', cap, cur, rfl, _, hh, _⟩
    · cases hg'
    · cases hg'
      exact (own_off hi hh (by decide)).symm
  · exact (h.low.alloc h.low.size o).grown hg (by simp; have := h.low.size; omega) (fun k hk => (h.ids.lt k hk).1)
/-- A number appended: what stands. -/
theorem nums_on {o : Obj} {x : It} {vi' : Value} {g c : Nat} (r : ROwn wr w.heap.size R n bI cI bP cP L) (hi : wr.ownsRow w.heap.size 3 1 vi' (pre ++ [x]).length ((pre ++ [x]).map fun x => .int .i64 (x.1 : Nat))) (hn : wr.ownsRow w.heap.size 2 1 vo pre.length (pre.map fun x => .int .i64 x.2)) (hoff : vo.ownBlock ≠ some bP) (hb : Below w.heap.size w wr)
    (hown : w'.ownsRow w.heap.size 2 1 (.slice (some ⟨g, 0, none⟩) (pre.length + 1) c) (pre.length + 1) (pre.map (fun x : It => Value.int .i64 x.2) ++ [.int .i64 x.2])) (hg : (wr.alloc o).grownBy w' vo.ownBlock) (ha : vo.ownBlock = some g ∨ g = (wr.alloc o).heap.size) :
    ROwn w' w.heap.size R n bI cI bP cP L ∧ Rows2 w w' bP vi' (.slice (some ⟨g, 0, none⟩) (pre.length + 1) c) (pre ++ [x]) := by
  have r1 := r.below ((Below.refl _ wr).alloc (Nat.le_refl _) o)
  obtain ⟨c1, e1⟩ := row_type r1.rowI
  have hi1 := hi.alloc o
  have hn1 := hn.alloc o
  refine ⟨r1.grown hg (own_off hn1 r1.blk (by decide)).symm (own_off hn1 e1 (by decide)).symm hoff.symm, ⟨owns_of_block hi1 fun k hk => hg.block k (hi1.lt k hk).2 ?_, by simpa using hown, ?_, ?_⟩⟩
  · rcases hi1.2 with ⟨rfl, _⟩ | ⟨g', cap, cur, rfl, _, hh, _⟩
    · cases hk
    · cases hk
      exact (own_off hn1 hh (by decide)).symm
  · intro e
    obtain rfl : g = bP := by simpa [Value.ownBlock] using e
    rcases ha with ha | ha
    · exact hoff ha
    · have := (r1.rowP.lt g rfl).2
      omega
  · exact (hb.alloc hb.size o).grown hg (by simp; have := hb.size; omega) (fun k hk => (hn.lt k hk).1)
end
def lenOf : Value → Nat
  | .slice _ n _ => n
  | _ => 0
theorem len_of {w : World} {B e n : Nat} {v : Value} {xs : List Value} (h : w.ownsRow B e 1 v n xs) : lenOf v = n := by
  rcases h.2 with ⟨rfl, rfl⟩ | ⟨g, cap, cur, rfl, _⟩ <;> rfl
def RAlled (w : World) (T : List It) (e : Ending) (w' : World) : Prop :=
  ∃ vi vo, e = .returned (.tuple #[vi, vo]) ∧ w'.ownsRow w.heap.size 3 1 vi T.length (T.map fun x => .int .i64 (x.1 : Nat)) ∧ w'.ownsRow w.heap.size 2 1 vo T.length (T.map fun x => .int .i64 x.2) ∧ Below w.heap.size w w'
theorem infoN : (Try.prog.info? 3).map (fun i => (i.zero, i.size, i.bytes)) = some (some (.int .i64 0), 1, 8) := by kernel_rfl
theorem wr_size {w wr : World} (h : Below w.heap.size w wr) : w.heap.size ≤ wr.heap.size := h.size
set_option maxRecDepth 100000 in
set_option maxHeartbeats 4000000 in
theorem rall {w : World} {B R n bI cI bP cP : Nat} {L : List Mk} (h : ROwn w B R n bI cI bP cP L) (T : List It) (hT : Rising lt T) (hp : T.Perm (marked 0 L)) : Calls Try.prog 25 #[.pointer (some ⟨R, 0, none⟩)] w (RAlled w T) := by
  unfold RAlled
  have hlen : T.length ≤ 1024 := by
    rw [hp.length_eq, marked_len]
    exact Nat.le_trans List.countP_le_length (by rw [h.len]; exact h.top)
  obtain ⟨j0, hj0, hj1, hj2, hj3⟩ := info_parts infoN
  obtain ⟨k0, hk0, hk1, hk2, hk3⟩ := info_parts infoJ
  have gj := Lib.hid (And.intro hj0 (And.intro hj1 (And.intro hj2 hj3)))
  have gk := Lib.hid (And.intro hk0 (And.intro hk1 (And.intro hk2 hk3)))
  have gh := Lib.hid h
  have gT := Lib.hid (And.intro hT hp)
  have gN := Lib.hid hlen
  clear h hT hp hj0 hj1 hj2 hj3 hk0 hk1 hk2 hk3 hlen
  go_enter Try.func25, Try.ntmps25
  go_wp2_with fail
  refine (rcopy gh.out).mono ?_
  rintro e w1 ⟨R', bI', cI', bP', cP', rfl, hr, hb⟩
  have gR := Lib.hid hr
  have gB := Lib.hid hb
  clear hr hb
  go_wp2_with fail
  go_loopw [4, 5, 7, 8, 9] (fun vi vo _ _ _ wr => ∃ (pre t : List It) (L' : List Mk), T = pre ++ t ∧ Hid (ROwn wr w.heap.size R' n bI' cI' bP' cP' L' ∧ Rising lt t ∧ t.Perm (marked 0 L')) ∧ Hid (Rows2 w wr bP' vi vo pre)) (fun vi _ _ _ _ _ => T.length - lenOf vi)
  case atStart => exact ⟨[], T, L, rfl, ⟨gR.out, gT.out.1, gT.out.2⟩, ⟨World.ownsRow_nil _ _ _ _, World.ownsRow_nil _ _ _ _, by simp [Value.ownBlock], gB.out⟩⟩
  case round =>
    obtain ⟨pre, t, L', he, gI, gW⟩ := hrel
    have ge := Lib.hid he
    have hml := len_of gW.out.ids
    have gl := Lib.hid hml
    clear he hml
    cases t with
    | nil =>
      have e0 : L'.countP (·.1) = 0 := by rw [← marked_len L' 0, ← gI.out.2.2.length_eq]; rfl
      have gr := Lib.hid (show Calls Try.prog 67 #[.pointer (some ⟨R', 0, none⟩)] wr fun e w' => e = .returned (.int .i64 0) ∧ wr = w' by have := rlen gI.out.1; rw [e0] at this; exact this)
      have et : T = pre := by rw [ge.out, List.append_nil]
      have gf := Lib.hid (show RAlled w T (.returned (.tuple #[u4, u5])) wr from by rw [et]; exact ⟨u4, u5, rfl, gW.out.ids, gW.out.nums, gW.out.low⟩)
      clear e0 et
      go_wp2_with (go_at_call 67; refine gr.out.mono ?_; rintro e w' ⟨rfl, rfl⟩)
      go_ret2
      exact gf.out
    | cons x t =>
      obtain ⟨k, hk⟩ : ∃ k, k = t.length := ⟨_, rfl⟩
      have e0 : L'.countP (·.1) = k + 1 := by rw [← marked_len L' 0, ← gI.out.2.2.length_eq, hk]; rfl
      have gr := Lib.hid (show Calls Try.prog 67 #[.pointer (some ⟨R', 0, none⟩)] wr fun e w' => e = .returned (.int .i64 ((k : Int) + 1)) ∧ wr = w' by have := rlen gI.out.1; rw [e0] at this; exact this)
      have hkl : pre.length + 1 ≤ 1024 := by
        have h1 := congrArg List.length ge.out
        rw [List.length_append, List.length_cons] at h1
        have := gN.out
        omega
      have gb := Lib.hid (best_head gI.out.1.len gI.out.2.1 gI.out.2.2)
      obtain ⟨t', t1, _, t3⟩ := set_true (mem_marked0.1 (gI.out.2.2.mem_iff.1 (List.mem_cons_self ..))) x.2
      have gp := Lib.hid (show t.Perm (marked 0 (L'.set x.1 (false, x.2))) from ((gI.out.2.2.trans t1).cons_inv).trans t3.symm)
      have gt := Lib.hid (List.pairwise_cons.1 gI.out.2.1).2
      clear e0 t1 t3 hk
      go_wp2_with (go_at_call 67; refine gr.out.mono ?_; rintro e w' ⟨rfl, rfl⟩)
      refine (rpop gI.out.1 gb.out).mono ?_
      rintro e w2 ⟨rfl, r2, rc⟩
      have g2 := Lib.hid r2
      have gW2 := Lib.hid (gW.out.rc gI.out.1 rc)
      have hz2 := wr_size (gW.out.rc gI.out.1 rc).low
      clear r2 rc
      go_wp2_with (first
        | (at_builtin; refine wpList_append_lies _ rfl (.tmp 21) (.tmp 23) 41 rfl w.heap.size 3 j0 (.int .i64 0) 1 8 Try.underlying41 gj.out.1 gj.out.2.1 gj.out.2.2.1 gj.out.2.2.2 rfl (by omega) _ pre.length _ rfl (gW2.out.ids.alloc _) ⟨w2.heap.size, 0, none⟩ 1 1 [.int .i64 (x.1 : Nat)] rfl rfl (World.news_of_block (heap_alloc_new _ _)) (by simp [Value.oneCell']) (by omega) (by unfold maxLen; omega) (by omega) (by simp; omega) _ rfl ?_
           intro gi ci w3 o3 e3 _ _
           obtain ⟨r3, i3, n3, b3⟩ := ids_on gW2.out g2.out o3 e3
           have g3 := Lib.hid r3
           have gi3 := Lib.hid i3
           have gn3 := Lib.hid n3
           have gb3 := Lib.hid b3
           have hz3 := wr_size b3
           clear r3 i3 n3 b3 o3 e3)
        | (at_builtin; refine wpList_append_lies _ rfl (.tmp 25) (.tmp 27) 42 rfl w.heap.size 2 k0 (.int .i64 0) 1 8 Try.underlying42 gk.out.1 gk.out.2.1 gk.out.2.2.1 gk.out.2.2.2 rfl (by omega) _ pre.length _ rfl (gn3.out.alloc _) ⟨w3.heap.size, 0, none⟩ 1 1 [.int .i64 x.2] rfl rfl (World.news_of_block (heap_alloc_new _ _)) (by simp [Value.oneCell']) (by omega) (by unfold maxLen; omega) (by omega) (by simp; omega) _ rfl ?_
           intro gq cq w4 o4 e4 a4 _
           have g4 := Lib.hid (nums_on g3.out gi3.out gn3.out gW2.out.off gb3.out o4 e4 a4)
           clear o4 e4 a4))
      go_roundw
      case rel => exact ⟨pre ++ [x], t, _, by rw [ge.out, List.append_assoc]; rfl, ⟨g4.out.1, gt.out, gp.out⟩, g4.out.2⟩
      case measure =>
        have h1 := congrArg List.length ge.out
        rw [List.length_append, List.length_cons] at h1
        have h2 := gl.out
        rw [h2]
        show T.length - (pre.length + 1) < _
        omega
end Go.Proofs.Ytepgdeokjgjapaa.QJ
