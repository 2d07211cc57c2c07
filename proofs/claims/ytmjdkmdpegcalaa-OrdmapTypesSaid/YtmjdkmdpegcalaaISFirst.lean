/- From, first, Min, Ceil. -/
import Derived.Test.YtmjdkmdpegcalaaISIter
namespace Go.Proofs.Ytmjdkmdpegcalaa.IS
open Go.RowKit Go.Shelf Go.Sort Go.Lib
attribute [local go_sem] Oper.semAt_some

set_option maxHeartbeats 1000000 in
theorem from_any (p : Option Addr) (k : K) (w : World) : Calls Try.prog 57 #[.pointer p, (.int .i64 (k))] w fun e w' => e = .returned (.func (.func 128) #[] #[.pointer (some ⟨w.heap.size, 0, none⟩), .pointer (some ⟨w.heap.size + 1, 0, none⟩)]) ∧ w' = (w.alloc (.cells #[.pointer p] 103)).alloc (.cells #[(.int .i64 (k))] 3) := by
  go_enter Try.func57, Try.ntmps57
  go_wp2
  go_ret
  exact ⟨rfl, rfl⟩
/-- From's iterator: the items from the key on. -/
theorem from_stops (n n₀ Bm Bk : Nat) (p A : Option Addr) (c : Nat) (l : List (K × V)) (k : K) (w : World) (hm : w.cell? ⟨Bm, 0, none⟩ = some (.pointer p)) (hk : w.cell? ⟨Bk, 0, none⟩ = some (.int .i64 (k))) (h : Has w p A c l) (hA : Under n₀ A) (hW : n₀ ≤ w.heap.size) :
    SeqStopsK Fence.wide n Try.prog 128 #[.pointer (some ⟨Bm, 0, none⟩), .pointer (some ⟨Bk, 0, none⟩)] encs (Below n₀) (fun ys => ys = l.drop (rkB lt (keysOf l) k)) (fun pre => pre <+: l.drop (rkB lt (keysOf l) k)) (l.drop (rkB lt (keysOf l) k)).length w := fun lp J Jx W hb hJ _ hY h0 =>
  callsIn_wide.2 ((from1_any (n - 1) lp n₀ Bm Bk p A c l k J Jx (fun s W W' hs hg => hJ s W W' none hs hg (fun r e => by cases e)) hY W ((hb.cell (lt_of_cell hm)).trans hm) ((hb.cell (lt_of_cell hk)).trans hk) (h.below hb) hA (Nat.le_trans hW hb.size) h0).mono fun e w' h => ⟨⟨_, h.1⟩, h.2⟩)

set_option maxRecDepth 100000 in
set_option maxHeartbeats 4000000 in
/-- The first of what an iterator yields. -/
theorem first_any (gf : Nat) (lb : Array Value) (xs : List (K × V)) (n₀ : Nat) (w0 w : World) (hn : n₀ ≤ w.heap.size) (hb0 : Below w0.heap.size w0 w) (eg : ∀ args w, (callFunc gf args).run Try.prog w = .ok (.enter gf args) w)
    (hseq : ∀ n, SeqStopsK Fence.wide n Try.prog gf lb encs (Below n₀) (fun ys => ys = xs) (fun pre => pre <+: xs) xs.length w0) :
    Calls Try.prog 126 #[.func (.func gf) #[] lb] w (AnsOf w xs.head?) := by
  unfold AnsOf
  refine (callsIn_wide (n := 3)).1 ?_
  refine callsIn_of_wp_marks Try.func126 rfl trivial ?_ rfl
  simp only [Try.ntmps126, List.size_toArray, List.length_cons, List.length_nil, Nat.reduceAdd, Nat.reduceSub, Array.replicate_succ, Array.replicate_zero, List.push_toArray, List.append_toArray, List.nil_append, List.cons_append]
  gi_wp2
  have b0 := Boxed.new w 3 (.int .i64 (0))
  have b1 := Boxed.new (w.alloc (.cells #[(.int .i64 (0))] 3)) 9 (.string (⟨#[]⟩))
  have b2 := Boxed.new ((w.alloc (.cells #[(.int .i64 (0))] 3)).alloc (.cells #[(.string (⟨#[]⟩))] 9)) 4 (.bool false)
  simp only [World.size_alloc] at b1 b2
  have hB0 : Below w.heap.size w (((w.alloc (.cells #[(.int .i64 (0))] 3)).alloc (.cells #[(.string (⟨#[]⟩))] 9)).alloc (.cells #[.bool false] 4)) := (((Below.refl _ w).alloc (Nat.le_refl _) _).alloc (by simp) _).alloc (by simp; omega) _
  refine wpIn_rangeFunc_ownF rfl (by omega) (gf := gf) (lb := lb) rfl trivial eg (hseq 2) belowK_t (belowK_b (by simp; omega)) (hb0.trans (hB0.mono hb0.size)) (fun _ => rfl)
    (fun pre W => ((pre = [] ∧ Boxed W w.heap.size 3 (.int .i64 (0))) ∧ Boxed W (w.heap.size + 1) 9 (.string (⟨#[]⟩)) ∧ Boxed W (w.heap.size + 1 + 1) 4 (.bool false)) ∧ Below w.heap.size w W)
    (fun c pre W => (∃ x, (c = .ret ∧ pre = [x]) ∧ Boxed W w.heap.size 3 (.int .i64 (x.1)) ∧ Boxed W (w.heap.size + 1) 9 (.string (x.2)) ∧ Boxed W (w.heap.size + 1 + 1) 4 (.bool true)) ∧ Below w.heap.size w W)
    (OwnFrom.and (Own.from (fun s A B row hs hg hr => ⟨⟨hs.1.1, boxed_own _ _ (fun _ : Unit => (.int .i64 (0))) () A B row hs.1.2 hg hr⟩, boxed_own _ _ (fun _ : Unit => (.string (⟨#[]⟩))) () A B row hs.2.1 hg hr, boxed_own _ _ (fun _ : Unit => Value.bool false) () A B row hs.2.2 hg hr⟩) _) (ownFrom_below (Nat.le_refl _) (by simp; omega)))
    (fun c => OwnFrom.and (Own.from (fun s A B row hs hg hr => by obtain ⟨x, h0, h1, h2, h3⟩ := hs; exact ⟨x, h0, boxed_own _ _ (fun _ : Unit => (.int .i64 (x.1))) () A B row h1 hg hr, boxed_own _ _ (fun _ : Unit => (.string (x.2))) () A B row h2 hg hr, boxed_own _ _ (fun _ : Unit => Value.bool true) () A B row h3 hg hr⟩) _) (ownFrom_below (Nat.le_refl _) (by simp; omega)))
    ⟨⟨⟨rfl, (b0.alloc _).alloc _⟩, b1.alloc _, b2⟩, hB0⟩
    (fun x => { tmps := #[.func (.func gf) #[] lb, undef, .pointer (some ⟨w.heap.size, 0, none⟩), .pointer (some ⟨w.heap.size + 1, 0, none⟩), .pointer (some ⟨w.heap.size + 1 + 1, 0, none⟩), (.int .i64 (x.1)), (.string (x.2)), undef, .func (.func gf) #[] lb, (.int .i64 (x.1)), (.string (x.2)), undef, undef, undef, undef, undef, undef], defers := [] }) ?assign ?body ?done ?stop
  case assign =>
    intro l x W K hK
    unfold encs
    gi_wp2
    exact hK
  case body =>
    rintro l pre x W ⟨⟨⟨rfl, h0⟩, h1, h2⟩, hB⟩ _
    have q0 := h0.cell
    have q1 := h1.cell
    have q2 := h2.cell
    have f0 := h0.frozen
    have f1 := h1.frozen
    have f2 := h2.frozen
    gi_wp2
    exact ⟨((KeepsOthers.setCell _ _ _).trans (KeepsOthers.setCell _ _ _)).trans (KeepsOthers.setCell _ _ _),
      ⟨x, ⟨rfl, rfl⟩, ((h0.set _).other (by omega) _).other (by omega) _, ((h1.other (by omega) _).set _).other (by omega) _, ((h2.other (by omega) _).other (by omega) _).set _⟩,
      ((hB.setCell (p := ⟨w.heap.size, 0, none⟩) (Nat.le_refl _) _).setCell (p := ⟨w.heap.size + 1, 0, none⟩) (by simp) _).setCell (p := ⟨w.heap.size + 1 + 1, 0, none⟩) (by simp; omega) _⟩
  case done =>
    rintro D ys W hD rfl ⟨⟨⟨hx, h0⟩, h1, h2⟩, hB⟩ hK
    subst hx
    have g0 := (h0.alloc (.cells #[(.int .i64 (0)), (.string (⟨#[]⟩))] 177))
    have g1 := (h1.alloc (.cells #[(.int .i64 (0)), (.string (⟨#[]⟩))] 177))
    have g2 := (h2.alloc (.cells #[(.int .i64 (0)), (.string (⟨#[]⟩))] 177))
    have q0 := g0.cell
    have q1 := g1.cell
    have q2 := g2.cell
    have f0 := g0.frozen
    have f1 := g1.frozen
    have f2 := g2.frozen
    have hne : W.heap.size ≠ w.heap.size := by have := h0.lt; omega
    gi_wp2
    gi_region
    all_goals gi_wp2
    all_goals
      have kk := (((((KeepsOthers.alloc W (.cells #[(.int .i64 (0)), (.string (⟨#[]⟩))] 177)).trans (KeepsOthers.setCell _ ⟨w.heap.size, 0, none⟩ (.int .i64 (0)))).trans (KeepsOthers.setCell _ ⟨w.heap.size + 1, 0, none⟩ (.string (⟨#[]⟩)))).trans (KeepsOthers.setCell _ ⟨w.heap.size + 1 + 1, 0, none⟩ (.bool false))).trans (KeepsOthers.drew _))
      have hK' := kk.same D _ hK rfl
      refine ⟨by simp, .inl ⟨_, _, rfl, run_takeDeferred hK', ?_⟩⟩
      have r0 : Boxed ((((W.alloc (.cells #[(.int .i64 (0)), (.string (⟨#[]⟩))] 177)).setCell ⟨w.heap.size, 0, none⟩ (.int .i64 (0))).setCell ⟨w.heap.size + 1, 0, none⟩ (.string (⟨#[]⟩))).setCell ⟨w.heap.size + 1 + 1, 0, none⟩ (.bool false)).drew w.heap.size 3 (.int .i64 (0)) := ((g0.set _).other (by omega) _).other (by omega) _
      have r1 : Boxed ((((W.alloc (.cells #[(.int .i64 (0)), (.string (⟨#[]⟩))] 177)).setCell ⟨w.heap.size, 0, none⟩ (.int .i64 (0))).setCell ⟨w.heap.size + 1, 0, none⟩ (.string (⟨#[]⟩))).setCell ⟨w.heap.size + 1 + 1, 0, none⟩ (.bool false)).drew (w.heap.size + 1) 9 (.string (⟨#[]⟩)) := ((g1.other (by omega) _).set _).other (by omega) _
      have r2 : Boxed ((((W.alloc (.cells #[(.int .i64 (0)), (.string (⟨#[]⟩))] 177)).setCell ⟨w.heap.size, 0, none⟩ (.int .i64 (0))).setCell ⟨w.heap.size + 1, 0, none⟩ (.string (⟨#[]⟩))).setCell ⟨w.heap.size + 1 + 1, 0, none⟩ (.bool false)).drew (w.heap.size + 1 + 1) 4 (.bool false) := ((g2.other (by omega) _).other (by omega) _).set _
      have q0 := cell_kept r0.cell (grownBy_putObj' _ D (.deferred none)) (fun r e => by cases e; exact ⟨_, hK', rfl⟩)
      have q1 := cell_kept r1.cell (grownBy_putObj' _ D (.deferred none)) (fun r e => by cases e; exact ⟨_, hK', rfl⟩)
      have q2 := cell_kept r2.cell (grownBy_putObj' _ D (.deferred none)) (fun r e => by cases e; exact ⟨_, hK', rfl⟩)
      refine ⟨.tuple #[(.int .i64 (0)), (.string (⟨#[]⟩)), .bool false], ?_, rfl, (((((hB.alloc hB.size _).setCell (p := ⟨w.heap.size, 0, none⟩) (Nat.le_refl _) _).setCell (p := ⟨w.heap.size + 1, 0, none⟩) (by simp) _).setCell (p := ⟨w.heap.size + 1 + 1, 0, none⟩) (by simp; omega) _).drew).trans (belowK_b (w := w) (Nat.le_refl _) _ D _ _ (by simp at hD; omega) hK' rfl rfl)⟩
      simp [results, Try.f126, go_sem, q0, q1, q2]
  case stop =>
    rintro D c pre W hD hpre ⟨⟨x, ⟨rfl, rfl⟩, h0, h1, h2⟩, hB⟩ hK
    gi_wp2
    refine ⟨by simp, .inl ⟨_, _, rfl, run_takeDeferred hK, ?_⟩⟩
    have q0 := cell_kept h0.cell (grownBy_putObj' _ D (.deferred none)) (fun r e => by cases e; exact ⟨_, hK, rfl⟩)
    have q1 := cell_kept h1.cell (grownBy_putObj' _ D (.deferred none)) (fun r e => by cases e; exact ⟨_, hK, rfl⟩)
    have q2 := cell_kept h2.cell (grownBy_putObj' _ D (.deferred none)) (fun r e => by cases e; exact ⟨_, hK, rfl⟩)
    have hh : xs.head? = some x := by obtain ⟨t, rfl⟩ := hpre; rfl
    rw [hh]
    refine ⟨.tuple #[(.int .i64 (x.1)), (.string (x.2)), .bool true], ?_, rfl, hB.trans (belowK_b (w := w) (Nat.le_refl _) W D _ _ (by simp at hD; omega) hK rfl rfl)⟩
    simp [results, Try.f126, go_sem, q0, q1, q2]
end Go.Proofs.Ytmjdkmdpegcalaa.IS
