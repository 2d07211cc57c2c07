/- A range over a function whose iterator works on a queue of its own: what it may turn, what a round keeps of it, and the law of the statement. -/
import Derived.Test.YtepgdeokjgjapaaQJMore
import Derived.RangeFuncBox
import Derived.RangeFuncNested
import Derived.RangeFuncBound
import Derived.RangeFuncCalls
import Derived.RangeFuncLeaves
namespace Go.Proofs.Ytepgdeokjgjapaa.QJ
open Go.RowKit
/-- Block k is a queue's, or the row of a queue's heap. -/
def Mine (W : World) (k : Nat) : Prop := ∃ cs t fr, W.heap[k]? = some (.cells cs t fr) ∧ (t = 53 ∨ t = 104)
/-- Only blocks of queues, from B on, have turned; others are new. -/
structure Turned (B : Nat) (A C : World) : Prop where
  os : C.os = A.os
  tape : C.tape = A.tape
  output : C.output = A.output
  size : A.heap.size ≤ C.heap.size
  block : ∀ k, k < A.heap.size → (k < B ∨ ¬ Mine A k) → C.heap[k]? = A.heap[k]?
/-- The blocks of queues stand as they stood. -/
structure Spares (A C : World) : Prop where
  size : A.heap.size ≤ C.heap.size
  block : ∀ k, Mine A k → C.heap[k]? = A.heap[k]?
theorem Spares.refl (A : World) : Spares A A := ⟨Nat.le_refl _, fun _ _ => rfl⟩
theorem Spares.trans {A B C : World} (h : Spares A B) (k : Spares B C) : Spares A C :=
  ⟨Nat.le_trans h.size k.size, fun i hi => (k.block i (by obtain ⟨cs, t, fr, h1, h2⟩ := hi; exact ⟨cs, t, fr, (h.block i ⟨cs, t, fr, h1, h2⟩).trans h1, h2⟩)).trans (h.block i hi)⟩
theorem mine_lt {W : World} {k : Nat} (h : Mine W k) : k < W.heap.size := by
  obtain ⟨cs, t, fr, h1, _⟩ := h
  exact (Array.getElem?_eq_some_iff.1 h1).1
/-- A step that turns at most one block, which is no queue's. -/
theorem Spares.of_grownBy {A C : World} {row : Option Nat} (hg : A.grownBy C row) (hr : ∀ j, row = some j → ¬ Mine A j) : Spares A C :=
  ⟨hg.size, fun k hk => hg.block k (mine_lt hk) (fun e => hr k e.symm hk)⟩
theorem Turned.refl (B : Nat) (A : World) : Turned B A A := ⟨rfl, rfl, rfl, Nat.le_refl _, fun _ _ _ => rfl⟩
/-- What a loop's invariant owes: it speaks of no object that the loop or the iterator lays. -/
structure Abid {β : Type} (B : Nat) (I : β → World → Prop) : Prop where
  own : OwnFrom B I
  turn : ∀ s A C, I s A → Turned B A C → I s C
/-- The contract of an iterator that works on a queue of its own. -/
def SeqTurns {α : Type} (n g : Nat) (lb : Array Value) (encs : α → Array Value) (S Sp : List α → Prop) (N : Nat) (w : World) : Prop :=
  ∀ (l : Nat) (J Jx : List α → World → Prop) (W : World), Below w.heap.size w W →
    (∀ s A C, J s A → Turned W.heap.size A C → J s C) → (∀ s A C, Jx s A → Turned W.heap.size A C → Jx s C) →
    (∀ pre x V, J pre V → pre.length < N → YieldAt Fence.wide (n - 1) Try.prog l (encs x) V fun e V' =>
      (e = .returned (.bool true) ∧ J (pre ++ [x]) V' ∧ Spares V V') ∨ (e = .returned (.bool false) ∧ Jx (pre ++ [x]) V')) →
    J [] W →
    CallsIn Fence.wide n Try.prog g (#[.func (.yield l) #[] #[]] ++ lb) W fun e W' => (∃ v, e = .returned v) ∧ ((∃ xs, S xs ∧ J xs W') ∨ (∃ pre, Sp pre ∧ Jx pre W'))
/-- How a round's body may end. -/
def Ended {α : Type} (B : Nat) (I : List α → World → Prop) (Ix : Code → List α → World → Prop) (xs : List α) (V : World) : Exit → Act → World → Prop
  | .normal, _, V' => (KeepsFrom B V V' ∧ Spares V V') ∧ I xs V'
  | .ret, _, V' => KeepsFrom B V V' ∧ Ix .ret xs V'
  | .exit id, _, V' => KeepsFrom B V V' ∧ Ix (.exit id) xs V'
  | .goto t, _, V' => KeepsFrom B V V' ∧ Ix (.goto t) xs V'
  | .panic _, _, _ => False
  | .outgrown, _, _ => False
/-- A loop's record at block k, the list of its rounds' deferred calls (none) at the block ahead of it. -/
def Laid (V : World) (k : Nat) (r : Loop) : Prop := V.heap[k + 1]? = some (.loop r) ∧ V.heap[k]? = some (.deferred (some []))
theorem not_mine {V : World} {k : Nat} {o : Obj} (h : V.heap[k]? = some o) (ho : o.isCells = false) : ¬ Mine V k := by
  rintro ⟨cs, t, fr, h1, _⟩
  rw [h] at h1
  cases h1
  cases ho
theorem Laid.turned {A C : World} {k B : Nat} {r : Loop} (h : Laid A k r) (ht : Turned B A C) : Laid C k r :=
  ⟨(ht.block _ (QJ.lt_of_heap h.1) (.inr (not_mine h.1 rfl))).trans h.1, (ht.block _ (QJ.lt_of_heap h.2) (.inr (not_mine h.2 rfl))).trans h.2⟩
theorem Laid.kept {A C : World} {k : Nat} {r : Loop} (h : Laid A k r) (hk : KeepsFrom k A C) : Laid C k r :=
  ⟨hk.same _ _ (by omega) h.1 rfl, hk.same _ _ (Nat.le_refl _) h.2 rfl⟩
theorem Laid.put {A : World} {k : Nat} {r : Loop} (h : Laid A k r) (r' : Loop) : Laid (A.putObj (k + 1) (.loop r')) k r' :=
  ⟨World.putObj_heap_same (QJ.lt_of_heap h.1), (World.putObj_heap_other (by omega)).trans h.2⟩
theorem spares_put {A : World} {k : Nat} {r : Loop} (h : Laid A k r) (o : Obj) : Spares A (A.putObj (k + 1) o) :=
  Spares.of_grownBy (grownBy_putObj' A (k + 1) o) (fun j e => by cases e; exact not_mine h.1 rfl)
set_option maxHeartbeats 1000000 in
/-- The statement 'for .. := range seq' over such an iterator. -/
theorem range_turns {α : Type} {n : Nat} {g : Operand} {ps : Array Tmp} {assign body : Code} {Q : Exit → Act → World → Prop} {a : Act} {w : World} (h1 : 1 ≤ n) {gf : Nat} {lb : Array Value}
    (hg : a.eval g = .func (.func gf) #[] lb) (eg : ∀ args w, (callFunc gf args).run Try.prog w = .ok (.enter gf args) w)
    {encs : α → Array Value} {S Sp : List α → Prop} {N : Nat} (hseq : SeqTurns (n - 1) gf lb encs S Sp N w) (hps : ∀ x, (encs x).size = ps.size)
    (I : List α → World → Prop) (Ix : Code → List α → World → Prop) (hI : Abid w.heap.size I) (hIx : ∀ c, Abid w.heap.size (Ix c)) (h0 : I [] w) (a₁ : α → Act)
    (assigned : ∀ (l : Nat) (x : α) (V : World) (K : Act → World → Prop), K (a₁ x) V →
      assign.wpIn (Fence.wide.inRound l) (n - 1 - 1) Try.prog (Exit.then K (fun _ _ _ => False)) { tmps := (ps.zip (encs x)).foldl (fun t (p, v) => t.setIfInBounds p v) a.tmps, defers := [] } V)
    (round : ∀ (l : Nat) (pre : List α) (x : α) (V : World), I pre V → pre.length < N → w.heap.size ≤ V.heap.size → body.wpIn (Fence.wide.inRound l) (n - 1 - 1) Try.prog (Ended w.heap.size I Ix (pre ++ [x]) V) (a₁ x) V)
    (done : ∀ (D : Nat) (xs : List α) (V : World), w.heap.size ≤ D → S xs → I xs V → V.heap[D]? = some (.deferred (some [])) → Q .normal { a with defers := { target := .collected D, args := #[] } :: a.defers } V)
    (stop : ∀ (D : Nat) (c : Code) (pre : List α) (V : World), w.heap.size ≤ D → Sp pre → Ix c pre V → V.heap[D]? = some (.deferred (some [])) → c.wpIn Fence.wide n Try.prog Q { a with defers := { target := .collected D, args := #[] } :: a.defers } V) :
    (Code.rangeFunc g ps assign body).wpIn Fence.wide n Try.prog Q a w := by
  obtain ⟨B, hB⟩ : ∃ B, B = w.heap.size := ⟨_, rfl⟩
  rw [← hB] at hI hIx round done stop
  refine wpIn_rangeFunc fun fn _ => ?_
  -- the record, by its state and the jump that is pending
  obtain ⟨rec_, hr⟩ : ∃ f : LoopState → Option Code → Loop, f = fun st j => ⟨st, j, fn, a.tmps, ps, assign, body, B⟩ := ⟨_, rfl⟩
  have hbusy : ({ rec_ .ready none with state := .busy } : Loop) = rec_ .busy none := by rw [hr]
  have hover : ∀ (st : LoopState) (j : Option Code), ({ rec_ .busy none with state := st, pending := j } : Loop) = rec_ st j := fun st j => by rw [hr]
  have hready : (rec_ .ready none).state = .ready := by rw [hr]
  have hps' : (rec_ .ready none).params = ps := by rw [hr]
  have hyield : ∀ (V : World) (x : α), (Instr.yield (B + 1) (encs x)).run Try.prog V = .ok (.round (B + 1) (rec_ .ready none).fn (((rec_ .ready none).params.zip (encs x)).foldl (fun tmps (t, u) => tmps.setIfInBounds t u) (rec_ .ready none).tmps) (rec_ .ready none).assign (rec_ .ready none).body) V →
      (Instr.yield (B + 1) (encs x)).run Try.prog V = .ok (.round (B + 1) fn ((ps.zip (encs x)).foldl (fun tmps (t, u) => tmps.setIfInBounds t u) a.tmps) assign body) V := fun V x h => by rw [hr] at h; exact h
  obtain ⟨V0, hV⟩ : ∃ V0, V0 = (w.alloc (.deferred (some []))).alloc (.loop (rec_ .ready none)) := ⟨_, rfl⟩
  have laid : Laid V0 B (rec_ .ready none) := by
    rw [hV]
    refine ⟨?_, ?_⟩
    · have := World.alloc_heap_new (w.alloc (.deferred (some []))) (.loop (rec_ .ready none))
      rwa [World.size_alloc, ← hB] at this
    · have h2 := World.alloc_heap_new w (.deferred (some []))
      rw [← hB] at h2
      exact (Below.heap_alloc _ _ _ (by rw [World.size_alloc]; omega)).trans h2
  have hV0 : V0.heap.size = B + 2 := by rw [hV, World.size_alloc, World.size_alloc, hB]
  have bel : Below w.heap.size w V0 := by rw [hV]; exact ((Below.refl _ w).alloc (Nat.le_refl _) _).alloc (by rw [World.size_alloc]; omega) _
  -- what stands between two rounds; what stands where one has left by a jump
  let J : List α → World → Prop := fun pre V => I pre V ∧ Laid V B (rec_ .ready none)
  let Jx : List α → World → Prop := fun pre V => ∃ c, Ix c pre V ∧ Laid V B (rec_ .done (some c))
  have wider : ∀ {A C : World}, Turned V0.heap.size A C → Turned B A C := fun t => ⟨t.os, t.tape, t.output, t.size, fun k hk h => t.block k hk (h.imp (fun h => by omega) id)⟩
  have one : ∀ pre x V, J pre V → pre.length < N → YieldAt Fence.wide (n - 1 - 1) Try.prog (B + 1) (encs x) V fun e V' =>
      (e = .returned (.bool true) ∧ J (pre ++ [x]) V' ∧ Spares V V') ∨ (e = .returned (.bool false) ∧ Jx (pre ++ [x]) V') := by
    intro pre x V hj hn
    have hl : V.heap[B + 1]? = some (.loop (rec_ .ready none)) := hj.2.1
    have begun := run_beginRound (P := Try.prog) hl hready
    rw [hbusy] at begun
    refine ⟨fn, _, assign, body, hyield V x (run_yield hl (by rw [hps']; exact hps x)), roundIn_of_wpIn trivial (assigned (B + 1) x V _ ⟨_, begun, ?_⟩)⟩
    have busy := hj.2.put (rec_ .busy none)
    have hI2 := hI.own.putObj (.loop (rec_ .busy none)) hj.1 (by omega) hl rfl
    refine wpIn_mono (round (B + 1) pre x _ hI2 hn (by have := QJ.lt_of_heap busy.1; omega)) fun e a' V' hend => ?_
    have closed : ∀ (j : Option Code), KeepsFrom B (V.putObj (B + 1) (.loop (rec_ .busy none))) V' →
        (Instr.endRound (B + 1) j).run Try.prog V' = .ok (.bool j.isNone) (V'.putObj (B + 1) (.loop (rec_ (if j.isNone then .ready else .done) j))) ∧ Laid V' B (rec_ .busy none) :=
      fun j hk => by
        have h2 := run_endRound (P := Try.prog) j (busy.kept hk).1
        rw [hover] at h2
        exact ⟨h2, busy.kept hk⟩
    cases e with
    | normal =>
      obtain ⟨⟨k1, k2⟩, k3⟩ := hend
      obtain ⟨r1, r2⟩ := closed none k1
      exact ⟨_, _, r1, .inl ⟨rfl, ⟨hI.own.putObj _ k3 (by omega) r2.1 rfl, r2.put _⟩, ((spares_put hj.2 _).trans k2).trans (spares_put r2 _)⟩⟩
    | ret =>
      obtain ⟨k1, k3⟩ := hend
      obtain ⟨r1, r2⟩ := closed (some .ret) k1
      exact ⟨_, _, r1, .inr ⟨rfl, _, (hIx _).own.putObj _ k3 (by omega) r2.1 rfl, r2.put _⟩⟩
    | exit id =>
      obtain ⟨k1, k3⟩ := hend
      obtain ⟨r1, r2⟩ := closed (some (.exit id)) k1
      exact ⟨_, _, r1, .inr ⟨rfl, _, (hIx _).own.putObj _ k3 (by omega) r2.1 rfl, r2.put _⟩⟩
    | goto t =>
      obtain ⟨k1, k3⟩ := hend
      obtain ⟨r1, r2⟩ := closed (some (.goto t)) k1
      exact ⟨_, _, r1, .inr ⟨rfl, _, (hIx _).own.putObj _ k3 (by omega) r2.1 rfl, r2.put _⟩⟩
    | panic _ => exact hend.elim
    | outgrown => exact hend.elim
  have called := hseq (B + 1) J Jx V0 bel (fun s A C hs ht => ⟨hI.turn s A C hs.1 (wider ht), hs.2.turned ht⟩)
    (fun s A C hs ht => by obtain ⟨c, h1, h2⟩ := hs; exact ⟨c, (hIx c).turn s A C h1 (wider ht), h2.turned ht⟩) one
    ⟨by rw [hV]; exact hI.own.alloc _ (hI.own.alloc _ h0), laid⟩
  refine ⟨B + 1, [{ target := .collected B, args := #[] }], V0, { target := .fn (.func gf) lb, args := #[.func (.yield (B + 1)) #[] #[]] }, V0, gf, #[.func (.yield (B + 1)) #[] #[]] ++ lb, V0, ?_, ?_, ?_, ?_, ?_, ?_⟩
  · have := run_enterLoop_outer (P := Try.prog) (w := w) fn a.tmps ps assign body
    rw [← hB] at this
    rw [hV, hr]
    exact this
  · simp only [resolve, hg]
    simp [go_sem]
  · intro f' _
    exact trivial
  · simp [invoke, go_sem, eg]
  · exact fun _ => h1
  refine called.mono ?_
  have ends : ∀ (V : World) (st : LoopState) (j : Option Code), V.heap[B + 1]? = some (.loop (rec_ st j)) → st ≠ .busy → (Instr.endLoop (B + 1)).run Try.prog V = .ok j (V.putObj (B + 1) (.loop (rec_ .exhausted j))) := fun V st j h hst => by
    rw [hr] at h ⊢
    exact run_endLoop h hst
  rintro e V' ⟨⟨v, rfl⟩, ⟨xs, hS, hi, hl⟩ | ⟨pre, hSp, c, hi, hl⟩⟩
  · exact ⟨none, _, ends V' _ _ hl.1 (by decide), done B xs _ (Nat.le_refl _) hS (hI.own.putObj _ hi (by omega) hl.1 rfl) (hl.put (rec_ .exhausted none)).2⟩
  · exact ⟨some c, _, ends V' _ _ hl.1 (by decide), stop B c pre _ (Nat.le_refl _) hSp ((hIx c).own.putObj _ hi (by omega) hl.1 rfl) (hl.put (rec_ .exhausted (some c))).2⟩
end Go.Proofs.Ytepgdeokjgjapaa.QJ
