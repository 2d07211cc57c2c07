/- A range over a function whose iterator lays objects of its own and turns nothing below a block: the iterator's contract, and the law of the statement. -/
import Derived.Test.YtpdipcgchhibeaaBase
import Derived.RangeFuncBox
import Derived.RangeFuncNested
import Derived.RangeFuncBound
import Derived.RangeFuncCalls
import Derived.RangeFuncLeaves
namespace Go.Proofs.Ytpdipcgchhibeaa
open Go.RowKit

/-- What is said by I speaks of blocks below B, and of F's, alone. -/
def Steady {β : Type} (B : Nat) (I : β → (Nat → Prop) → World → Prop) : Prop := ∀ s F A C, I s F A → But (fun b => B ≤ b ∧ ¬ F b) A C → I s F C
theorem Steady.wider {β : Type} {B B' : Nat} {I : β → (Nat → Prop) → World → Prop} (h : Steady B I) (hb : B ≤ B') : Steady B' I := fun s F A C hs hc => h s F A C hs (hc.mono' fun _ hb' => ⟨Nat.le_trans hb hb'.1, hb'.2⟩)
theorem Steady.and {β : Type} {B : Nat} {I I' : β → (Nat → Prop) → World → Prop} (h : Steady B I) (h' : Steady B I') : Steady B (fun s F W => I s F W ∧ I' s F W) := fun s F A C hs hc => ⟨h s F A C hs.1 hc, h' s F A C hs.2 hc⟩
/-- The contract of an iterator that lays objects of its own: a round's body turns what is its own (F), and what it makes. -/
def SeqFoot {α : Type} (n g : Nat) (lb : Array Value) (encs : List α → α → Array Value) (n₀ : Nat) (L : List α) (w : World) : Prop :=
  ∀ (l : Nat) (J Jx : List α → (Nat → Prop) → World → Prop) (W : World) (F₀ : Nat → Prop), Below w.heap.size w W → (∀ b, F₀ b → n₀ ≤ b ∧ b < W.heap.size) → Steady W.heap.size J → Steady W.heap.size Jx →
    (∀ pre x F V, J pre F V → pre ++ [x] <+: L → W.heap.size ≤ V.heap.size → YieldAt Fence.wide (n - 1) Try.prog l (encs pre x) V fun e V' =>
      ∃ F', Turn F F' V V' ∧ ((e = .returned (.bool true) ∧ J (pre ++ [x]) F' V') ∨ (e = .returned (.bool false) ∧ Jx (pre ++ [x]) F' V'))) →
    J [] F₀ W →
    CallsIn Fence.wide n Try.prog g (#[.func (.yield l) #[] #[]] ++ lb) W fun e W' => (∃ v, e = .returned v) ∧ ∃ F, (J L F W' ∨ ∃ pre, pre <+: L ∧ Jx pre F W')
/-- How a round's body may end. -/
def EndedT {α : Type} (I : List α → (Nat → Prop) → World → Prop) (Ix : Code → List α → (Nat → Prop) → World → Prop) (xs : List α) (F : Nat → Prop) (V : World) : Exit → Act → World → Prop
  | .normal, _, V' => ∃ F', Turn F F' V V' ∧ I xs F' V'
  | .ret, _, V' => ∃ F', Turn F F' V V' ∧ Ix .ret xs F' V'
  | .exit id, _, V' => ∃ F', Turn F F' V V' ∧ Ix (.exit id) xs F' V'
  | .goto t, _, V' => ∃ F', Turn F F' V V' ∧ Ix (.goto t) xs F' V'
  | .panic _, _, _ => False
  | .outgrown, _, _ => False
/-- A loop's record at block k, the list of its rounds' deferred calls (none) at the block ahead of it. -/
def Laid (V : World) (k : Nat) (r : Loop) : Prop := V.heap[k + 1]? = some (.loop r) ∧ V.heap[k]? = some (.deferred (some []))
theorem Laid.put {A : World} {k : Nat} {r : Loop} (h : Laid A k r) (r' : Loop) : Laid (A.putObj (k + 1) (.loop r')) k r' :=
  ⟨World.putObj_heap_same (lt_of_heap h.1), (World.putObj_heap_other (by omega)).trans h.2⟩
theorem Laid.but {A C : World} {k : Nat} {r : Loop} {F : Nat → Prop} (h : Laid A k r) (hb : But F A C) (h0 : ¬ F k) (h1 : ¬ F (k + 1)) : Laid C k r :=
  ⟨(hb.block _ (lt_of_heap h.1) h1).trans h.1, (hb.block _ (lt_of_heap h.2) h0).trans h.2⟩
theorem but_put {F : Nat → Prop} (A : World) (k : Nat) (o : Obj) (hF : F k) : But F A (A.putObj k o) := (But.refl F A).grown (grownBy_putObj' A k o) (fun g e => by cases e; exact .inl hF)
/-- What a loop takes up beside its body: its record. -/
def With (F : Nat → Prop) (k : Nat) : Nat → Prop := fun b => F b ∨ b = k
set_option maxHeartbeats 1000000 in
/-- The statement 'for .. := range seq' over such an iterator. -/
theorem range_foot {α : Type} {n : Nat} {g : Operand} {ps : Array Tmp} {assign body : Code} {Q : Exit → Act → World → Prop} {a : Act} {w w0 : World} (h1 : 1 ≤ n) {gf : Nat} {lb : Array Value}
    (hg : a.eval g = .func (.func gf) #[] lb) (eg : ∀ args w, (callFunc gf args).run Try.prog w = .ok (.enter gf args) w)
    {encs : List α → α → Array Value} {n₀ : Nat} {L : List α} (hseq : SeqFoot (n - 1) gf lb encs n₀ L w0) (hb0 : Below w0.heap.size w0 w) (hn₀ : n₀ ≤ w.heap.size) (hps : ∀ pre x, (encs pre x).size = ps.size)
    (I : List α → (Nat → Prop) → World → Prop) (Ix : Code → List α → (Nat → Prop) → World → Prop) (hI : Steady w.heap.size I) (hIx : ∀ c, Steady w.heap.size (Ix c)) (F₀ : Nat → Prop) (hF₀ : ∀ b, F₀ b → n₀ ≤ b ∧ b < w.heap.size) (h0 : I [] F₀ w) (a₁ : List α → α → Act)
    (assigned : ∀ (l : Nat) (pre : List α) (x : α) (V : World) (K : Act → World → Prop), K (a₁ pre x) V →
      assign.wpIn (Fence.wide.inRound l) (n - 1 - 1) Try.prog (Exit.then K (fun _ _ _ => False)) { tmps := (ps.zip (encs pre x)).foldl (fun t (p, v) => t.setIfInBounds p v) a.tmps, defers := [] } V)
    (round : ∀ (l : Nat) (pre : List α) (x : α) (F : Nat → Prop) (V : World), I pre F V → (∀ b, F b → n₀ ≤ b) → pre ++ [x] <+: L → w.heap.size ≤ V.heap.size → body.wpIn (Fence.wide.inRound l) (n - 1 - 1) Try.prog (EndedT I Ix (pre ++ [x]) F V) (a₁ pre x) V)
    (done : ∀ (D : Nat) (F : Nat → Prop) (V : World), w.heap.size ≤ D → ¬ F D → (∀ b, F b → n₀ ≤ b) → I L F V → V.heap[D]? = some (.deferred (some [])) → Q .normal { a with defers := { target := .collected D, args := #[] } :: a.defers } V)
    (stop : ∀ (D : Nat) (c : Code) (pre : List α) (F : Nat → Prop) (V : World), w.heap.size ≤ D → ¬ F D → (∀ b, F b → n₀ ≤ b) → pre <+: L → Ix c pre F V → V.heap[D]? = some (.deferred (some [])) → c.wpIn Fence.wide n Try.prog Q { a with defers := { target := .collected D, args := #[] } :: a.defers } V) :
    (Code.rangeFunc g ps assign body).wpIn Fence.wide n Try.prog Q a w := by
  obtain ⟨B, hB⟩ : ∃ B, B = w.heap.size := ⟨_, rfl⟩
  rw [← hB] at hI hIx round done stop hn₀ hF₀
  refine wpIn_rangeFunc fun fn _ => ?_
  -- the record, by its state and the jump that is pending
  obtain ⟨rec_, hr⟩ : ∃ f : LoopState → Option Code → Loop, f = fun st j => ⟨st, j, fn, a.tmps, ps, assign, body, B⟩ := ⟨_, rfl⟩
  have hbusy : ({ rec_ .ready none with state := .busy } : Loop) = rec_ .busy none := by rw [hr]
  have hover : ∀ (st : LoopState) (j : Option Code), ({ rec_ .busy none with state := st, pending := j } : Loop) = rec_ st j := fun st j => by rw [hr]
  have hready : (rec_ .ready none).state = .ready := by rw [hr]
  have hps' : (rec_ .ready none).params = ps := by rw [hr]
  have hyield : ∀ (V : World) (pre : List α) (x : α), (Instr.yield (B + 1) (encs pre x)).run Try.prog V = .ok (.round (B + 1) (rec_ .ready none).fn (((rec_ .ready none).params.zip (encs pre x)).foldl (fun tmps (t, u) => tmps.setIfInBounds t u) (rec_ .ready none).tmps) (rec_ .ready none).assign (rec_ .ready none).body) V →
      (Instr.yield (B + 1) (encs pre x)).run Try.prog V = .ok (.round (B + 1) fn ((ps.zip (encs pre x)).foldl (fun tmps (t, u) => tmps.setIfInBounds t u) a.tmps) assign body) V := fun V pre x h => by rw [hr] at h; exact h
  obtain ⟨V0, hV⟩ : ∃ V0, V0 = (w.alloc (.deferred (some []))).alloc (.loop (rec_ .ready none)) := ⟨_, rfl⟩
  have laid : Laid V0 B (rec_ .ready none) := by
    rw [hV]
    refine ⟨?_, ?_⟩
    · have := World.alloc_heap_new (w.alloc (.deferred (some []))) (.loop (rec_ .ready none))
      rwa [World.size_alloc, ← hB] at this
    · have h2 := World.alloc_heap_new w (.deferred (some []))
      rw [← hB] at h2
      exact (Below.heap_alloc _ _ _ (by rw [World.size_alloc]; omega)).trans h2
  have hV0 : V0.heap.size = B + 2 := by rw [hV, World.size_alloc, World.size_alloc, hB]
  have bel1 : Below w.heap.size w V0 := by rw [hV]; exact ((Below.refl _ w).alloc (Nat.le_refl _) _).alloc (by rw [World.size_alloc]; omega) _
  have bel : Below w0.heap.size w0 V0 := hb0.trans (bel1.mono hb0.size)
  -- what stands between two rounds; what stands where one has left by a jump
  let J : List α → (Nat → Prop) → World → Prop := fun pre F V => ∃ F1, F = With F1 (B + 1) ∧ (∀ b, F1 b → n₀ ≤ b ∧ b ≠ B ∧ b ≠ B + 1) ∧ I pre F1 V ∧ Laid V B (rec_ .ready none)
  let Jx : List α → (Nat → Prop) → World → Prop := fun pre F V => ∃ F1 c, F = With F1 (B + 1) ∧ (∀ b, F1 b → n₀ ≤ b ∧ b ≠ B ∧ b ≠ B + 1) ∧ Ix c pre F1 V ∧ Laid V B (rec_ .done (some c))
  have one : ∀ pre x F V, J pre F V → pre ++ [x] <+: L → V0.heap.size ≤ V.heap.size → YieldAt Fence.wide (n - 1 - 1) Try.prog (B + 1) (encs pre x) V fun e V' =>
      ∃ F', Turn F F' V V' ∧ ((e = .returned (.bool true) ∧ J (pre ++ [x]) F' V') ∨ (e = .returned (.bool false) ∧ Jx (pre ++ [x]) F' V')) := by
    rintro pre x _ V ⟨F, rfl, hF, hi, hl0⟩ hn hVs
    rw [hV0] at hVs
    have hl := hl0.1
    have begun := run_beginRound (P := Try.prog) hl hready
    rw [hbusy] at begun
    refine ⟨fn, _, assign, body, hyield V pre x (run_yield hl (by rw [hps']; exact hps pre x)), roundIn_of_wpIn trivial (assigned (B + 1) pre x V _ ⟨_, begun, ?_⟩)⟩
    have busy := hl0.put (rec_ .busy none)
    have n1 : ¬ F (B + 1) := fun h => (hF _ h).2.2 rfl
    have n2 : ¬ F B := fun h => (hF _ h).2.1 rfl
    have hI2 := hI _ _ _ _ hi (but_put (F := fun b => B ≤ b ∧ ¬ F b) V (B + 1) (.loop (rec_ .busy none)) ⟨by omega, n1⟩)
    have hs1 : B + 2 ≤ (V.putObj (B + 1) (.loop (rec_ .busy none))).heap.size := by have := lt_of_heap busy.1; omega
    refine wpIn_mono (round (B + 1) pre x F _ hI2 (fun b hb => (hF b hb).1) hn (by omega)) fun e a' V' hend => ?_
    have closed : ∀ (j : Option Code) (F' : Nat → Prop), Turn F F' (V.putObj (B + 1) (.loop (rec_ .busy none))) V' →
        (Instr.endRound (B + 1) j).run Try.prog V' = .ok (.bool j.isNone) (V'.putObj (B + 1) (.loop (rec_ (if j.isNone then .ready else .done) j))) ∧ Laid V' B (rec_ .busy none) ∧ (∀ b, F' b → n₀ ≤ b ∧ b ≠ B ∧ b ≠ B + 1) ∧
          Turn (With F (B + 1)) (With F' (B + 1)) V (V'.putObj (B + 1) (.loop (rec_ (if j.isNone then .ready else .done) j))) ∧ But (fun b => B ≤ b ∧ ¬ F' b) V' (V'.putObj (B + 1) (.loop (rec_ (if j.isNone then .ready else .done) j))) :=
      fun j F' hT => by
        have l2 := busy.but hT.but n2 n1
        have h2 := run_endRound (P := Try.prog) j l2.1
        rw [hover] at h2
        have hF' : ∀ b, F' b → n₀ ≤ b ∧ b ≠ B ∧ b ≠ B + 1 := fun b hb => by
          rcases hT.own b hb with h3 | h3
          · exact hF b h3
          · exact ⟨by omega, by omega, by omega⟩
        refine ⟨h2, l2, hF', ⟨?_, ?_⟩, but_put _ _ _ ⟨by omega, fun h => (hF' _ h).2.2 rfl⟩⟩
        · exact ((but_put V (B + 1) _ (.inr rfl)).trans (hT.but.mono' fun _ h => .inl h)).trans (but_put _ _ _ (.inr rfl))
        · rintro b (hb | rfl)
          · rcases hT.own b hb with h3 | h3
            · exact .inl (.inl h3)
            · exact .inr (by have h4 : (V.putObj (B + 1) (.loop (rec_ .busy none))).heap.size = V.heap.size := by simp [World.putObj]
                             omega)
          · exact .inl (.inr rfl)
    cases e with
    | normal =>
      obtain ⟨F', k1, k3⟩ := hend
      obtain ⟨r1, r2, r3, r4, r5⟩ := closed none F' k1
      exact ⟨_, _, r1, _, r4, .inl ⟨rfl, F', rfl, r3, hI _ _ _ _ k3 r5, r2.put _⟩⟩
    | ret =>
      obtain ⟨F', k1, k3⟩ := hend
      obtain ⟨r1, r2, r3, r4, r5⟩ := closed (some .ret) F' k1
      exact ⟨_, _, r1, _, r4, .inr ⟨rfl, F', _, rfl, r3, hIx _ _ _ _ _ k3 r5, r2.put _⟩⟩
    | exit id =>
      obtain ⟨F', k1, k3⟩ := hend
      obtain ⟨r1, r2, r3, r4, r5⟩ := closed (some (.exit id)) F' k1
      exact ⟨_, _, r1, _, r4, .inr ⟨rfl, F', _, rfl, r3, hIx _ _ _ _ _ k3 r5, r2.put _⟩⟩
    | goto t =>
      obtain ⟨F', k1, k3⟩ := hend
      obtain ⟨r1, r2, r3, r4, r5⟩ := closed (some (.goto t)) F' k1
      exact ⟨_, _, r1, _, r4, .inr ⟨rfl, F', _, rfl, r3, hIx _ _ _ _ _ k3 r5, r2.put _⟩⟩
    | panic _ => exact hend.elim
    | outgrown => exact hend.elim
  have smaller : ∀ {F : Nat → Prop} {A C : World}, But (fun b => V0.heap.size ≤ b ∧ ¬ With F (B + 1) b) A C → But (fun b => B ≤ b ∧ ¬ F b) A C := fun h => h.mono' fun b hb => ⟨by omega, fun h2 => hb.2 (.inl h2)⟩
  have called := hseq (B + 1) J Jx V0 (With F₀ (B + 1)) bel
    (fun b hb => by
      rcases hb with hb | rfl
      · have := hF₀ b hb
        exact ⟨this.1, by omega⟩
      · exact ⟨by omega, by omega⟩)
    (fun s F A C hs hc => by
      obtain ⟨F1, rfl, h2, h3, h4⟩ := hs
      exact ⟨F1, rfl, h2, hI _ _ _ _ h3 (smaller hc), h4.but hc (fun h => by have := h.1; omega) (fun h => by have := h.1; omega)⟩)
    (fun s F A C hs hc => by
      obtain ⟨F1, c, rfl, h2, h3, h4⟩ := hs
      exact ⟨F1, c, rfl, h2, hIx _ _ _ _ _ h3 (smaller hc), h4.but hc (fun h => by have := h.1; omega) (fun h => by have := h.1; omega)⟩) one
    ⟨F₀, rfl, fun b hb => ⟨(hF₀ b hb).1, by have := (hF₀ b hb).2; omega, by have := (hF₀ b hb).2; omega⟩, hI _ _ _ _ h0 (.of_below bel1), laid⟩
  refine ⟨B + 1, [{ target := .collected B, args := #[] }], V0, { target := .fn (.func gf) lb, args := #[.func (.yield (B + 1)) #[] #[]] }, V0, gf, #[.func (.yield (B + 1)) #[] #[]] ++ lb, V0, ?_, ?_, ?_, ?_, ?_, ?_⟩
  · have := run_enterLoop_outer (P := Try.prog) (w := w) fn a.tmps ps assign body
    rw [← hB] at this
    rw [hV, hr]
    exact this
  · simp only [resolve, hg]
    simp [go_sem]
  · intro f' _
    exact trivial
  · simp [invoke, go_sem, eg]
  · exact fun _ => h1
  refine called.mono ?_
  have ends : ∀ (V : World) (st : LoopState) (j : Option Code), V.heap[B + 1]? = some (.loop (rec_ st j)) → st ≠ .busy → (Instr.endLoop (B + 1)).run Try.prog V = .ok j (V.putObj (B + 1) (.loop (rec_ .exhausted j))) := fun V st j h hst => by
    rw [hr] at h ⊢
    exact run_endLoop h hst
  rintro e V' ⟨⟨v, rfl⟩, _, ⟨F, rfl, hF, hi, hl⟩ | ⟨pre, hSp, F, c, rfl, hF, hi, hl⟩⟩
  · have hb := but_put (F := fun b => B ≤ b ∧ ¬ F b) V' (B + 1) (.loop (rec_ .exhausted none)) ⟨by omega, fun h => (hF _ h).2.2 rfl⟩
    exact ⟨none, _, ends V' _ _ hl.1 (by decide), done B F _ (Nat.le_refl _) (fun h => (hF _ h).2.1 rfl) (fun b hb => (hF b hb).1) (hI _ _ _ _ hi hb) (hl.put (rec_ .exhausted none)).2⟩
  · have hb := but_put (F := fun b => B ≤ b ∧ ¬ F b) V' (B + 1) (.loop (rec_ .exhausted (some c))) ⟨by omega, fun h => (hF _ h).2.2 rfl⟩
    exact ⟨some c, _, ends V' _ _ hl.1 (by decide), stop B c pre F _ (Nat.le_refl _) (fun h => (hF _ h).2.1 rfl) (fun b hb => (hF b hb).1) hSp (hIx _ _ _ _ _ hi hb) (hl.put (rec_ .exhausted (some c))).2⟩
end Go.Proofs.Ytpdipcgchhibeaa
