/- filled: a map and a Go map behind the same calls. -/
import Derived.Test.YtlfigdembgkkoaaPut
import Derived.Test.YtlfigdembgkkoaaIISet
import Derived.Test.YtlfigdembgkkoaaIIDel
import Derived.Maps.OwnSet
namespace Go.Proofs.Ytlfigdembgkkoaa.II
open Go.RowKit Go.Maps

/-- A call of filled: does it delete; the key; the value. -/
abbrev C : Type := Bool × Int × Int
def fstep (l : List (K × V)) (c : C) : List (K × V) := if c.1 then delL lt l c.2.1 else putL lt l c.2.1 c.2.2
def fills (l : List (K × V)) (cs : List C) : List (K × V) := cs.foldl fstep l
def fill (cs : List C) : List (K × V) := fills [] (cs.take 100)
theorem fills_take {cs : List C} {k : Nat} {x : C} (h : cs[k]? = some x) : fills [] (cs.take (k + 1)) = fstep (fills [] (cs.take k)) x := by
  unfold fills
  rw [List.take_add_one, h, List.foldl_append]
  rfl
theorem fstep_len (l : List (K × V)) (c : C) : (fstep l c).length ≤ l.length + 1 := by
  unfold fstep
  split
  · have := len_del (lt := lt) (l := l) (k := c.2.1); omega
  · rw [len_put]; split <;> omega
theorem fills_len (cs : List C) (k : Nat) : (fills [] (cs.take k)).length ≤ k := by
  induction k with
  | zero => simp [fills]
  | succ k ih =>
    cases h : cs[k]? with
    | none =>
      have e : cs.take (k + 1) = cs.take k := by rw [List.take_add_one, h]; simp
      rw [e]; omega
    | some x => rw [fills_take h]; have := fstep_len (fills [] (cs.take k)) x; omega
def K16 (x : Int) : Prop := -32768 ≤ x ∧ x ≤ 32767
/-- The calls that a slice holds. -/
def CS (w : World) (A : Option Addr) (n : Nat) (cs : List C) : Prop :=
  cs.length = n ∧ (∀ c ∈ cs, K16 c.2.1 ∧ K16 c.2.2) ∧
  (0 < n → ∃ b o, A = some ⟨b, o, none⟩ ∧ b < w.heap.size ∧ ∀ j c, cs[j]? = some c → w.cell? ⟨b, o + j * 3, none⟩ = some (.bool c.1) ∧ w.cell? ⟨b, o + j * 3 + 1, none⟩ = some (.int .i16 c.2.1) ∧ w.cell? ⟨b, o + j * 3 + 1 + 1, none⟩ = some (.int .i16 c.2.2))

theorem law3 : Keyed Try.prog 3 := int_keyed Try.underlying3
theorem zero3 (w : World) : (zeroValue 3).run Try.prog w = .ok (.int .i64 0) w := by kernel_rfl
theorem wf16 {x : Int} (h : K16 x) : (Lit.int .i64 x).wf = true := WalkArith.wf_i64 (by unfold K16 at h; omega)
theorem key16 {x : Int} (h : K16 x) : keyOf Try.prog 3 (.int .i64 x) = some (.int .i64 x) := keyOf_int_mk Try.underlying3 (wf16 h)

theorem map_keep {P : Program} {k : TypeId} {R : Value → Option (DataW Unit × List MemPlace)} {w w' : World} {b n : Nat} {D : DataW Unit} (h : w.ownsMap P k R b n D) (hb : w'.heap[b]? = w.heap[b]?) : w'.ownsMap P k R b n D := by
  obtain ⟨es, clock, h1, r⟩ := h
  exact ⟨es, clock, hb.trans h1, r⟩
theorem map_mono {P : Program} {k : TypeId} {R : Value → Option (DataW Unit × List MemPlace)} {w : World} {b n m : Nat} {D : DataW Unit} (h : w.ownsMap P k R b n D) (hm : n ≤ m) : w.ownsMap P k R b m D := by
  obtain ⟨es, clock, h1, h2, h3, r⟩ := h
  exact ⟨es, clock, h1, h2, Nat.le_trans h3 hm, r⟩
theorem map_lt {P : Program} {k : TypeId} {R : Value → Option (DataW Unit × List MemPlace)} {w : World} {b n : Nat} {D : DataW Unit} (h : w.ownsMap P k R b n D) : b < w.heap.size := by
  obtain ⟨es, clock, h1, r⟩ := h
  exact lt_of_heap h1
/-- A map's block is no block of cells. -/
theorem map_ne {w : World} {B P b n : Nat} {v : Value} {l : List (K × V)} {D : DataW Unit} (h : w.ownsMap Try.prog 3 (plainElem Try.prog 3) b n D) (ho : Own w B P v l) : b ≠ P ∧ v.ownBlock ≠ some b := by
  obtain ⟨es, clock, h1, r⟩ := h
  refine ⟨fun e => ?_, fun e => ?_⟩
  · subst e; rw [ho.blk] at h1; cases h1
  · rcases ho.own.2 with ⟨h0, _⟩ | ⟨g, cap, cur, hv, _, hh, _⟩
    · rw [h0] at e; cases e
    · rw [hv] at e
      obtain rfl : g = b := by simpa [Value.ownBlock] using e
      rw [hh] at h1; cases h1
theorem own_grown {w w' : World} {B P b : Nat} {v : Value} {l : List (K × V)} (h : Own w B P v l) (hb : b ≠ P ∧ v.ownBlock ≠ some b) (hg : w.grownBy w' (some b)) : Own w' B P v l :=
  ⟨h.hP, (hg.block P (lt_of_heap h.blk) (fun e => hb.1 (by injection e with e; exact e.symm))).trans h.blk,
    owns_of_block h.own fun g hv => hg.block g (owns_lt' h.own hv).2 (fun e => hb.2 (by rw [hv]; exact e)), h.asc, h.len⟩

/-- The two maps, side by side: P is the map's block, b the Go map's. -/
structure Two (w0 w : World) (P b n : Nat) (v : Value) (l : List (K × V)) (D : DataW Unit) : Prop where
  own : Own w P P v l
  map : w.ownsMap Try.prog 3 (plainElem Try.prog 3) b n D
  is : MapIs D l
  bel : Below w0.heap.size w0 w
  hP : w0.heap.size ≤ P
  hb : P < b
theorem Two.below {w0 w w' : World} {P b n : Nat} {v : Value} {l : List (K × V)} {D : DataW Unit} (h : Two w0 w P b n v l D) (hb : Below w.heap.size w w') : Two w0 w' P b n v l D :=
  ⟨h.own.below hb, map_keep h.map (hb.block b (map_lt h.map)), h.is, ⟨hb.os.trans h.bel.os, hb.tape.trans h.bel.tape, hb.output.trans h.bel.output, Nat.le_trans h.bel.size hb.size,
    fun k hk => (hb.block k (Nat.lt_of_lt_of_le hk h.bel.size)).trans (h.bel.block k hk)⟩, h.hP, h.hb⟩
theorem chg_below {w0 w w' : World} {P b n : Nat} {v v' : Value} {l : List (K × V)} {D : DataW Unit} (h : Two w0 w P b n v l D) (hc : Chg w w' P v v') :
    Below w0.heap.size w0 w' ∧ w'.ownsMap Try.prog 3 (plainElem Try.prog 3) b n D := by
  have hlt := map_lt h.map
  have hne := map_ne h.map h.own
  refine ⟨⟨hc.but.os.trans h.bel.os, hc.but.tape.trans h.bel.tape, hc.but.output.trans h.bel.output, Nat.le_trans h.bel.size hc.but.size, fun k hk => ?_⟩, map_keep h.map (hc.but.block b hlt ?_)⟩
  · refine (hc.but.block k (Nat.lt_of_lt_of_le hk h.bel.size) ?_).trans (h.bel.block k hk)
    have := h.hP
    rintro (e | e)
    · omega
    · have := (owns_lt' h.own.own e).1; omega
  · rintro (e | e)
    · exact hne.1 e
    · exact hne.2 e
/-- Behind Delete and delete. -/
theorem Two.del {w0 w w1 w2 : World} {P b n : Nat} {v v' : Value} {l : List (K × V)} {D : DataW Unit} {k : Int} (h : Two w0 w P b n v l D) (ho : Own w1 P P v' (delL lt l k)) (hc : Chg w w1 P v v')
    (hm : w2.ownsMap Try.prog 3 (plainElem Try.prog 3) b n (D.del (.int .i64 k))) (hg : w1.grownBy w2 (some b)) : Two w0 w2 P b (n + 1) v' (delL lt l k) (D.del (.int .i64 k)) := by
  have h1 := chg_below h hc
  refine ⟨own_grown ho (map_ne h1.2 ho) hg, map_mono hm (Nat.le_succ n), h.is.del h.own.asc k, ⟨hg.os.trans h1.1.os, hg.tape.trans h1.1.tape, hg.output.trans h1.1.output, Nat.le_trans h1.1.size hg.size, fun j hj => ?_⟩, h.hP, h.hb⟩
  refine (hg.block j (Nat.lt_of_lt_of_le hj h1.1.size) (fun e => ?_)).trans (h1.1.block j hj)
  have := h.hP; have := h.hb
  injection e with e
  omega
/-- Behind Set and a store. -/
theorem Two.put {w0 w w1 w2 : World} {P b n : Nat} {v v' : Value} {l : List (K × V)} {D : DataW Unit} {k x : Int} (h : Two w0 w P b n v l D) (ho : Own w1 P P v' (putL lt l k x)) (hc : Chg w w1 P v v')
    (hm : w2.ownsMap Try.prog 3 (plainElem Try.prog 3) b (n + 1) (D.put (.int .i64 k) (.lit (.int .i64 x)))) (hg : w1.grownBy w2 (some b)) : Two w0 w2 P b (n + 1) v' (putL lt l k x) (D.put (.int .i64 k) (.lit (.int .i64 x))) := by
  have h1 := chg_below h hc
  refine ⟨own_grown ho (map_ne h1.2 ho) hg, hm, h.is.put h.own.asc k x, ⟨hg.os.trans h1.1.os, hg.tape.trans h1.1.tape, hg.output.trans h1.1.output, Nat.le_trans h1.1.size hg.size, fun j hj => ?_⟩, h.hP, h.hb⟩
  refine (hg.block j (Nat.lt_of_lt_of_le hj h1.1.size) (fun e => ?_)).trans (h1.1.block j hj)
  have := h.hP; have := h.hb
  injection e with e
  omega
theorem two_new {w w1 : World} (h : Own w1 w.heap.size w.heap.size (.slice none 0 0) []) (hB : Below w.heap.size w w1) : Two w (w1.alloc (.map #[] 0)) w.heap.size w1.heap.size 0 (.slice none 0 0) [] (.map []) :=
  ⟨h.below ((Below.refl _ _).alloc (Nat.le_refl _) _), World.ownsMap_made _ _ _ _, mapIs_nil, hB.alloc hB.size _, Nat.le_refl _, lt_of_heap h.blk⟩

section
variable {ops : Array Oper} {rest : List Oper} {o : Oper} {a : Act} {Q : Exit → Act → World → Prop}
/-- A look-up with its word whether the key is there, in the map's own terms. -/
theorem lookup_is (w : World) {w0 : World} {P b n : Nat} {v : Value} {l : List (K × V)} {D : DataW Unit} (h : Two w0 w P b n v l D) (hg : o.guard = none) (m x : Operand) (hop : o.op = Op.lookup 47 m x true)
    (hm : a.eval m = .map (some b)) {k y : Int} {bb : Bool} (hx : a.eval x = .int .i64 k) (hk : K16 k) (hy : y = getL lt l k z0) (hbb : bb = hasB lt (keysOf l) k)
    (hK : wpList Try.prog ops Q rest (a.put o.dst (.tuple #[.int .i64 y, .bool bb])) w) : wpList Try.prog ops Q (o :: rest) a w := by
  refine wpList_lookup_own_ok_int w hg m x 47 hop 3 3 .i64 law3 Try.underlying47 Try.underlying3 (zero3 _) b n D hm h.map _ _ hx (key16 hk) fun c hat _ => ?_
  have e1 : c = y := by
    have h2 := hat.symm.trans (h.is.at_ k)
    simp only [DataW.lit.injEq, Lit.int.injEq, true_and] at h2
    rw [hy]; exact h2
  have e2 : Maps.has D (.int .i64 k) = bb := (h.is.has k).trans hbb.symm
  rw [e1, e2]; exact hK
end

/-- Delete and Set as filled calls them. -/
def DelF (w0 w' : World) (P b n : Nat) (v : Value) (l : List (K × V)) (D : DataW Unit) (k : Int) : Prop := ∃ w v', Two w0 w P b n v l D ∧ Own w' P P v' (delL lt l k) ∧ Chg w w' P v v'
def SetF (w0 w' : World) (P b n : Nat) (v : Value) (l : List (K × V)) (D : DataW Unit) (k x : Int) : Prop := ∃ w v', Two w0 w P b n v l D ∧ Own w' P P v' (putL lt l k x) ∧ Chg w w' P v v'
theorem DelF.map {w0 w' : World} {P b n : Nat} {v : Value} {l : List (K × V)} {D : DataW Unit} {k : Int} (h : DelF w0 w' P b n v l D k) : w'.ownsMap Try.prog 3 (plainElem Try.prog 3) b n D := by
  obtain ⟨w, v', h1, h2, h3⟩ := h
  exact (chg_below h1 h3).2
theorem SetF.map {w0 w' : World} {P b n : Nat} {v : Value} {l : List (K × V)} {D : DataW Unit} {k x : Int} (h : SetF w0 w' P b n v l D k x) : w'.ownsMap Try.prog 3 (plainElem Try.prog 3) b n D := by
  obtain ⟨w, v', h1, h2, h3⟩ := h
  exact (chg_below h1 h3).2
theorem DelF.ends {w0 w' w2 : World} {P b n : Nat} {v : Value} {l : List (K × V)} {D : DataW Unit} {k : Int} (h : DelF w0 w' P b n v l D k)
    (hm : w2.ownsMap Try.prog 3 (plainElem Try.prog 3) b n (D.del (.int .i64 k))) (hg : w'.grownBy w2 (some b)) : ∃ v' D', Two w0 w2 P b (n + 1) v' (delL lt l k) D' := by
  obtain ⟨w, v', h1, h2, h3⟩ := h
  exact ⟨_, _, h1.del h2 h3 hm hg⟩
theorem SetF.ends {w0 w' w2 : World} {P b n : Nat} {v : Value} {l : List (K × V)} {D : DataW Unit} {k x : Int} (h : SetF w0 w' P b n v l D k x)
    (hm : w2.ownsMap Try.prog 3 (plainElem Try.prog 3) b (n + 1) (D.put (.int .i64 k) (.lit (.int .i64 x)))) (hg : w'.grownBy w2 (some b)) : ∃ v' D', Two w0 w2 P b (n + 1) v' (putL lt l k x) D' := by
  obtain ⟨w, v', h1, h2, h3⟩ := h
  exact ⟨_, _, h1.put h2 h3 hm hg⟩
theorem del_f {w0 wr w : World} {P b n : Nat} {v : Value} {l : List (K × V)} {D : DataW Unit} {k y : Int} {bb : Bool} (h : Two w0 wr P b n v l D) (hB : Below wr.heap.size wr w) (hy : y = getL lt l k z0) (hbb : bb = hasB lt (keysOf l) k) :
    Calls Try.prog 39 #[.pointer (some ⟨P, 0, none⟩), .int .i64 k] w fun e w' => e = .returned (.tuple #[.int .i64 y, .bool bb]) ∧ Hid (DelF w0 w' P b n v l D k) := by
  refine (del_any P P v l k w (h.below hB).own).mono ?_
  rintro e w' ⟨v', rfl, h1, h2⟩
  exact ⟨by rw [hy, hbb], ⟨w, v', h.below hB, h1, h2⟩⟩
theorem set_f {w0 wr w : World} {P b n : Nat} {v : Value} {l : List (K × V)} {D : DataW Unit} {k x y : Int} {bb : Bool} (h : Two w0 wr P b n v l D) (hB : Below wr.heap.size wr w) (hl : l.length < 1000000) (hy : y = getL lt l k z0) (hbb : bb = hasB lt (keysOf l) k) :
    Calls Try.prog 40 #[.pointer (some ⟨P, 0, none⟩), .int .i64 k, .int .i64 x] w fun e w' => e = .returned (.tuple #[.int .i64 y, .bool bb, .int .i64 0]) ∧ Hid (SetF w0 w' P b n v l D k x) := by
  refine (set_any P P v l k x w (h.below hB).own hl).mono ?_
  rintro e w' ⟨v', rfl, h1, h2⟩
  exact ⟨by rw [hy, hbb], ⟨w, v', h.below hB, h1, h2⟩⟩
/-- What filled leaves. -/
def FilledOf (w : World) (cs : List C) (e : Ending) (w' : World) : Prop :=
  ∃ P b, e = .returned (.tuple #[.pointer (some ⟨P, 0, none⟩), .map (some b), .bool true]) ∧ Hid (∃ n v D, n ≤ 100 ∧ Two w w' P b n v (fill cs) D)
end Go.Proofs.Ytlfigdembgkkoaa.II
