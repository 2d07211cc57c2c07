/- OrdmapTypes: the state that the law keeps. -/
import Derived.Test.YtmjdkmdpegcalaaTypes
namespace Go.Proofs.Ytmjdkmdpegcalaa
open Go.RowKit Go.Maps Go.Shelf Go.Sort Go.Lib

theorem mapP_keep {w w' : World} {b n : Nat} {D : DataW PV} (h : w.ownsMap Try.prog 5 R b n D) (hb : w'.heap[b]? = w.heap[b]?) : w'.ownsMap Try.prog 5 R b n D := by
  obtain ⟨es, clock, h1, r⟩ := h
  exact ⟨es, clock, hb.trans h1, r⟩
/-- A block that no map of structs and no map of pointers has. -/
def Free (w : World) (b : Nat) : Prop := ∀ cs t fr, w.heap[b]? = some (.cells cs t fr) → t ≠ 158 ∧ t ≠ 164 ∧ t ≠ 161 ∧ t ≠ 167
theorem BQ.own_keeps {w w' : World} {B P : Nat} {v : Value} {l : List (BQ.K × BQ.V)} (h : BQ.Own w B P v l) (hP : w'.heap[P]? = w.heap[P]?) (hg : ∀ g, v.ownBlock = some g → w'.heap[g]? = w.heap[g]?) : BQ.Own w' B P v l :=
  ⟨h.hP, hP.trans h.blk, owns_of_block h.own hg, h.asc, h.len⟩
theorem BP.Own.off {w : World} {B P : Nat} {v : Value} {l : List (BP.K × BP.V)} (h : BP.Own w B P v l) {b : Nat} (hb : Free w b) : ¬ (b = P ∨ v.ownBlock = some b) := by
  rintro (rfl | e)
  · exact (hb _ _ _ h.blk).1 rfl
  · rcases h.own.2 with ⟨h0, _⟩ | ⟨g, cap, cur, hv, _, hh, _⟩
    · rw [h0] at e; cases e
    · rw [hv] at e
      obtain rfl : g = b := by simpa [Value.ownBlock] using e
      exact (hb _ _ _ hh).2.1 rfl
theorem BQ.Own.off {w : World} {B P : Nat} {v : Value} {l : List (BQ.K × BQ.V)} (h : BQ.Own w B P v l) {b : Nat} (hb : Free w b) : ¬ (b = P ∨ v.ownBlock = some b) := by
  rintro (rfl | e)
  · exact (hb _ _ _ h.blk).2.2.1 rfl
  · rcases h.own.2 with ⟨h0, _⟩ | ⟨g, cap, cur, hv, _, hh, _⟩
    · rw [h0] at e; cases e
    · rw [hv] at e
      obtain rfl : g = b := by simpa [Value.ownBlock] using e
      exact (hb _ _ _ hh).2.2.2 rfl
/-- Neither map has a block of the other's. -/
theorem own_apart {w : World} {B C P Q : Nat} {v u : Value} {l : List (BP.K × BP.V)} {m : List (BQ.K × BQ.V)} (h : BP.Own w B P v l) (k : BQ.Own w C Q u m) :
    (∀ b, (b = P ∨ v.ownBlock = some b) → ¬ (b = Q ∨ u.ownBlock = some b)) := by
  have e1 : ∀ b, (b = P ∨ v.ownBlock = some b) → ∃ cs t fr, w.heap[b]? = some (.cells cs t fr) ∧ (t = 158 ∨ t = 164) := by
    rintro b (rfl | e)
    · exact ⟨_, _, _, h.blk, .inl rfl⟩
    · rcases h.own.2 with ⟨h0, _⟩ | ⟨g, cap, cur, hv, _, hh, _⟩
      · rw [h0] at e; cases e
      · rw [hv] at e
        obtain rfl : g = b := by simpa [Value.ownBlock] using e
        exact ⟨_, _, _, hh, .inr rfl⟩
  have e2 : ∀ b, (b = Q ∨ u.ownBlock = some b) → ∃ cs t fr, w.heap[b]? = some (.cells cs t fr) ∧ (t = 161 ∨ t = 167) := by
    rintro b (rfl | e)
    · exact ⟨_, _, _, k.blk, .inl rfl⟩
    · rcases k.own.2 with ⟨h0, _⟩ | ⟨g, cap, cur, hv, _, hh, _⟩
      · rw [h0] at e; cases e
      · rw [hv] at e
        obtain rfl : g = b := by simpa [Value.ownBlock] using e
        exact ⟨_, _, _, hh, .inr rfl⟩
  intro b h1 h2
  obtain ⟨cs, t, fr, a1, a2⟩ := e1 b h1
  obtain ⟨cs', t', fr', b1, b2⟩ := e2 b h2
  rw [a1] at b1
  injection b1 with b1
  injection b1 with _ b1 _
  subst b1
  rcases a2 with rfl | rfl <;> rcases b2 with b2 | b2 <;> exact absurd b2 (by decide)
theorem free_box {w : World} {b : Nat} {t : TypeId} {v : Value} (h : Boxed w b t v) (ht : t ≠ 158 ∧ t ≠ 164 ∧ t ≠ 161 ∧ t ≠ 167) : Free w b := by
  intro cs t' fr e
  rw [show w.heap[b]? = _ from h] at e
  injection e with e
  injection e with _ e _
  subst e
  exact ht
theorem free_map {w : World} {b n : Nat} {D : DataW PV} (h : w.ownsMap Try.prog 5 R b n D) : Free w b := by
  obtain ⟨es, clock, h1, r⟩ := h
  intro cs t' fr e
  rw [h1] at e
  cases e
/-- The three maps: P, Q, b; X: boxes that hold numbers. -/
structure S (w0 w : World) (P Q b n : Nat) (v u : Value) (l : List (Int × PV)) (m : List (Int × Option Addr)) (X : Nat → Int → Prop) (D : DataW PV) : Prop where
  so : BP.Own w w0.heap.size P v l
  po : BQ.Own w w0.heap.size Q u m
  mp : w.ownsMap Try.prog 5 R b n D
  hb : w0.heap.size ≤ b
  bx : ∀ a x, X a x → Boxed w a 3 (.int .i64 x)
  bel : Below w0.heap.size w0 w
section
variable {w0 w w' : World} {P Q b n : Nat} {v u : Value} {l : List (Int × PV)} {m : List (Int × Option Addr)} {X : Nat → Int → Prop} {D : DataW PV}
theorem S.below (h : S w0 w P Q b n v u l m X D) (hb : Below w.heap.size w w') : S w0 w' P Q b n v u l m X D :=
  ⟨h.so.below hb, h.po.below hb, mapP_keep h.mp (hb.block b h.mp.lt), h.hb, fun a x hx => (hb.block _ (h.bx a x hx).lt).trans (h.bx a x hx), h.bel.trans (hb.mono h.bel.size)⟩
/-- One more box. -/
theorem S.box (h : S w0 w P Q b n v u l m X D) {a0 : Nat} {x0 : Int} (hx : Boxed w a0 3 (.int .i64 x0)) : S w0 w P Q b n v u l m (fun a x => X a x ∨ (a = a0 ∧ x = x0)) D :=
  ⟨h.so, h.po, h.mp, h.hb, fun a x hx' => hx'.elim (h.bx a x) fun e => by rw [e.1, e.2]; exact hx, h.bel⟩
theorem S.weak (h : S w0 w P Q b n v u l m X D) {Y : Nat → Int → Prop} (hy : ∀ a x, Y a x → X a x) : S w0 w P Q b n v u l m Y D := ⟨h.so, h.po, h.mp, h.hb, fun a x hx => h.bx a x (hy a x hx), h.bel⟩
/-- What a turn of the structs' map leaves. -/
def SetS (w0 w w' : World) (P Q b n : Nat) (u : Value) (l' : List (Int × PV)) (m : List (Int × Option Addr)) (X : Nat → Int → Prop) (D : DataW PV) : Prop :=
  (∃ v', S w0 w' P Q b n v' u l' m X D) ∧ ∀ c, c < w.heap.size → Free w c → w'.heap[c]? = w.heap[c]?
def SetQ (w0 w w' : World) (P Q b n : Nat) (v : Value) (l : List (Int × PV)) (m' : List (Int × Option Addr)) (X : Nat → Int → Prop) (D : DataW PV) : Prop :=
  (∃ u', S w0 w' P Q b n v u' l m' X D) ∧ ∀ c, c < w.heap.size → Free w c → w'.heap[c]? = w.heap[c]?
theorem free_int (t : TypeId) (ht : t = 3) : t ≠ 158 ∧ t ≠ 164 ∧ t ≠ 161 ∧ t ≠ 167 := by
  subst ht; decide
theorem s_set (h : S w0 w P Q b n v u l m X D) (hl : l.length < 1000000) (k : Int) (x : PV) {y : PV} {bb : Bool} (hy : y = getL ltI l k (0, (0, ⟨#[]⟩))) (hbb : bb = hasB ltI (keysOf l) k) :
    Calls Try.prog 44 #[.pointer (some ⟨P, 0, none⟩), .int .u8 k, pv x] w fun e w' => e = .returned (.tuple #[.agg #[.int .i64 y.1, .string y.2], .bool bb, .int .i64 0]) ∧ Hid (SetS w0 w w' P Q b n u (putL ltI l k x) m X D) := by
  refine (BP.set_any _ P v l k x w h.so hl).mono ?_
  rintro e w' ⟨v', rfl, ho, hc⟩
  refine ⟨by rw [hy, hbb]; rfl, ⟨v', ho, ?_, ?_, h.hb, ?_, ?_⟩, fun c hc' hf => hc.but.block c hc' (h.so.off hf)⟩
  · refine BQ.own_keeps h.po (hc.but.block _ (BQ.lt_of_heap h.po.blk) fun e => own_apart h.so h.po _ e (.inl rfl)) fun g hg => hc.but.block _ (owns_lt' h.po.own hg).2 fun e => own_apart h.so h.po _ e (.inr hg)
  · exact mapP_keep h.mp (hc.but.block b h.mp.lt (h.so.off (free_map h.mp)))
  · exact fun a x hx => (hc.but.block _ (h.bx a x hx).lt (h.so.off (free_box (h.bx a x hx) (free_int _ rfl)))).trans (h.bx a x hx)
  · refine ⟨hc.but.os.trans h.bel.os, hc.but.tape.trans h.bel.tape, hc.but.output.trans h.bel.output, Nat.le_trans h.bel.size hc.but.size, fun j hj => ?_⟩
    refine (hc.but.block j (Nat.lt_of_lt_of_le hj h.bel.size) ?_).trans (h.bel.block j hj)
    rintro (e | e)
    · have := h.so.hP; omega
    · have := (owns_lt' h.so.own e).1; omega
theorem q_set (h : S w0 w P Q b n v u l m X D) (hl : m.length < 1000000) (k : Int) (x : Option Addr) {y : Option Addr} {bb : Bool} (hy : y = getL ltI m k (0, none)) (hbb : bb = hasB ltI (keysOf m) k) :
    Calls Try.prog 45 #[.pointer (some ⟨Q, 0, none⟩), .int .u8 k, .pointer x] w fun e w' => e = .returned (.tuple #[.pointer y, .bool bb, .int .i64 0]) ∧ Hid (SetQ w0 w w' P Q b n v l (putL ltI m k x) X D) := by
  refine (BQ.set_any _ Q u m k x w h.po hl).mono ?_
  rintro e w' ⟨v', rfl, ho, hc⟩
  refine ⟨by rw [hy, hbb]; rfl, ⟨v', ?_, ho, ?_, h.hb, ?_, ?_⟩, fun c hc' hf => hc.but.block c hc' (h.po.off hf)⟩
  · refine BP.own_keeps h.so (hc.but.block _ (BP.lt_of_heap h.so.blk) fun e => own_apart h.so h.po _ (.inl rfl) e) fun g hg => hc.but.block _ (owns_lt' h.so.own hg).2 fun e => own_apart h.so h.po _ (.inr hg) e
  · exact mapP_keep h.mp (hc.but.block b h.mp.lt (h.po.off (free_map h.mp)))
  · exact fun a x hx => (hc.but.block _ (h.bx a x hx).lt (h.po.off (free_box (h.bx a x hx) (free_int _ rfl)))).trans (h.bx a x hx)
  · refine ⟨hc.but.os.trans h.bel.os, hc.but.tape.trans h.bel.tape, hc.but.output.trans h.bel.output, Nat.le_trans h.bel.size hc.but.size, fun j hj => ?_⟩
    refine (hc.but.block j (Nat.lt_of_lt_of_le hj h.bel.size) ?_).trans (h.bel.block j hj)
    rintro (e | e)
    · have := h.po.hP; omega
    · have := (owns_lt' h.po.own e).1; omega
/-- A store into the Go map. -/
theorem S.store (h : S w0 w P Q b n v u l m X D) {D' : DataW PV} {n' : Nat} (hm : w'.ownsMap Try.prog 5 R b n' D') (hg : w.grownBy w' (some b)) : S w0 w' P Q b n' v u l m X D' := by
  have hfb := free_map h.mp
  have hk : ∀ c, c < w.heap.size → c ≠ b → w'.heap[c]? = w.heap[c]? := fun c hc hne => hg.block c hc (fun e => hne (Option.some.inj e))
  have oP := h.so.off hfb
  have oQ := h.po.off hfb
  have ht : ∀ g, Boxed w g 3 v → True := fun _ _ => trivial
  refine ⟨BP.own_keeps h.so (hk _ (BP.lt_of_heap h.so.blk) fun e => oP (.inl e.symm)) fun g hg' => hk _ (owns_lt' h.so.own hg').2 fun e => oP (.inr (e ▸ hg')),
    BQ.own_keeps h.po (hk _ (BQ.lt_of_heap h.po.blk) fun e => oQ (.inl e.symm)) fun g hg' => hk _ (owns_lt' h.po.own hg').2 fun e => oQ (.inr (e ▸ hg')), hm, h.hb, fun a x hx => (hk a (h.bx a x hx).lt ?_).trans (h.bx a x hx),
    ⟨hg.os.trans h.bel.os, hg.tape.trans h.bel.tape, hg.output.trans h.bel.output, Nat.le_trans h.bel.size hg.size, fun j hj => (hk j (Nat.lt_of_lt_of_le hj h.bel.size) (by have := h.hb; omega)).trans (h.bel.block j hj)⟩⟩
  rintro rfl
  obtain ⟨es, clock, h1, r⟩ := h.mp
  rw [show w.heap[a]? = _ from h.bx a x hx] at h1
  cases h1
theorem q_get (h : S w0 w P Q b n v u l m X D) (k : Int) {y : Option Addr} {bb : Bool} (hy : y = getL ltI m k (0, none)) (hbb : bb = hasB ltI (keysOf m) k) :
    Calls Try.prog 48 #[.pointer (some ⟨Q, 0, none⟩), .int .u8 k] w fun e w' => e = .returned (.tuple #[.pointer y, .bool bb]) ∧ Below w.heap.size w w' := by
  obtain ⟨A, c, rfl, hh⟩ := h.po.has
  refine (BQ.get_any _ A c m k w hh).mono ?_
  rintro e w' ⟨rfl, hb⟩
  exact ⟨by rw [hy, hbb]; rfl, hb⟩
theorem S.look (h : S w0 w P Q b n v u l m X D) (hi : MapP D l) {k : Int} (hk : U8 k) {y : PV} (hy : y = getL ltI l k (0, (0, ⟨#[]⟩))) : (Instr.lookup 91 (.map (some b)) (.int .u8 k) false).run Try.prog w = .ok (pv y) w := by
  obtain ⟨z, ps, hrun, hz⟩ := h.mp.lookup key8 Try.underlying91 (zeroP w) (R_pv _) (keyOf8 hk)
  obtain ⟨x, rfl, e⟩ := R_inv hz
  rw [hi.at_] at e
  have e2 : getL ltI l k (0, (0, ⟨#[]⟩)) = x := by
    have e := congrArg Prod.fst e
    simpa using e
  rw [hy, e2]
  exact hrun
end
/-- A struct is itself. -/
theorem neq_pv (y : PV) (w : World) : (binOp .neq 87 (pv y) (pv y)).run Try.prog w = .ok (.bool false) w := by
  unfold pv
  go_simp
end Go.Proofs.Ytmjdkmdpegcalaa
