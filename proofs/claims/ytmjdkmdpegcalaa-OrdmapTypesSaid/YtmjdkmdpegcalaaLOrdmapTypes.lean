/- OrdmapTypes: the walk. -/
import Derived.Test.YtmjdkmdpegcalaaTState
import Derived.Test.YtmjdkmdpegcalaaWorks
import Derived.Test.YtmjdkmdpegcalaaBPIdxP
import Derived.Test.YtmjdkmdpegcalaaRound
import Derived.Sort.QuietIn
import Derived.Deep.Onto
import Derived.BigQuiet
namespace Go.Proofs.Ytmjdkmdpegcalaa
open Go.RowKit Go.Maps Go.Shelf Go.Sort Go.Lib
attribute [local go_sem] Oper.semAt_some

/-- A slice of integers that came in: nil, or a row of cells. -/
def IsRow (k : IntKind) (w : World) (a : Option Addr) (len cap : Nat) (zs : List Int) : Prop :=
  (a = none ∧ len = 0 ∧ cap = 0 ∧ zs = []) ∨
  ∃ x, a = some x ∧ len ≤ cap ∧ cap ≤ maxLen ∧ zs.length = cap ∧ (∀ i, i < zs.length → w.cell? (x.add i) = some (.int k (zs.getD i 0))) ∧ ∀ n ∈ zs, (Lit.int k n).wf = true
theorem IsRow.len {k : IntKind} {w : World} {a : Option Addr} {len cap : Nat} {zs : List Int} (h : IsRow k w a len cap zs) : len ≤ cap ∧ cap ≤ 9223372036854775807 := by
  rcases h with ⟨_, rfl, rfl, _⟩ | ⟨x, _, hl, hm, _⟩
  · omega
  · unfold maxLen at hm; omega
/-- One byte in memory, in a world that has come of the first; the bytes ahead of it, as a string. -/
theorem IsRow.at8 {w w' : World} {a : Option Addr} {len cap : Nat} {zs : List Int} (h : IsRow .u8 w a len cap zs) (hb : Below w.heap.size w w') {k : Nat} (hk : k < len) :
    ∃ (b o : Nat) (x : Int), a = some ⟨b, o, none⟩ ∧ zs[k]? = some x ∧ U8 x ∧ w'.cell? ⟨b, o + k, none⟩ = some (.int .u8 x) ∧ ∀ W, Below w.heap.size w W → (convert 83 9 (.slice (some ⟨b, o, none⟩) k cap)).run Try.prog W = .ok (.string (strOfNums (zs.take k))) W := by
  rcases h with ⟨rfl, rfl, _⟩ | ⟨x, rfl, hl, _, hz, hc, hw⟩
  · omega
  · have hkz : k < zs.length := by omega
    obtain ⟨b, o, sp⟩ := x
    have h0 := hc 0 (by omega)
    have hs : sp = none := by simpa [Addr.add] using World.cell?_spot h0
    subst hs
    have h1 := hc k hkz
    rw [IS.add_plain] at h1
    have e : zs.getD k 0 = zs[k] := by simp [hkz]
    have hwf := hw _ (List.getElem_mem hkz)
    rw [e] at h1
    refine ⟨b, o, zs[k], rfl, List.getElem?_eq_getElem hkz, ?_, (hb.cell (p := ⟨b, o + k, none⟩) (IS.lt_of_cell h1)).trans h1, fun W hW => ?_⟩
    · simp [Lit.wf, show IntKind.u8.min = 0 from by decide, show IntKind.u8.max = 255 from by decide] at hwf
      exact ⟨hwf.1, by have := hwf.2; omega⟩
    · refine run_convert_bytes_arg (P := Try.prog) W 83 5 Try.underlying83 Try.underlying5 b o k cap (zs.take k) (by rw [List.length_take]; omega) (fun i hi => ?_) 9 Try.underlying9
      have hi' : i < zs.length := by omega
      have h2 := hc i hi'
      rw [IS.add_plain] at h2
      have hik : i < k := hi
      refine (hW.cell (p := ⟨b, o + i, none⟩) (IS.lt_of_cell h2)).trans (h2.trans ?_)
      simp [List.getD, hik]
theorem slice_bytes (A : Option Addr) (n c r : Nat) (h : r ≤ c) (w' : World) : (Instr.slice 83 (.slice A n c) none (some (.int .i64 (r : Int))) none).run Try.prog w' = .ok (.slice A r c) w' := by
  cases A <;> simp [Instr.slice, run_underlying Try.underlying83, Instr.sliceBounds, Instr.sliceBound, asIntOf, h, Addr.add]
/-- The pairs so far. -/
def prs (zs : List Int) (k : Nat) : List (Int × PV) := (List.range k).foldl (fun l (i : Nat) => putL ltI l (zs.getD i 0) ((i : Int), strOfNums (zs.take i))) []
theorem prs_suc {zs : List Int} {k : Nat} {x : Int} (h : zs[k]? = some x) : prs zs (k + 1) = putL ltI (prs zs k) x ((k : Int), strOfNums (zs.take k)) := by
  simp [prs, List.range_succ, List.foldl_append, List.getD, h]
theorem prs_len (zs : List Int) (k : Nat) : (prs zs k).length ≤ k := by
  induction k with
  | zero => simp [prs]
  | succ k ih =>
    have e : prs zs (k + 1) = putL ltI (prs zs k) (zs.getD k 0) ((k : Int), strOfNums (zs.take k)) := by simp [prs, List.range_succ, List.foldl_append]
    rw [e, len_put]; split <;> omega
/-- What the law keeps: z the result's box, pb the pointers' map's, wb the Go map's. -/
structure T (w0 w : World) (z P Q b pb wb k : Nat) (l : List (Int × PV)) : Prop where
  way : ∃ v u D q, S w0 w P Q b k v u l (ptrs q l) (fun a x => ∃ y ∈ l, a = q y.1 ∧ x = y.2.1) D ∧ MapP D l
  bz : Boxed w z 4 (.bool false)
  bp : Boxed w pb 88 (.pointer (some ⟨Q, 0, none⟩))
  bw : Boxed w wb 91 (.map (some b))
theorem T.below {w0 w w' : World} {z P Q b pb wb k : Nat} {l : List (Int × PV)} (h : T w0 w z P Q b pb wb k l) (hb : Below w.heap.size w w') : T w0 w' z P Q b pb wb k l := by
  obtain ⟨v, u, D, q, h1, h2⟩ := h.way
  exact ⟨⟨v, u, D, q, h1.below hb, h2⟩, (hb.block _ h.bz.lt).trans h.bz, (hb.block _ h.bp.lt).trans h.bp, (hb.block _ h.bw.lt).trans h.bw⟩
theorem T.bel {w0 w : World} {z P Q b pb wb k : Nat} {l : List (Int × PV)} (h : T w0 w z P Q b pb wb k l) : Below w0.heap.size w0 w := by
  obtain ⟨v, u, D, q, h1, h2⟩ := h.way
  exact h1.bel
theorem T.asc {w0 w : World} {z P Q b pb wb k : Nat} {l : List (Int × PV)} (h : T w0 w z P Q b pb wb k l) : Asc ltI (keysOf l) := by
  obtain ⟨v, u, D, q, h1, h2⟩ := h.way
  exact h1.so.asc
/-- The two calls of a round, and what is then to be seen: y the old struct, bb whether there was one. -/
structure Mid (w0 w : World) (z P Q b pb wb k nb : Nat) (l : List (Int × PV)) (kk : Int) (x : PV) (y : PV) (bb : Bool) (p : Option Addr) : Prop where
  way : ∃ v u D q, S w0 w P Q b k v u (putL ltI l kk x) (ptrs q (putL ltI l kk x)) (fun a x' => ∃ y ∈ putL ltI l kk x, a = q y.1 ∧ x' = y.2.1) D ∧ MapP D l ∧ Asc ltI (keysOf l)
  ys : y = getL ltI l kk (0, (0, ⟨#[]⟩))
  bbs : bb = hasB ltI (keysOf l) kk
  ps : bb = true → ∃ a, p = some ⟨a, 0, none⟩ ∧ Boxed w a 3 (.int .i64 y.1)
  bz : Boxed w z 4 (.bool false)
  bp : Boxed w pb 88 (.pointer (some ⟨Q, 0, none⟩))
  bw : Boxed w wb 91 (.map (some b))
/-- .. behind the first. -/
structure One (w0 w : World) (z P Q b pb wb k nb : Nat) (l : List (Int × PV)) (kk : Int) (x : PV) : Prop where
  way : ∃ v u D q, S w0 w P Q b k v u (putL ltI l kk x) (ptrs q l) (fun a x => ∃ y ∈ l, a = q y.1 ∧ x = y.2.1) D ∧ MapP D l ∧ Asc ltI (keysOf l)
  bn : Boxed w nb 3 (.int .i64 x.1)
  bz : Boxed w z 4 (.bool false)
  bp : Boxed w pb 88 (.pointer (some ⟨Q, 0, none⟩))
  bw : Boxed w wb 91 (.map (some b))
theorem One.below {w0 w w' : World} {z P Q b pb wb k nb : Nat} {l : List (Int × PV)} {kk : Int} {x : PV} (h : One w0 w z P Q b pb wb k nb l kk x) (hb : Below w.heap.size w w') : One w0 w' z P Q b pb wb k nb l kk x := by
  obtain ⟨v, u, D, q, h1, h2⟩ := h.way
  exact ⟨⟨v, u, D, q, h1.below hb, h2⟩, (hb.block _ h.bn.lt).trans h.bn, (hb.block _ h.bz.lt).trans h.bz, (hb.block _ h.bp.lt).trans h.bp, (hb.block _ h.bw.lt).trans h.bw⟩
theorem keep_box {w w' : World} {a : Nat} {t : TypeId} {v : Value} (hk : ∀ c, c < w.heap.size → Free w c → w'.heap[c]? = w.heap[c]?) (h : Boxed w a t v) (ht : t ≠ 158 ∧ t ≠ 164 ∧ t ≠ 161 ∧ t ≠ 167) : Boxed w' a t v :=
  (hk a h.lt (free_box h ht)).trans h
theorem free_pair {w : World} {a : Nat} {cs : Array Value} (h : w.heap[a]? = some (.cells cs 87 (0, 0))) : Free w a := by
  intro cs' t' fr e
  rw [h] at e
  injection e with e
  injection e with _ e _
  subst e
  decide
theorem keep_pair {w w' : World} {a : Nat} {cs : Array Value} (hk : ∀ c, c < w.heap.size → Free w c → w'.heap[c]? = w.heap[c]?) (h : w.heap[a]? = some (.cells cs 87 (0, 0))) : w'.heap[a]? = some (.cells cs 87 (0, 0)) := (hk a (IS.lt_of_heap h) (free_pair h)).trans h
theorem one_any {w0 w1 w : World} {z P Q b pb wb k nb : Nat} {l : List (Int × PV)} {kk : Int} {x y : PV} {bb : Bool} (h : T w0 w1 z P Q b pb wb k l) (hB : Below w1.heap.size w1 w) (hl : l.length ≤ 1000) (hn : Boxed w nb 3 (.int .i64 x.1)) (hy : y = getL ltI l kk (0, (0, ⟨#[]⟩))) (hbb : bb = hasB ltI (keysOf l) kk) :
    Calls Try.prog 44 #[.pointer (some ⟨P, 0, none⟩), .int .u8 kk, pv x] w fun e w' => e = .returned (.tuple #[.agg #[.int .i64 y.1, .string y.2], .bool bb, .int .i64 0]) ∧ Hid (One w0 w' z P Q b pb wb k nb l kk x ∧ ∀ c, c < w.heap.size → Free w c → w'.heap[c]? = w.heap[c]?) := by
  have h' := h.below hB
  obtain ⟨v, u, D, q, h1, h2⟩ := h'.way
  refine (s_set h1 (by omega) kk x hy hbb).mono ?_
  rintro e w' ⟨rfl, ⟨v', h3⟩, hk⟩
  exact ⟨rfl, ⟨⟨v', u, D, q, h3, h2, h'.asc⟩, keep_box hk hn (free_int _ rfl), keep_box hk h'.bz (by decide), keep_box hk h'.bp (by decide), keep_box hk h'.bw (by decide)⟩, hk⟩
theorem mid_any {w0 w1 w : World} {z P Q b pb wb k nb : Nat} {l : List (Int × PV)} {kk : Int} {x y : PV} {bb : Bool} (h : One w0 w1 z P Q b pb wb k nb l kk x) (hB : Below w1.heap.size w1 w) (hl : l.length ≤ 1000) (hy : y = getL ltI l kk (0, (0, ⟨#[]⟩))) (hbb : bb = hasB ltI (keysOf l) kk) :
    Calls Try.prog 45 #[.pointer (some ⟨Q, 0, none⟩), .int .u8 kk, .pointer (some ⟨nb, 0, none⟩)] w fun e w' => ∃ p, e = .returned (.tuple #[.pointer p, .bool bb, .int .i64 0]) ∧ Hid (Mid w0 w' z P Q b pb wb k nb l kk x y bb p ∧ ∀ c, c < w.heap.size → Free w c → w'.heap[c]? = w.heap[c]?) := by
  have h' := h.below hB
  obtain ⟨v, u, D, q, h1, h2, ha⟩ := h'.way
  have hg := ptrs_get q l kk
  refine (q_set h1 (by simp [ptrs]; omega) kk (some ⟨nb, 0, none⟩) rfl (hbb.trans hg.1.symm)).mono ?_
  rintro e w' ⟨rfl, ⟨u', h3⟩, hk⟩
  rw [ptrs_put ha kk x nb] at h3
  have ht : Tied w' q l := fun a hx => h3.bx _ _ ⟨a, hx, rfl, rfl⟩
  have hn : Boxed w' nb 3 (.int .i64 x.1) := keep_box hk h'.bn (free_int _ rfl)
  have ht2 := ht.put ha (k := kk) (v := x) hn
  refine ⟨_, rfl, ⟨⟨v, u', D, upd q kk nb, ⟨h3.so, h3.po, h3.mp, h3.hb, ?_, h3.bel⟩, h2, ha⟩, hy, hbb, ?_, keep_box hk h'.bz (by decide), keep_box hk h'.bp (by decide), keep_box hk h'.bw (by decide)⟩, hk⟩
  · rintro a x' ⟨y', hy', rfl, rfl⟩
    exact ht2 y' hy'
  · intro e
    have e2 := hbb.symm.trans e
    refine ⟨q kk, by rw [hg.2, e2]; rfl, ?_⟩
    rw [hy]
    exact ht.at ha e2
theorem Mid.below {w0 w w' : World} {z P Q b pb wb k nb : Nat} {l : List (Int × PV)} {kk : Int} {x y : PV} {bb : Bool} {p : Option Addr} (h : Mid w0 w z P Q b pb wb k nb l kk x y bb p) (hb : Below w.heap.size w w') : Mid w0 w' z P Q b pb wb k nb l kk x y bb p := by
  obtain ⟨v, u, D, q, h1, h2⟩ := h.way
  exact ⟨⟨v, u, D, q, h1.below hb, h2⟩, h.ys, h.bbs, (fun e => by obtain ⟨a, e1, e2⟩ := h.ps e; exact ⟨a, e1, (hb.block _ e2.lt).trans e2⟩), (hb.block _ h.bz.lt).trans h.bz, (hb.block _ h.bp.lt).trans h.bp, (hb.block _ h.bw.lt).trans h.bw⟩
/-- Behind the store. -/
theorem Mid.store {w0 w : World} {z P Q b pb wb k nb : Nat} {l : List (Int × PV)} {kk : Int} {x y : PV} {bb : Bool} {p : Option Addr} (h : Mid w0 w z P Q b pb wb k nb l kk x y bb p) (hk : U8 kk) (hn : k < 1000) :
    ∃ w', (Instr.mapUpdate 91 (.map (some b)) (.int .u8 kk) (pv x)).run Try.prog w = .ok () w' ∧ T w0 w' z P Q b pb wb (k + 1) (putL ltI l kk x) := by
  obtain ⟨v, u, D, q, h1, h2, ha⟩ := h.way
  obtain ⟨w', hrun, hm, hg⟩ := h1.mp.update key8 Try.underlying91 (by unfold maxLen; omega) (keyOf8 hk) (R_pv x)
  have kb : ∀ {a : Nat} {t : TypeId} {v : Value}, Boxed w a t v → Boxed w' a t v := fun {a t v} hx => (hg.block a hx.lt (fun e => by
    obtain ⟨es, clock, e1, r⟩ := h1.mp
    rw [← Option.some.inj e, show w.heap[a]? = _ from hx] at e1
    cases e1)).trans hx
  exact ⟨w', hrun, ⟨v, u, _, q, h1.store hm hg, h2.put ha kk x⟩, kb h.bz, kb h.bp, kb h.bw⟩
theorem Mid.look {w0 w : World} {z P Q b pb wb k nb : Nat} {l : List (Int × PV)} {kk : Int} {x y : PV} {bb : Bool} {p : Option Addr} (h : Mid w0 w z P Q b pb wb k nb l kk x y bb p) (hk : U8 kk) (j : Nat) :
    (Instr.lookup 91 (.map (some b)) (.int .u8 kk) false).run Try.prog (w.drewN j) = .ok (.agg #[.int .i64 y.1, .string y.2]) (w.drewN j) := by
  obtain ⟨v, u, D, q, h1, h2, ha⟩ := h.way
  have hm : (w.drewN j).ownsMap Try.prog 5 R b k D := h1.mp
  obtain ⟨zz, ps, hrun, hz⟩ := hm.lookup key8 Try.underlying91 (zeroP _) (R_pv _) (keyOf8 hk)
  obtain ⟨x', rfl, e⟩ := R_inv hz
  rw [h2.at_] at e
  have e2 : getL ltI l kk (0, (0, ⟨#[]⟩)) = x' := by
    have e := congrArg Prod.fst e
    simpa using e
  rw [h.ys, e2]
  exact hrun
theorem BP.own_base {w : World} {B B' P : Nat} {v : Value} {l : List (BP.K × BP.V)} (h : BP.Own w B P v l) (hb : B' ≤ B) : BP.Own w B' P v l := ⟨Nat.le_trans hb h.hP, h.blk, World.ownsRow.mono h.own hb, h.asc, h.len⟩
theorem BQ.own_base {w : World} {B B' P : Nat} {v : Value} {l : List (BQ.K × BQ.V)} (h : BQ.Own w B P v l) (hb : B' ≤ B) : BQ.Own w B' P v l := ⟨Nat.le_trans hb h.hP, h.blk, World.ownsRow.mono h.own hb, h.asc, h.len⟩
/-- The three maps, made. -/
theorem t_start {w W0 w1 w2 w3 : World} (hW0 : W0 = w.alloc (.cells #[.bool false] 4)) (h1 : BP.Own w1 W0.heap.size W0.heap.size (.slice none 0 0) [] ∧ Below W0.heap.size W0 w1) (h2 : BQ.Own w2 w1.heap.size w1.heap.size (.slice none 0 0) [] ∧ Below w1.heap.size w1 w2)
    (h3 : w3 = ((w2.alloc (.cells #[.pointer (some ⟨w1.heap.size, 0, none⟩)] 88)).alloc (.map #[] 0)).alloc (.cells #[.map (some (w2.heap.size + 1))] 91)) :
    T w w3 w.heap.size (w.heap.size + 1) w1.heap.size (w2.heap.size + 1) w2.heap.size (w2.heap.size + 1 + 1) 0 [] := by
  have hs0 : W0.heap.size = w.heap.size + 1 := by rw [hW0]; simp
  rw [← hs0]
  have b0 : Below w.heap.size w W0 := by rw [hW0]; exact (Below.refl _ w).alloc (Nat.le_refl _) _
  have bz : Boxed W0 w.heap.size 4 (.bool false) := by rw [hW0]; exact Boxed.new w _ _
  have b23 : Below w2.heap.size w2 w3 := by rw [h3]; exact (((Below.refl _ w2).alloc (Nat.le_refl _) _).alloc (by simp) _).alloc (by simp; omega) _
  have b13 : Below w1.heap.size w1 w3 := h2.2.trans (b23.mono h2.2.size)
  have b03 : Below W0.heap.size W0 w3 := h1.2.trans (b13.mono h1.2.size)
  have s1 := h1.2.size
  have s2 := h2.2.size
  have p1 : Boxed w3 w2.heap.size 88 (.pointer (some ⟨w1.heap.size, 0, none⟩)) := by
    rw [h3]
    exact ((Boxed.new w2 88 (.pointer (some ⟨w1.heap.size, 0, none⟩))).alloc _).alloc _
  have p2 : Boxed w3 (w2.heap.size + 2) 91 (.map (some (w2.heap.size + 1))) := by
    have h := Boxed.new ((w2.alloc (.cells #[.pointer (some ⟨w1.heap.size, 0, none⟩)] 88)).alloc (.map #[] 0)) 91 (.map (some (w2.heap.size + 1)))
    rw [World.size_alloc, World.size_alloc] at h
    rw [h3]; exact h
  have p3 : w3.ownsMap Try.prog 5 R (w2.heap.size + 1) 0 (.map []) := by
    have h := World.ownsMap_made (w2.alloc (.cells #[.pointer (some ⟨w1.heap.size, 0, none⟩)] 88)) Try.prog 5 R
    rw [World.size_alloc] at h
    rw [h3]; exact h.alloc _
  exact ⟨⟨_, _, _, fun _ => 0, ⟨BP.own_base (h1.1.below (h2.2.trans (b23.mono s2))) (by omega), BQ.own_base (h2.1.below b23) (by omega), p3, by omega, (fun a x h => by obtain ⟨y, hy, _⟩ := h; cases hy), b0.trans (b03.mono (by omega))⟩, mapP_nil⟩, (b03.block _ bz.lt).trans bz, p1, p2⟩
/-! The second loop. -/
theorem prs_asc (zs : List Int) (k : Nat) : Asc ltI (keysOf (prs zs k)) := by
  induction k with
  | zero => exact List.Pairwise.nil
  | succ k ih =>
    have e : prs zs (k + 1) = putL ltI (prs zs k) (zs.getD k 0) ((k : Int), strOfNums (zs.take k)) := by simp [prs, List.range_succ, List.foldl_append]
    rw [e]
    exact asc_put kord_int ih _ _
theorem prs_u8 {w : World} {a : Option Addr} {len cap : Nat} {zs : List Int} (h : IsRow .u8 w a len cap zs) {k : Nat} (hk : k ≤ len) : ∀ x ∈ prs zs k, U8 x.1 := by
  induction k with
  | zero => intro x hx; cases hx
  | succ k ih =>
    obtain ⟨b, o, c, _, hz, hu, _⟩ := h.at8 (Below.refl _ w) (show k < len by omega)
    intro x hx
    rw [prs_suc hz] at hx
    rcases (mem_put kord_int (prs_asc zs k) _ _ x).1 hx with rfl | ⟨hx, _⟩
    · exact hu
    · exact ih (by omega) x hx
/-- The key of the last item that was seen. -/
def lastOf (l : List (Int × PV)) (pre : List Nat) : Int := match pre.getLast? with | none => -1 | some i => (BP.itemAt l i).1
theorem lastOf_snoc (l : List (Int × PV)) (pre : List Nat) (i : Nat) : lastOf l (pre ++ [i]) = (BP.itemAt l i).1 := by simp [lastOf]
theorem last_lt {l : List (Int × PV)} (ha : Asc ltI (keysOf l)) (hu : ∀ x ∈ l, U8 x.1) {pre : List Nat} {i : Nat} (hp : pre ++ [i] = List.range (pre ++ [i]).length) (hl : pre.length < l.length) : lastOf l pre < (BP.itemAt l i).1 := by
  rw [BP.range_snoc_nat] at hp
  obtain ⟨h1, h2⟩ := List.append_inj hp (by simp)
  obtain rfl : i = pre.length := by simpa using h2
  rw [BP.itemAt_eq hl]
  unfold lastOf
  cases hg : pre.getLast? with
  | none => have := (hu _ (List.getElem_mem hl)).1; dsimp only; omega
  | some j =>
    have hj : j + 1 = pre.length := by
      rw [h1, List.getLast?_range] at hg
      split at hg
      · cases hg
      · have := Option.some.inj hg; omega
    have hjl : j < l.length := by omega
    dsimp only
    rw [BP.itemAt_eq hjl]
    have := List.pairwise_iff_getElem.1 ha j pre.length (by simpa using hjl) (by simpa using hl) (by omega)
    simpa [keysOf] using this
theorem t_get {w0 w : World} {z P Q b pb wb k : Nat} {l : List (Int × PV)} (h : T w0 w z P Q b pb wb k l) {x : Int × PV} (hx : x ∈ l) :
    ∃ a, Boxed w a 3 (.int .i64 x.2.1) ∧ Calls Try.prog 48 #[.pointer (some ⟨Q, 0, none⟩), .int .u8 x.1] w fun e w' => e = .returned (.tuple #[.pointer (some ⟨a, 0, none⟩), .bool true]) ∧ Below w.heap.size w w' := by
  obtain ⟨v, u, D, q, h1, h2⟩ := h.way
  have hg := ptrs_get q l x.1
  have hh := (getL_mem kord_int h1.so.asc hx (0, (0, ⟨#[]⟩))).1
  refine ⟨q x.1, h1.bx _ _ ⟨x, hx, rfl, rfl⟩, q_get h1 x.1 ?_ ?_⟩
  · rw [hg.2, show hasB ltI (keysOf l) x.1 = true from hh]; rfl
  · rw [hg.1]; exact hh.symm
theorem t_look {w0 w : World} {z P Q b pb wb k : Nat} {l : List (Int × PV)} (h : T w0 w z P Q b pb wb k l) {x : Int × PV} (hx : x ∈ l) (hk : U8 x.1) (j : Nat) :
    (Instr.lookup 91 (.map (some b)) (.int .u8 x.1) false).run Try.prog (w.drewN j) = .ok (.agg #[.int .i64 x.2.1, .string x.2.2]) (w.drewN j) := by
  obtain ⟨v, u, D, q, h1, h2⟩ := h.way
  have hm : (w.drewN j).ownsMap Try.prog 5 R b k D := h1.mp
  obtain ⟨zz, ps, hrun, hz⟩ := hm.lookup key8 Try.underlying91 (zeroP _) (R_pv _) (keyOf8 hk)
  obtain ⟨x', rfl, e⟩ := R_inv hz
  rw [h2.at_] at e
  have hh := (getL_mem kord_int h1.so.asc hx (0, (0, ⟨#[]⟩))).2
  have e2 : x.2 = x' := by
    have e := congrArg Prod.fst e
    have e : getL ltI l x.1 (0, (0, ⟨#[]⟩)) = x' := by simpa using e
    exact hh.symm.trans e
  rw [e2]
  exact hrun
theorem keeps_below {W W' : World} (h : Below W.heap.size W W') : KeepsOthers W W' := ⟨h.size, fun k _ hk _ => (h.block k (IS.lt_of_heap hk)).trans hk⟩
theorem T.len {w0 w : World} {z P Q b pb wb k : Nat} {l : List (Int × PV)} (h : T w0 w z P Q b pb wb k l) (ty : TypeId) : (Builtin.len_ #[91] ty #[.map (some b)]).run Try.prog w = .ok (.int .i64 (l.length : Nat)) w := by
  obtain ⟨v, u, D, q, h1, h2⟩ := h.way
  rw [← h2.size]
  exact h1.mp.len Try.underlying91 ty
theorem T.len_set {w0 w : World} {z P Q b pb wb k : Nat} {l : List (Int × PV)} (h : T w0 w z P Q b pb wb k l) (u : Value) (ty : TypeId) : (Builtin.len_ #[91] ty #[.map (some b)]).run Try.prog (w.setCell ⟨z, 0, none⟩ u) = .ok (.int .i64 (l.length : Nat)) (w.setCell ⟨z, 0, none⟩ u) := by
  obtain ⟨v, u', D, q, h1, h2⟩ := h.way
  rw [← h2.size]
  refine World.ownsMap.len (mapP_keep h1.mp (Below.heap_setCell _ _ _ _ fun e => ?_)) Try.underlying91 ty
  obtain ⟨es, clock, h3, r⟩ := h1.mp
  have h4 := h.bz
  unfold Boxed at h4
  rw [show b = z from e, h4] at h3
  cases h3
theorem T.lenS {w0 w : World} {z P Q b pb wb k : Nat} {l : List (Int × PV)} (h : T w0 w z P Q b pb wb k l) : Calls Try.prog 49 #[.pointer (some ⟨P, 0, none⟩)] w fun e w' => e = .returned (.int .i64 (l.length : Nat)) ∧ Below w.heap.size w w' := by
  obtain ⟨v, u, D, q, h1, h2⟩ := h.way
  obtain ⟨A, c, _, hh⟩ := h1.so.has
  exact (BP.len_any _ A c l w hh).mono fun e w' h => ⟨h.1, h.2 ▸ Below.refl _ _⟩
theorem T.lenQ {w0 w : World} {z P Q b pb wb k : Nat} {l : List (Int × PV)} (h : T w0 w z P Q b pb wb k l) : Calls Try.prog 50 #[.pointer (some ⟨Q, 0, none⟩)] w fun e w' => e = .returned (.int .i64 (l.length : Nat)) ∧ Below w.heap.size w w' := by
  obtain ⟨v, u, D, q, h1, h2⟩ := h.way
  obtain ⟨A, c, _, hh⟩ := h1.po.has
  refine (BQ.len_any _ A c _ w hh).mono fun e w' h => ⟨?_, h.2 ▸ Below.refl _ _⟩
  rw [h.1]
  simp [ptrs]
theorem with_tmps {F : Fence} {n : Nat} {P : Program} {c : Code} {Q : Exit → Act → World → Prop} {a : Act} {w : World} (h : ∀ tm, tm = a.tmps → c.wpIn F n P Q { tmps := tm, defers := a.defers } w) : c.wpIn F n P Q a w := h _ rfl
def Pair (W : World) (xb : Nat) (x : PV) : Prop := W.heap[xb]? = some (.cells #[.int .i64 x.1, .string x.2] 87 (0, 0))
theorem pair_own (xb : Nat) (x : PV) : Own (fun (_ : Unit) W => Pair W xb x) := fun s X Y row hs hg hrow => by
  refine (hg.block xb (IS.lt_of_heap hs) (fun e => ?_)).trans hs
  obtain ⟨o, ho, hc⟩ := hrow xb e.symm
  rw [show X.heap[xb]? = _ from hs] at ho; cases ho; cases hc
set_option maxRecDepth 1000000 in
set_option maxHeartbeats 16000000 in
theorem ordmapTypes_walk (a0 : Option Addr) (len0 cap0 : Nat) (z0 : List Int) (w : World) (w0 : IsRow .u8 w a0 len0 cap0 z0) :
    Calls Try.prog 9 #[.slice a0 len0 cap0] w fun e w' => e = .returned (.bool true) ∧ Below w.heap.size w w' := by
  have hcap := w0.len
  obtain ⟨n, hn⟩ : ∃ n, n = min len0 100 := ⟨_, rfl⟩
  have hmi : min (len0 : Int) 100 = (n : Nat) := by omega
  have hnl : n ≤ len0 := by omega
  have hn100 : n ≤ 100 := by omega
  have hsl := slice_bytes a0 len0 cap0 n (by omega)
  have gM := Lib.hid w0
  have hmm := @run_makeMap Try.prog
  have t1 : Fence.wide.fn 48 := trivial
  have t2 : Fence.wide.fn 10 := trivial
  have t3 : Fence.wide.fn 49 := trivial
  have t4 : Fence.wide.fn 50 := trivial
  clear w0 hn
  refine (callsIn_wide (n := 6)).1 ?_
  refine callsIn_of_wp_marks Try.func9 rfl trivial ?_ rfl
  simp only [Try.ntmps9, List.size_toArray, List.length_cons, List.length_nil, Nat.reduceAdd, Nat.reduceSub, Array.replicate_succ, Array.replicate_zero, List.push_toArray, List.append_toArray, List.nil_append, List.cons_append]
  refine wpIn_wide.2 ?_
  go_wp2_with fail
  obtain ⟨W0, hW0⟩ : ∃ W0, W0 = w.alloc (.cells #[.bool false] 4) := ⟨_, rfl⟩
  rw [← hW0]
  refine (BP.new_any _).mono ?_
  rintro e w1 ⟨rfl, h1⟩
  go_wp2_with fail
  refine (BQ.new_any _).mono ?_
  rintro e w2 ⟨rfl, h2⟩
  have g1 := Lib.hid h1
  have g2 := Lib.hid h2
  have gW0 := Lib.hid hW0
  clear h1 h2 hW0
  go_wp2_with fail
  clear hmm hsl
  obtain ⟨w3, hw3⟩ : ∃ w3, w3 = ((w2.alloc (.cells #[.pointer (some ⟨w1.heap.size, 0, none⟩)] 88)).alloc (.map #[] 0)).alloc (.cells #[.map (some (w2.heap.size + 1))] 91) := ⟨_, rfl⟩
  have gT0 := Lib.hid (t_start gW0.out g1.out g2.out hw3)
  rw [← hw3]
  obtain ⟨z, hz⟩ : ∃ z, z = w.heap.size := ⟨_, rfl⟩
  obtain ⟨Q, hQ⟩ : ∃ Q, Q = w1.heap.size := ⟨_, rfl⟩
  obtain ⟨y, hy⟩ : ∃ y, y = w2.heap.size := ⟨_, rfl⟩
  rw [← hz, ← hQ, ← hy] at gT0
  rw [← hQ, ← hy]
  have gz := Lib.hid hz
  clear hz hQ hy hw3 g1 g2 gW0
  go_loopw [30] (fun i wr => ∃ k : Nat, k ≤ n ∧ i = .int .i64 (k : Nat) ∧ Hid (T w wr z (z + 1) Q (y + 1) y (y + 1 + 1) k (prs z0 k))) (fun i _ => n - (intOf i).toNat)
  case atStart => exact ⟨0, by omega, rfl, gT0.out⟩
  case round =>
    obtain ⟨k, hk, rfl, gT⟩ := hrel
    clear gT0
    rw [← gz.out]
    by_cases hlt : k < n
    · obtain ⟨bb, oo, kk, rfl, hzk, hu, hc, hcv⟩ := gM.out.at8 gT.out.bel (show k < len0 by omega)
      have hcv' := hcv wr gT.out.bel
      have hsl := slice_bytes (some ⟨bb, oo, none⟩) len0 cap0 k (by omega)
      have k1 := gT.out.bp.cell
      have k2 := gT.out.bw.cell
      obtain ⟨xs, hxs⟩ : ∃ xs, xs = strOfNums (z0.take k) := ⟨_, rfl⟩
      rw [← hxs] at hcv'
      obtain ⟨l, hl⟩ : ∃ l, l = prs z0 k := ⟨_, rfl⟩
      rw [← hl] at gT
      have hl1 : l.length ≤ 1000 := by rw [hl]; have := prs_len z0 k; omega
      obtain ⟨yy, hyy⟩ : ∃ yy, yy = getL ltI l kk (0, (0, ⟨#[]⟩)) := ⟨_, rfl⟩
      obtain ⟨had, hhad⟩ : ∃ had, had = hasB ltI (keysOf l) kk := ⟨_, rfl⟩
      obtain ⟨W2, hW2⟩ : ∃ W2, W2 = (wr.alloc (.cells #[.int .i64 (k : Int), .string xs] 87)).alloc (.cells #[.int .i64 (k : Int)] 3) := ⟨_, rfl⟩
      have hB2 : Below wr.heap.size wr W2 := by rw [hW2]; exact ((Below.refl _ wr).alloc (Nat.le_refl _) _).alloc (by simp) _
      have hn2 : Boxed W2 (wr.heap.size + 1) 3 (.int .i64 (k : Int)) := by
        have h := Boxed.new (wr.alloc (.cells #[.int .i64 (k : Int), .string xs] 87)) 3 (.int .i64 (k : Int))
        rw [World.size_alloc] at h
        rw [hW2]; exact h
      have hx2 : W2.heap[wr.heap.size]? = some (.cells #[.int .i64 (k : Int), .string xs] 87 (0, 0)) := by
        rw [hW2]; exact (Below.heap_alloc _ _ _ (by simp)).trans (heap_alloc_new wr _)
      obtain ⟨xb, hxb⟩ : ∃ xb, xb = wr.heap.size := ⟨_, rfl⟩
      have gxs := Lib.hid hxs
      have gl := Lib.hid hl
      have gyy := Lib.hid hyy
      have gh := Lib.hid hhad
      have gzk := Lib.hid hzk
      have gu := Lib.hid hu
      have gB2 := Lib.hid hB2
      have gn2 := Lib.hid hn2
      have gx2 := Lib.hid hx2
      clear hxs hl hyy hhad hzk hu hB2 hn2 hx2 hcv
      go_wp2_with fail
      rw [← hW2]
      refine (one_any (x := ((k : Int), xs)) gT.out gB2.out hl1 gn2.out gyy.out gh.out).mono ?_
      rintro e w4 ⟨rfl, g4⟩
      have k3 := g4.out.1.bp.cell
      have gx4 := Lib.hid (keep_pair g4.out.2 gx2.out)
      have ly := g4.out.1.bp.lt
      clear hcv' hc k1 k2 hW2 hsl
      go_wp2_with fail
      obtain ⟨W5, hW5⟩ : ∃ W5, W5 = w4.alloc (.cells #[.int .i64 yy.1, .string yy.2] 87) := ⟨_, rfl⟩
      have gB5 := Lib.hid (show Below w4.heap.size w4 W5 by rw [hW5]; exact (Below.refl _ w4).alloc (Nat.le_refl _) _)
      have go5 := Lib.hid (show W5.heap[w4.heap.size]? = some (.cells #[.int .i64 yy.1, .string yy.2] 87 (0, 0)) by rw [hW5]; exact heap_alloc_new w4 _)
      have gx5 := Lib.hid ((gB5.out.block _ (IS.lt_of_heap gx4.out)).trans gx4.out)
      rw [← hW5]
      refine (mid_any g4.out.1 gB5.out hl1 gyy.out gh.out).mono ?_
      rintro e w6 ⟨p, rfl, g6⟩
      have gx6 := Lib.hid (keep_pair g6.out.2 gx5.out)
      have go6 := Lib.hid (keep_pair g6.out.2 go5.out)
      obtain ⟨ob, hob⟩ : ∃ ob, ob = w4.heap.size := ⟨_, rfl⟩
      rw [← hob] at go6 ⊢
      clear k3 ly hW5 gB5 go5 gx5 gx4 g4 hob
      have c0 := (cell_of_row _ ob 0 _ _ (0, 0) go6.out).trans (show _ = some (Value.int .i64 yy.1) from rfl)
      have c1 := (cell_of_row _ ob 1 _ _ (0, 0) go6.out).trans (show _ = some (Value.string yy.2) from rfl)
      have c2 := g6.out.1.bw.cell
      have hlk := fun j => g6.out.1.look gu.out j
      go_wp2_with fail
      cases had with
      | false =>
        go_quiet (fail)
        have gq := Lib.hid (g6.out.1.below (IS.below_drewN (Below.refl _ _) nq))
        obtain ⟨w7, hrun, hT7⟩ := gq.out.store gu.out (by omega)
        have hrun' : (Instr.mapUpdate 91 (.map (some (y + 1))) (.int .u8 kk) (.agg #[.int .i64 (k : Int), .string xs])).run Try.prog (w6.drewN nq) = .ok () w7 := hrun
        have d0 := (cell_of_row _ wr.heap.size 0 _ _ (0, 0) gx6.out).trans (show _ = some (Value.int .i64 (k : Int)) from rfl)
        have d1 := (cell_of_row _ wr.heap.size 1 _ _ (0, 0) gx6.out).trans (show _ = some (Value.string xs) from rfl)
        have g7 := Lib.hid hT7
        clear hlk hrun c0 c1 hT7
        go_wp2_with fail
        go_roundw
        case rel => exact ⟨k + 1, by omega, by simp, by rw [prs_suc gzk.out, ← gl.out, ← gxs.out]; exact g7.out⟩
        case measure => simp [intOf]; omega
      | true =>
        obtain ⟨pa, rfl, hpa⟩ := g6.out.1.ps rfl
        have c3 := hpa.cell
        clear hpa
        go_quiet (fail)
        clear c3
        have gq := Lib.hid (g6.out.1.below (IS.below_drewN (Below.refl _ _) nq))
        obtain ⟨w7, hrun, hT7⟩ := gq.out.store gu.out (by omega)
        have hrun' : (Instr.mapUpdate 91 (.map (some (y + 1))) (.int .u8 kk) (.agg #[.int .i64 (k : Int), .string xs])).run Try.prog (w6.drewN nq) = .ok () w7 := hrun
        have d0 := (cell_of_row _ wr.heap.size 0 _ _ (0, 0) gx6.out).trans (show _ = some (Value.int .i64 (k : Int)) from rfl)
        have d1 := (cell_of_row _ wr.heap.size 1 _ _ (0, 0) gx6.out).trans (show _ = some (Value.string xs) from rfl)
        have g7 := Lib.hid hT7
        clear hlk hrun c0 c1 hT7
        go_wp2_with fail
        go_roundw
        case rel => exact ⟨k + 1, by omega, by simp, by rw [prs_suc gzk.out, ← gl.out, ← gxs.out]; exact g7.out⟩
        case measure => simp [intOf]; omega
    · obtain rfl : k = n := by omega
      go_wp2_with (first
        | (go_at_call 47; refine (BP.all_any _ _).mono ?_; rintro e w' ⟨rfl, rfl⟩)
        | (go_at_call 46; refine (BP.two_any _ _ _).mono ?_; rintro e w' ⟨rfl, rfl⟩))
      refine (wpIn_wide (n := 6)).1 ?_
      obtain ⟨l, hl⟩ : ∃ l, l = prs z0 k := ⟨_, rfl⟩
      have hu8 : ∀ x ∈ l, U8 x.1 := by rw [hl]; exact prs_u8 gM.out hnl
      have hasc : Asc ltI (keysOf l) := by rw [hl]; exact prs_asc z0 k
      rw [← hl] at gT
      obtain ⟨lb, hlb⟩ : ∃ lb, lb = wr.heap.size := ⟨_, rfl⟩
      obtain ⟨V, hV⟩ : ∃ V, V = (wr.alloc (.cells #[.int .i64 (-1)] 3)).alloc (.cells #[.pointer (some ⟨z + 1, 0, none⟩)] 84) := ⟨_, rfl⟩
      rw [← hV, ← hlb]
      have hBV : Below lb wr V := by rw [hV, hlb]; exact ((Below.refl _ wr).alloc (Nat.le_refl _) _).alloc (by simp) _
      have hVs : V.heap.size = lb + 2 := by rw [hV, hlb]; simp
      have bL : Boxed V lb 3 (.int .i64 (-1)) := by rw [hV, hlb]; exact (Boxed.new wr _ _).alloc _
      have bA : Boxed V (lb + 1) 84 (.pointer (some ⟨z + 1, 0, none⟩)) := by
        have h := Boxed.new (wr.alloc (.cells #[.int .i64 (-1)] 3)) 84 (.pointer (some ⟨z + 1, 0, none⟩))
        rw [World.size_alloc, ← hlb] at h
        rw [hV]; exact h
      have gTV := Lib.hid (gT.out.below (hlb ▸ hBV))
      obtain ⟨A, c, hHas, hU⟩ : ∃ A c, BP.Has wr (some ⟨z + 1, 0, none⟩) A c l ∧ BP.Under wr.heap.size A := by
        obtain ⟨v, u, D, q, h1, _⟩ := gT.out.way
        obtain ⟨A, c, _, h2, h3⟩ := h1.so.has_under
        exact ⟨A, c, h2, h3⟩
      have hseq := BP.all_idx 5 lb (lb + 1) (some ⟨z + 1, 0, none⟩) A c l V bA.cell (hHas.below (hlb ▸ hBV)) (hlb ▸ hU) (by omega)
      have gBV := Lib.hid hBV
      have gu8 := Lib.hid hu8
      have gasc := Lib.hid hasc
      have gl := Lib.hid hl
      have gTw := Lib.hid gT.out
      clear hl hV hBV bA hHas hU hu8 hasc gT hlt hk
      refine with_tmps ?_
      intro tm htm
      refine wpIn_rangeFunc_ownH rfl (by omega) (gf := 116) (lb := #[.pointer (some ⟨lb + 1, 0, none⟩)]) (by subst htm; rfl) trivial (enters_of Try.func116 (by kernel_rfl) rfl)
        hseq belowK_t (belowK_b (by omega)) (Below.refl _ _) (fun _ => rfl)
        (fun (pre : List Nat) W => Boxed W lb 3 (.int .i64 (lastOf l pre)) ∧ Below lb V W)
        (fun _ pre _ => pre ≠ List.range pre.length)
        (OwnFrom.and (Own.from (boxed_own _ _ _) _) (ownFrom_below (by omega) (by omega)))
        (fun _ _ _ _ _ hs _ _ => hs)
        ⟨bL, Below.refl _ _⟩
        (fun x a' W => ∃ xb, Pair W xb (BP.itemAt l x).2 ∧ a' = { tmps := (((((#[97, 98] : Array Nat).zip (BP.encAt l x)).foldl (fun t (p, v) => t.setIfInBounds p v) tm).setIfInBounds 17 (.int .u8 (BP.itemAt l x).1)).setIfInBounds 18 (.pointer (some ⟨xb, 0, none⟩))), defers := [] })
        (fun x a' _ X Y row hs hg hr => by obtain ⟨xb, h2, h3⟩ := hs; exact ⟨xb, pair_own xb _ () X Y row h2 hg (fun r e => (hr r e).2), h3⟩)
        ?assign ?body ?done ?stop
      case stop =>
        rintro D c pre W hD hp h _
        exact absurd hp.1 h
      case assign =>
        rintro l' pre x W K ⟨h1, h2⟩ hK
        subst htm
        unfold BP.encAt BP.encs
        gi_wp2
        have hs : lb ≤ W.heap.size := Nat.le_of_lt h1.lt
        exact hK _ _ ((KeepsOthers.alloc _ _).from _) ((Below.refl _ W).alloc hs _) ⟨h1.alloc _, h2.alloc hs _⟩ ⟨W.heap.size, heap_alloc_new W _, by simp [BP.encAt, BP.encs]⟩
      case body =>
        rintro l' pre x a' W hl' _ ⟨h1, h2⟩ ⟨xb, hxb, rfl⟩ hlt
        subst htm
        have hmem := BP.itemAt_mem (l := l) (by omega) x
        have hBW : Below wr.heap.size wr W := by rw [← hlb]; exact gBV.out.trans h2
        have hTW := gTw.out.below hBW
        have hord : ∀ (hp : pre ++ [x] = List.range (pre ++ [x]).length), lastOf l pre < (BP.itemAt l x).1 := fun hp => last_lt gasc.out gu8.out hp hlt
        have hsn := lastOf_snoc l pre x
        obtain ⟨it, hit⟩ : ∃ it, it = BP.itemAt l x := ⟨_, rfl⟩
        unfold BP.encAt BP.encs
        rw [← hit] at hxb hmem hord hsn ⊢
        clear hit
        obtain ⟨kx, nx, sx⟩ := it
        obtain ⟨aa, ha, hget⟩ := t_get hTW hmem
        have hu := gu8.out _ hmem
        have hlk := t_look hTW hmem hu
        dsimp only at hxb ha hget hlk hord hsn hu
        obtain ⟨lv, hlv⟩ : ∃ lv, lv = lastOf l pre := ⟨_, rfl⟩
        rw [← hlv] at h1 hord
        rw [hlb] at h1
        have k1 := hTW.bp.cell
        have gTW := Lib.hid hTW
        have gget := Lib.hid hget
        have gh1 := Lib.hid h1
        have gxb := Lib.hid hxb
        have ga := Lib.hid ha
        have gh2 := Lib.hid h2
        have gmem := Lib.hid hmem
        have gu := Lib.hid hu
        have gord := Lib.hid hord
        have glv := Lib.hid hlv
        have gsn := Lib.hid hsn
        clear h1 h2 hxb ha hget hTW hmem hlk hseq bL hBW hord hlv hsn
        gi_wp2_with (gi_at_call 48; refine (CallsIn.inRound _ (callsIn_wide.2 gget.out)).mono ?_; rintro e w12 ⟨rfl, hBg⟩
                     have gBg := Lib.hid hBg
                     have gL := Lib.hid (show Boxed w12 wr.heap.size 3 (.int .i64 lv) from (hBg.block _ gh1.out.lt).trans gh1.out)
                     have gX := Lib.hid ((hBg.block _ (IS.lt_of_heap gxb.out)).trans gxb.out)
                     have c0 := (cell_of_row _ xb 0 _ _ (0, 0) gX.out).trans (show _ = some (Value.int .i64 nx) from rfl)
                     have c1 := (cell_of_row _ xb 1 _ _ (0, 0) gX.out).trans (show _ = some (Value.string sx) from rfl)
                     have c2 := gL.out.cell
                     have c3 := (gTW.out.below hBg).bw.cell
                     have c4 := Boxed.cell ((hBg.block _ ga.out.lt).trans ga.out)
                     have hlk := t_look (gTW.out.below hBg) gmem.out gu.out
                     clear hBg)
        have hwr : IntKind.i64.wrap kx = kx := IntWalk.i64_in _ (by have := gu.out; unfold U8 at this; omega)
        have r1 := (gTW.out.below gBg.out).bz.cell
        have r2 := (gTW.out.below gBg.out).bz.frozen
        have f1 := gL.out.frozen
        cases hd : decide (kx ≤ lv) with
        | true =>
          have hd2 : decide (IntKind.i64.wrap kx ≤ lv) = true := by rw [hwr]; exact hd
          refine region_quiet_round (by kernel_rfl) (by kernel_rfl) (by kernel_rfl) ?_
          repeat (gi_big_quiet_step (fail))
          refine wpQuietIn_nil ?_
          rintro _ ⟨nq, rfl⟩
          gi_wp2_with fail
          have kB := IS.below_drewN gBg.out nq
          exact ⟨((keeps_below kB).trans (KeepsOthers.setCell _ _ _)).from _, fun hp => by have h1 : lv < kx := gord.out hp; have h2 : kx ≤ lv := of_decide_eq_true hd; exact absurd h1 (Int.not_lt.2 h2)⟩
        | false =>
          have hd2 : decide (IntKind.i64.wrap kx ≤ lv) = false := by rw [hwr]; exact hd
          refine region_quiet_round (by kernel_rfl) (by kernel_rfl) (by kernel_rfl) ?_
          repeat (gi_big_quiet_step (fail))
          refine wpQuietIn_nil ?_
          rintro _ ⟨nq, rfl⟩
          gi_wp2_with fail
          have kB := IS.below_drewN gBg.out nq
          have hs : lb ≤ W.heap.size := by have := gh1.out.lt; omega
          have kC : Below lb W ((w12.drewN nq).setCell ⟨wr.heap.size, 0, none⟩ (.int .i64 kx)) := (kB.mono hs).setCell (by show lb ≤ wr.heap.size; omega) _
          refine ⟨((keeps_below kB).trans (KeepsOthers.setCell _ _ _)).from _, kC, ?_, gh2.out.trans kC⟩
          rw [gsn.out, hlb]
          exact Boxed.set (.int .i64 kx) (show Boxed (w12.drewN nq) wr.heap.size 3 (.int .i64 lv) from gL.out)
      case done =>
        rintro D ys W hD _ ⟨h1, h2⟩ hK
        subst htm
        have hBW : Below wr.heap.size wr W := by rw [← hlb]; exact gBV.out.trans h2
        have gTW := Lib.hid (gTw.out.below hBW)
        have gK := Lib.hid hK
        have gD := Lib.hid (show wr.heap.size ≤ D by omega)
        have four := Lib.hid (show ∀ w', Below W.heap.size W w' → w'.cell? ⟨y + 1 + 1, 0, none⟩ = some (.map (some (y + 1))) ∧ w'.cell? ⟨y, 0, none⟩ = some (.pointer (some ⟨Q, 0, none⟩)) ∧ ∀ ty, (Builtin.len_ #[91] ty #[.map (some (y + 1))]).run Try.prog w' = .ok (.int .i64 (l.length : Nat)) w' from fun w' hw =>
          ⟨(gTW.out.below hw).bw.cell, (gTW.out.below hw).bp.cell, (gTW.out.below hw).len⟩)
        have resB := Lib.hid (show ∀ w', Below W.heap.size W w' → Boxed w' z 4 (.bool false) from fun w' hw => (gTW.out.below hw).bz)
        have c0 := four.out W (Below.refl _ _)
        have c1 := c0.1
        have c2 := c0.2.1
        have c3 := c0.2.2
        have gB := Lib.hid ((Below.refl W.heap.size W).drew)
        have n1 : ¬ y = z := by have h1 := gTW.out.bp; have h2 := gTW.out.bz; intro e; rw [e] at h1; unfold Boxed at h1 h2; rw [h1] at h2; cases h2
        have n2 : ¬ y + 1 + 1 = z := by have h1 := gTW.out.bw; have h2 := gTW.out.bz; intro e; rw [e] at h1; unfold Boxed at h1 h2; rw [h1] at h2; cases h2
        clear hseq bL h1 h2 hBW hK hD c0
        go_wp2_with fail
        go_region_held3 (fun w' => w'.cell? ⟨y + 1 + 1, 0, none⟩ = some (.map (some (y + 1))) ∧ w'.cell? ⟨y, 0, none⟩ = some (.pointer (some ⟨Q, 0, none⟩)) ∧ ∀ ty, (Builtin.len_ #[91] ty #[.map (some (y + 1))]).run Try.prog w' = .ok (.int .i64 (l.length : Nat)) w')
          (first | exact four.out _ gB.out | exact cA | exact ⟨(World.cell?_of_block (Below.heap_setCell _ _ _ _ n2)).trans cA.1, (World.cell?_of_block (Below.heap_setCell _ _ _ _ n1)).trans cA.2.1, (gTW.out.below gB.out).len_set _⟩ | go_keep)
          (first
          | (go_at_call 49; (with_reducible refine ((gTW.out.below gB.out).lenS).mono ?_); rintro e wA ⟨rfl, hb⟩; have gBn := Lib.hid (gB.out.trans (hb.mono gB.out.size)); clear hb gB; have gB := gBn; clear gBn; have cA := four.out _ gB.out)
          | (go_at_call 50; (with_reducible refine ((gTW.out.below gB.out).lenQ).mono ?_); rintro e wA ⟨rfl, hb⟩; have gBn := Lib.hid (gB.out.trans (hb.mono gB.out.size)); clear hb gB; have gB := gBn; clear gBn; have cA := four.out _ gB.out)
          | (go_at_call 10; (with_reducible refine (works_any _).mono ?_); rintro e wA ⟨rfl, hb⟩; have gBn := Lib.hid (gB.out.trans (hb.mono gB.out.size)); clear hb gB; have gB := gBn; clear gBn; have cA := four.out _ gB.out; have hR5 := resB.out _ gB.out; have r1 := hR5.cell; have r2 := hR5.frozen; have gR5 := Lib.hid hR5; clear hR5))
        all_goals
          go_wp2_with fail
          have hz0 := gz.out
          have hzl := gTw.out.bz.lt
          have hDl := gD.out
          have s1 : (wA.setCell ⟨z, 0, none⟩ (.bool true)).heap[D]? = some (.deferred (some [])) := (Below.heap_setCell _ _ _ D (by show D ≠ z; omega)).trans ((gB.out.block _ (IS.lt_of_heap gK.out)).trans gK.out)
          have hb : Below w.heap.size w wA := gTW.out.bel.trans (gB.out.mono gTW.out.bel.size)
          have hb2 : Below w.heap.size w (wA.setCell ⟨z, 0, none⟩ (.bool true)) := hb.setCell (by show w.heap.size ≤ z; omega) _
          have hfin : Below (z + 1) (wA.setCell ⟨z, 0, none⟩ (.bool true)) ((wA.setCell ⟨z, 0, none⟩ (.bool true)).putObj D (.deferred none)) := belowK_b (w := wr) (by omega) _ D _ _ (by omega) s1 rfl rfl
          have hend := hb2.trans (hfin.mono (show w.heap.size ≤ z + 1 by omega))
          have gRF := Boxed.cell (show Boxed ((wA.setCell ⟨z, 0, none⟩ (.bool true)).putObj D (.deferred none)) z 4 (.bool true) from (hfin.block z (by omega)).trans (gR5.out.set _))
          refine ⟨by simp, .inl ⟨_, _, rfl, run_takeDeferred s1, ?_⟩⟩
          refine ⟨.bool true, ?_, rfl, hend⟩
          clear hend hfin s1 hb hb2
          generalize (wA.setCell ⟨z, 0, none⟩ (.bool true)).putObj D (.deferred none) = WF at gRF ⊢
          simp [results, Try.results9, go_sem, gRF]
end Go.Proofs.Ytmjdkmdpegcalaa
