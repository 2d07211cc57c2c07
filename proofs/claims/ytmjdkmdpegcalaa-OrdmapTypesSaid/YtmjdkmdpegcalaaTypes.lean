/- OrdmapTypes: a map of structs, a map of pointers, a Go map of structs, side by side. -/
import Derived.Test.YtmjdkmdpegcalaaBPSetP
import Derived.Test.YtmjdkmdpegcalaaBPIter
import Derived.Test.YtmjdkmdpegcalaaBQSet
import Derived.Test.YtmjdkmdpegcalaaBQRead
import Derived.Test.YtmjdkmdpegcalaaPut
import Derived.Maps.OwnSet
import Derived.Laws.BytesArg
namespace Go.Proofs.Ytmjdkmdpegcalaa
open Go.RowKit Go.Maps Go.Shelf Go.Sort Go.Lib

abbrev PV : Type := Int × ByteArray
theorem BP.Own.has_under {w : World} {B P : Nat} {v : Value} {l : List (BP.K × BP.V)} (h : BP.Own w B P v l) : ∃ A c, v = .slice A l.length c ∧ BP.Has w (some ⟨P, 0, none⟩) A c l ∧ BP.Under w.heap.size A := by
  obtain ⟨A, c, e, hn, h1, h2, h3, h4⟩ := BP.owns_it rfl h.own
  obtain ⟨A', c', e', hh⟩ := h.has
  rw [e] at e'
  injection e' with e1 _ e3
  subst e1 e3
  exact ⟨A, c, e, hh, fun a ha => (h4 a ha).2⟩
theorem BP.eql_func (g : Nat) (lb : Array Value) (w : World) : (binOp .eql 96 (.func (.func g) #[] lb) .nilFunc).run Try.prog w = .ok (.bool false) w := by
  have h : ∀ d : Nat, (Op.equalIn (d + 1) 96 (.func (.func g) #[] lb) .nilFunc).run Try.prog w = .ok false w := fun d => by
    simp [Op.equalIn, run_underlying Try.underlying96]
  simp only [binOp]
  simp [Op.equal, Op.maxDepth, h 9999]
set_option maxHeartbeats 1000000 in
theorem BP.two_any (g : Nat) (lb : Array Value) (w : World) : Calls Try.prog 46 #[.func (.func g) #[] lb] w fun e w' => e = .returned (.func (.func g) #[] lb) ∧ w = w' := by
  have hq := BP.eql_func g lb
  go_enter Try.func46, Try.ntmps46
  go_wp2
  go_ret
  exact ⟨rfl, rfl⟩

/-! The Go map of structs. -/
def pv (x : PV) : Value := .agg #[.int .i64 x.1, .string x.2]
theorem pv_inj {x y : PV} (h : pv x = pv y) : x = y := by
  unfold pv at h
  simp at h
  exact Prod.ext h.1 h.2
open Classical in
/-- How a struct of the Go map reads. -/
noncomputable def R (v : Value) : Option (DataW PV × List MemPlace) := if h : ∃ x : PV, v = pv x then some (.held h.choose, []) else none
theorem R_pv (x : PV) : R (pv x) = some (.held x, []) := by
  have h : ∃ y : PV, pv x = pv y := ⟨x, rfl⟩
  unfold R
  rw [dif_pos h, ← pv_inj h.choose_spec]
theorem R_inv {v : Value} {z : DataW PV × List MemPlace} (h : R v = some z) : ∃ x : PV, v = pv x ∧ z = (.held x, []) := by
  unfold R at h
  split at h
  · rename_i h1
    cases h
    exact ⟨_, h1.choose_spec, rfl⟩
  · cases h
theorem key8 : Keyed Try.prog 5 := int_keyed Try.underlying5
theorem zeroP (w : World) : (zeroValue 87).run Try.prog w = .ok (pv (0, ⟨#[]⟩)) w := by kernel_rfl
def U8 (k : Int) : Prop := 0 ≤ k ∧ k < 256
theorem wf8 {k : Int} (h : U8 k) : (Lit.int .u8 k).wf = true := WalkArith.wf_u8 (by unfold U8 at h; omega)
theorem keyOf8 {k : Int} (h : U8 k) : keyOf Try.prog 5 (.int .u8 k) = some (.int .u8 k) := keyOf_int_mk Try.underlying5 (wf8 h)
abbrev ltI : Int → Int → Bool := fun a b => decide (a < b)
structure MapP (D : DataW PV) (l : List (Int × PV)) : Prop where
  tidy : Tidy D
  has : ∀ k : Int, Maps.has D (.int .u8 k) = hasB ltI (keysOf l) k
  at_ : ∀ k : Int, D.atKey (.int .u8 k) (.held (0, ⟨#[]⟩)) = .held (getL ltI l k (0, (0, ⟨#[]⟩)))
  size : Maps.size D = l.length
theorem isKey8 (k : Int) : WideAt.IsKeyLit (.int .u8 k) := trivial
theorem mapP_nil : MapP (.map []) [] := ⟨tidy_empty, fun _ => rfl, fun _ => rfl, rfl⟩
theorem MapP.put {D : DataW PV} {l : List (Int × PV)} (h : MapP D l) (ha : Asc ltI (keysOf l)) (k : Int) (v : PV) : MapP (D.put (.int .u8 k) (.held v)) (putL ltI l k v) := by
  refine ⟨h.tidy.put (isKey8 k) _, fun k' => ?_, fun k' => ?_, ?_⟩
  · rw [(get_put kord_int ha k v (0, (0, ⟨#[]⟩)) k').1]
    by_cases e : k' = k
    · subst e; rw [has_put_same h.tidy.isMap (isKey8 _)]; simp
    · rw [has_put_other (by intro h; injection h with _ h; exact e h), h.has, show (k' == k) = false from beq_eq_false_iff_ne.2 e, Bool.false_or]
  · rw [(get_put kord_int ha k v (0, (0, ⟨#[]⟩)) k').2]
    by_cases e : k' = k
    · subst e; rw [atKey_put_same h.tidy.isMap (isKey8 _), if_pos (by simp)]
    · rw [atKey_put_other (by intro h; injection h with _ h; exact e h), h.at_, if_neg (by simpa using e)]
  · rw [size_put h.tidy, h.has, h.size, len_put]

/-! The pointers' map beside the structs' map. -/
def ptr (q : Int → Nat) (x : Int × PV) : Int × Option Addr := (x.1, some ⟨q x.1, 0, none⟩)
def ptrs (q : Int → Nat) (l : List (Int × PV)) : List (Int × Option Addr) := l.map (ptr q)
theorem keys_ptrs (q : Int → Nat) (l : List (Int × PV)) : keysOf (ptrs q l) = keysOf l := by simp [keysOf, ptrs, ptr]
def upd (q : Int → Nat) (k : Int) (b : Nat) : Int → Nat := fun k' => if k' = k then b else q k'
theorem ptrs_keep {q : Int → Nat} {k : Int} {b : Nat} {l : List (Int × PV)} (h : ∀ x ∈ l, x.1 ≠ k) : ptrs (upd q k b) l = ptrs q l := by
  unfold ptrs
  refine List.map_congr_left fun x hx => ?_
  simp [ptr, upd, h x hx]
theorem ptrs_put {q : Int → Nat} {l : List (Int × PV)} (ha : Asc ltI (keysOf l)) (k : Int) (v : PV) (b : Nat) : putL ltI (ptrs q l) k (some ⟨b, 0, none⟩) = ptrs (upd q k b) (putL ltI l k v) := by
  unfold putL
  rw [keys_ptrs]
  cases hh : hasB ltI (keysOf l) k with
  | true =>
    have hlt : rkB ltI (keysOf l) k < l.length := by have := hasB_lt hh; simpa using this
    have he : l[rkB ltI (keysOf l) k].1 = k := by
      have := eq_of_beq ((hasB_eq (hasB_lt hh)).symm.trans hh)
      simpa using this
    simp only [if_true]
    generalize rkB ltI (keysOf l) k = r at hlt he
    apply List.ext_getElem
    · simp [ptrs]
    · intro j h1 h2
      have hj : j < l.length := by simpa [ptrs] using h1
      simp only [ptrs, List.getElem_map, List.getElem_set]
      split
      · simp [ptr, upd]
      · rename_i hne
        have : l[j].1 ≠ k := fun e => hne (key_inj kord_int ha hlt hj (he.trans e.symm))
        simp [ptr, upd, this]
  | false =>
    have hno : ∀ y ∈ l, y.1 ≠ k := fun y hy e => by
      have := (has_iff kord_int ha k).2 ⟨y.2, by rw [← e]; exact hy⟩
      rw [this] at hh; cases hh
    simp only [Bool.false_eq_true, if_false]
    generalize rkB ltI (keysOf l) k = r
    have e1 : ptrs (upd q k b) (l.take r) = (ptrs q l).take r := by
      rw [ptrs_keep fun x hx => hno x (List.mem_of_mem_take hx)]; simp [ptrs, List.map_take]
    have e2 : ptrs (upd q k b) (l.drop r) = (ptrs q l).drop r := by
      rw [ptrs_keep fun x hx => hno x (List.mem_of_mem_drop hx)]; simp [ptrs, List.map_drop]
    have e3 : ptrs (upd q k b) (l.take r ++ (k, v) :: l.drop r) = ptrs (upd q k b) (l.take r) ++ (k, some ⟨b, 0, none⟩) :: ptrs (upd q k b) (l.drop r) := by simp [ptrs, ptr, upd]
    rw [e3, e1, e2]
/-- What the pointer's map says of a key. -/
theorem ptrs_get (q : Int → Nat) (l : List (Int × PV)) (k : Int) : hasB ltI (keysOf (ptrs q l)) k = hasB ltI (keysOf l) k ∧ getL ltI (ptrs q l) k (0, none) = if hasB ltI (keysOf l) k then some ⟨q k, 0, none⟩ else none := by
  refine ⟨by rw [keys_ptrs], ?_⟩
  unfold getL
  rw [keys_ptrs]
  cases hh : hasB ltI (keysOf l) k with
  | false => rfl
  | true =>
    have hlt : rkB ltI (keysOf l) k < l.length := by have := hasB_lt hh; simpa using this
    have he : l[rkB ltI (keysOf l) k].1 = k := by
      have := eq_of_beq ((hasB_eq (hasB_lt hh)).symm.trans hh)
      simpa using this
    simp [ptrs, hlt, ptr, he]
/-- The boxes that the pointers lead to hold the structs' numbers. -/
def Tied (w : World) (q : Int → Nat) (l : List (Int × PV)) : Prop := ∀ x ∈ l, Boxed w (q x.1) 3 (.int .i64 x.2.1)
theorem Tied.put {w : World} {q : Int → Nat} {l : List (Int × PV)} (h : Tied w q l) (ha : Asc ltI (keysOf l)) {k : Int} {v : PV} {b : Nat} (hb : Boxed w b 3 (.int .i64 v.1)) : Tied w (upd q k b) (putL ltI l k v) := by
  intro x hx
  rcases (mem_put kord_int ha k v x).1 hx with rfl | ⟨hx, hne⟩
  · simpa [upd] using hb
  · have := h x hx
    simpa [upd, hne] using this
theorem Tied.at {w : World} {q : Int → Nat} {l : List (Int × PV)} (h : Tied w q l) (ha : Asc ltI (keysOf l)) {k : Int} (hh : hasB ltI (keysOf l) k = true) : Boxed w (q k) 3 (.int .i64 (getL ltI l k (0, (0, ⟨#[]⟩))).1) := by
  obtain ⟨v, hv⟩ := (has_iff kord_int ha k).1 hh
  have e := (getL_mem kord_int ha hv (0, (0, ⟨#[]⟩))).2
  dsimp only at e
  rw [e]
  exact h _ hv
end Go.Proofs.Ytmjdkmdpegcalaa
