/- What OrdmapOrder asks, ready for the walk. -/
import Derived.Test.YtlfigdembgkkoaaIISorted
import Derived.Test.YtlfigdembgkkoaaIIFilled
import Derived.Test.YtlfigdembgkkoaaIIIdx
namespace Go.Proofs.Ytlfigdembgkkoaa
open Go.RowKit Go.Maps Go.Shelf Go.Sort Go.Lib

theorem has_contains {l : List (II.K × II.V)} (ha : Asc II.lt (keysOf l)) (x : Int) : (keysOf l).contains x = hasB II.lt (keysOf l) x := by
  rw [Bool.eq_iff_iff, List.contains_iff_mem]
  exact (hasB_mem II.kord ha x).symm
theorem search_in {W : World} {B c : Nat} {l : List (II.K × II.V)} {A : Option Addr} (hk : W.ownsRow B 3 1 (.slice A l.length c) l.length ((keysOf l).map (Value.int .i64))) (ha : Asc II.lt (keysOf l)) (hl : l.length ≤ 100) (x : Int) :
    Calls Try.prog 31 #[.slice A l.length c, .int .i64 x] W fun e w' => e = .returned (.tuple #[.int .i64 (rkB II.lt (keysOf l) x : Nat), .bool (hasB II.lt (keysOf l) x)]) ∧ Below W.heap.size W w' := by
  rcases Nat.eq_zero_or_pos l.length with h0 | h0
  · have e : l = [] := List.eq_nil_of_length_eq_zero h0
    subst e
    refine (Try.slices_BinarySearch_int_empty A c x W).mono ?_
    rintro e w' ⟨rfl, rfl⟩
    exact ⟨rfl, Below.refl _ _⟩
  · rcases hk.2 with ⟨_, h⟩ | ⟨g, cap, cur, e0, _⟩
    · omega
    · have e1 : A = some ⟨g, 0, none⟩ := by injection e0
      subst e1
      have hc := hk.cells (g := g) rfl
      refine (Try.slices_BinarySearch_int g 0 l.length c (keysOf l) x W (by simp) (by omega) (fun j hj => ?_) ?_).mono ?_
      · have := hc j (.int .i64 ((keysOf l).getD j 0)) (by rw [List.getElem?_map, List.getElem?_eq_getElem hj]; simp [List.getD, List.getElem?_eq_getElem hj])
        rw [II.add_plain] at this
        exact this
      · exact ((II.asc_keys ha).imp fun {a b} h => Int.le_of_lt h).sublist (List.take_sublist _ _)
      · rintro e w' ⟨rfl, q, rfl⟩
        have et : (keysOf l).take l.length = keysOf l := List.take_of_length_le (by simp)
        rw [et, has_contains ha]
        exact ⟨rfl, below_drewN (Below.refl _ _) q⟩

/-- All that OrdmapOrder holds at a time. -/
structure OrdAt (w w0 W : World) (zM zK P b n c2 : Nat) (v : Value) (l : List (II.K × II.V)) (D : DataW Unit) (A2 : Option Addr) : Prop where
  two : II.Two w0 W P b n v l D
  row : W.ownsRow 0 3 1 (.slice A2 l.length c2) l.length ((keysOf l).map (Value.int .i64))
  bM : Boxed W zM 47 (.map (some b))
  bK : Boxed W zK 51 (.slice A2 l.length c2)
  bR : Boxed W w.heap.size 4 (.bool false)
  bel : Below w.heap.size w W
  len : l.length ≤ 100
section
variable {w w0 W : World} {zM zK P b n c2 : Nat} {v : Value} {l : List (II.K × II.V)} {D : DataW Unit} {A2 : Option Addr}
theorem OrdAt.below {W' : World} (h : OrdAt w w0 W zM zK P b n c2 v l D A2) (hb : Below W.heap.size W W') : OrdAt w w0 W' zM zK P b n c2 v l D A2 :=
  ⟨h.two.below hb, II.owns_below h.row hb, (hb.block _ h.bM.lt).trans h.bM, (hb.block _ h.bK.lt).trans h.bK, (hb.block _ h.bR.lt).trans h.bR, h.bel.trans (hb.mono h.bel.size), h.len⟩
/-- What a call that makes memory alone leaves. -/
def OrdTold (w w0 W : World) (zM zK P b n c2 : Nat) (v : Value) (l : List (II.K × II.V)) (D : DataW Unit) (A2 : Option Addr) (x : Value) (e : Ending) (w' : World) : Prop :=
  e = .returned x ∧ Hid (OrdAt w w0 w' zM zK P b n c2 v l D A2) ∧ Hid (Below W.heap.size W w')
theorem OrdAt.told {f : FuncId} {args : Array Value} {x : Value} (h : OrdAt w w0 W zM zK P b n c2 v l D A2) (hc : Calls Try.prog f args W fun e w' => e = .returned x ∧ Below W.heap.size W w') :
    Calls Try.prog f args W (OrdTold w w0 W zM zK P b n c2 v l D A2 x) := hc.mono fun _ _ hh => ⟨hh.1, h.below hh.2, hh.2⟩
theorem oat (h : OrdAt w w0 W zM zK P b n c2 v l D A2) {k : Nat} {kx vx : Int} (hx : l[k]? = some (kx, vx)) :
    Calls Try.prog 29 #[.pointer (some ⟨P, 0, none⟩), .int .i64 (k : Nat)] W (OrdTold w w0 W zM zK P b n c2 v l D A2 (.tuple #[.int .i64 kx, .int .i64 vx, .int .i64 0])) := by
  obtain ⟨A, c, rfl, hh, _⟩ := h.two.own.has_under
  refine h.told ((II.at_any P A c l k W hh ((cell_of_row W P 0 _ _ (0, 0) h.two.own.blk).trans rfl) ((cell_of_row W P 1 _ _ (0, 0) h.two.own.blk).trans rfl)).mono ?_)
  rintro e w' ⟨rfl, hb⟩
  have hk : k < l.length := (List.getElem?_eq_some_iff.1 hx).1
  have hg : l.getD k II.z0 = (kx, vx) := by simp [List.getD, hx]
  refine ⟨?_, hb⟩
  unfold II.atV
  rw [if_pos (by omega), Int.toNat_natCast, hg]
theorem orank (h : OrdAt w w0 W zM zK P b n c2 v l D A2) (k : Int) (r : Nat) (hr : rkB II.lt (keysOf l) k = r) :
    Calls Try.prog 30 #[.pointer (some ⟨P, 0, none⟩), .int .i64 k] W (OrdTold w w0 W zM zK P b n c2 v l D A2 (.int .i64 (r : Nat))) := by
  obtain ⟨A, c, rfl, hh, _⟩ := h.two.own.has_under
  exact h.told (hr ▸ II.rank_any _ A c l k W hh)
theorem oceil (h : OrdAt w w0 W zM zK P b n c2 v l D A2) (k : Int) (x : Value) (hx : II.ans ((l.drop (rkB II.lt (keysOf l) k)).head?) = x) :
    Calls Try.prog 32 #[.pointer (some ⟨P, 0, none⟩), .int .i64 k] W (OrdTold w w0 W zM zK P b n c2 v l D A2 x) := by
  obtain ⟨A, c, rfl, hh, hu⟩ := h.two.own.has_under
  exact h.told (hx ▸ II.ceil_any _ A c l k W hh hu)
theorem ofloor (h : OrdAt w w0 W zM zK P b n c2 v l D A2) (k : Int) (x : Value) (hx : II.ans ((l.take (rkL II.lt (keysOf l) k)).getLast?) = x) :
    Calls Try.prog 33 #[.pointer (some ⟨P, 0, none⟩), .int .i64 k] W (OrdTold w w0 W zM zK P b n c2 v l D A2 x) := by
  obtain ⟨A, c, rfl, hh, _⟩ := h.two.own.has_under
  exact h.told (hx ▸ II.floor_any _ A c l k W hh)
theorem omin (h : OrdAt w w0 W zM zK P b n c2 v l D A2) (x : Value) (hx : II.ans l.head? = x) :
    Calls Try.prog 36 #[.pointer (some ⟨P, 0, none⟩)] W (OrdTold w w0 W zM zK P b n c2 v l D A2 x) := by
  obtain ⟨A, c, rfl, hh, hu⟩ := h.two.own.has_under
  exact h.told (hx ▸ II.min_any _ A c l W hh hu)
theorem omax (h : OrdAt w w0 W zM zK P b n c2 v l D A2) (x : Value) (hx : II.ans l.getLast? = x) :
    Calls Try.prog 37 #[.pointer (some ⟨P, 0, none⟩)] W (OrdTold w w0 W zM zK P b n c2 v l D A2 x) := by
  obtain ⟨A, c, rfl, hh, _⟩ := h.two.own.has_under
  exact h.told (hx ▸ II.max_any _ A c l W hh)
theorem osearch (h : OrdAt w w0 W zM zK P b n c2 v l D A2) (k : Int) (r : Nat) (bb : Bool) (hr : rkB II.lt (keysOf l) k = r) (hb : hasB II.lt (keysOf l) k = bb) (N : Nat) (hN : N = l.length) :
    Calls Try.prog 31 #[.slice A2 N c2, .int .i64 k] W (OrdTold w w0 W zM zK P b n c2 v l D A2 (.tuple #[.int .i64 (r : Nat), .bool bb])) := by
  subst hr hb hN
  exact h.told (search_in h.row h.two.own.asc h.len k)
/-- The row's cell and the Go map's answer at an item. -/
theorem oitem {g : Nat} (h : OrdAt w w0 W zM zK P b n c2 v l D (some ⟨g, 0, none⟩)) {i : Nat} {kx vx : Int} (hx : l[i]? = some (kx, vx)) :
    W.cell? ⟨g, i, none⟩ = some (.int .i64 kx) ∧ (Instr.lookup 47 (.map (some b)) (.int .i64 kx) false).run Try.prog W = .ok (.int .i64 vx) W := by
  have hc := h.row.cells (g := g) rfl i (.int .i64 kx) (by simp [keysOf, hx])
  rw [II.add_plain, Nat.zero_add] at hc
  exact ⟨hc, (II.item_of h.two (List.mem_of_getElem? hx)).2.2.2⟩
theorem orow (h : OrdAt w w0 W zM zK P b n c2 v l D A2) (hl : 0 < l.length) : ∃ g, A2 = some ⟨g, 0, none⟩ := by
  rcases h.row.2 with ⟨_, h0⟩ | ⟨g, cap, cur, e0, _⟩
  · omega
  · exact ⟨g, by injection e0⟩
end
/-- Where a key stands among the items: what Ceil, Floor, Min and Max find. -/
inductive OrdCase (l : List (II.K × II.V)) (key : Int) : Nat → Nat → Bool → Option (II.K × II.V) → Option (II.K × II.V) → Option (II.K × II.V) → Option (II.K × II.V) → Prop
  | empty (N r : Nat) (hN : N = 0) (hr : r = 0) : OrdCase l key N r false none none none none
  | there (m r : Nat) (vr a0 v0 am vm : Int) (hr : r < m + 1) (hc : l[r]? = some (key, vr)) (h0 : l[0]? = some (a0, v0)) (hm : l[m]? = some (am, vm)) : OrdCase l key (m + 1) r true (some (key, vr)) (some (key, vr)) (some (a0, v0)) (some (am, vm))
  | low (m r : Nat) (a0 v0 am vm : Int) (hr : r = 0) (hc : l[r]? = some (a0, v0)) (h0 : l[0]? = some (a0, v0)) (hm : l[m]? = some (am, vm)) : OrdCase l key (m + 1) r false (some (a0, v0)) none (some (a0, v0)) (some (am, vm))
  | between (m r : Nat) (ac vc af vf a0 v0 am vm : Int) (hr : r + 1 < m + 1) (hc : l[r + 1]? = some (ac, vc)) (hf : l[r]? = some (af, vf)) (h0 : l[0]? = some (a0, v0)) (hm : l[m]? = some (am, vm)) : OrdCase l key (m + 1) (r + 1) false (some (ac, vc)) (some (af, vf)) (some (a0, v0)) (some (am, vm))
  | high (m : Nat) (a0 v0 am vm : Int) (h0 : l[0]? = some (a0, v0)) (hm : l[m]? = some (am, vm)) : OrdCase l key (m + 1) (m + 1) false none (some (am, vm)) (some (a0, v0)) (some (am, vm))
theorem item_at {l : List (II.K × II.V)} {i : Nat} (h : i < l.length) : ∃ a v : Int, l[i]? = some (a, v) := ⟨l[i].1, l[i].2, List.getElem?_eq_getElem h⟩
theorem head_drop {α : Type} (l : List α) (r : Nat) : (l.drop r).head? = l[r]? := by rw [List.head?_drop]
theorem last_take {α : Type} (l : List α) {f : Nat} (h : f < l.length) : (l.take (f + 1)).getLast? = l[f]? := by
  rw [List.getLast?_eq_getElem?, List.length_take, Nat.min_eq_left (by omega)]
  simp
theorem last_all {α : Type} (l : List α) {m : Nat} (h : l.length = m + 1) : l.getLast? = l[m]? := by rw [List.getLast?_eq_getElem?, h]; rfl
theorem ord_case {l : List (II.K × II.V)} (ha : Asc II.lt (keysOf l)) (key : Int) :
    ∃ N r bb xc xf xm xx, N = l.length ∧ rkB II.lt (keysOf l) key = r ∧ hasB II.lt (keysOf l) key = bb ∧ (l.drop (rkB II.lt (keysOf l) key)).head? = xc ∧ (l.take (rkL II.lt (keysOf l) key)).getLast? = xf ∧ l.head? = xm ∧ l.getLast? = xx ∧ OrdCase l key N r bb xc xf xm xx := by
  have hle : rkB II.lt (keysOf l) key ≤ l.length := by have := rkB_le (lt := II.lt) (keysOf l) key; simpa using this
  have hL := rkL_eq II.kord ha key
  rw [hL]
  refine ⟨_, _, _, _, _, _, _, rfl, rfl, rfl, rfl, rfl, rfl, rfl, ?_⟩
  rcases Nat.eq_zero_or_pos l.length with h0 | h0
  · have e : l = [] := List.eq_nil_of_length_eq_zero h0
    subst e
    exact .empty _ _ rfl rfl
  · obtain ⟨m, hm⟩ : ∃ m, l.length = m + 1 := ⟨l.length - 1, by omega⟩
    obtain ⟨a0, v0, e0⟩ := item_at h0
    obtain ⟨am, vm, em⟩ := item_at (l := l) (i := m) (by omega)
    rw [last_all l hm, em, head_drop, List.head?_eq_getElem?, e0, hm]
    cases hb : hasB II.lt (keysOf l) key with
    | true =>
      have hlt := hasB_lt hb
      have he := eq_of_beq ((hasB_eq hlt).symm.trans hb)
      simp only [keysOf, List.length_map] at hlt
      obtain ⟨r, hr⟩ : ∃ r, r = rkB II.lt (keysOf l) key := ⟨_, rfl⟩
      have hr' : r < l.length := by rw [hr]; exact hlt
      have er : l[r]? = some (key, l[r].2) := by
        rw [List.getElem?_eq_getElem hr']
        have : l[r].1 = key := by
          have := he
          simp only [keysOf, List.getElem_map] at this
          simp only [hr]
          exact this
        rw [← this]
      rw [← hr, if_pos rfl, last_take l hr', er]
      exact .there m r _ a0 v0 am vm (by omega) er e0 em
    | false =>
      rw [if_neg (by simp), Nat.add_zero]
      obtain ⟨r, hr⟩ : ∃ r, r = rkB II.lt (keysOf l) key := ⟨_, rfl⟩
      rw [← hr] at hle ⊢
      cases r with
      | zero => rw [e0]; exact .low m 0 a0 v0 am vm rfl e0 e0 em
      | succ r =>
        obtain ⟨af, vf, ef⟩ := item_at (l := l) (i := r) (by omega)
        rw [last_take l (by omega), ef]
        rcases Nat.lt_or_ge (r + 1) l.length with h1 | h1
        · obtain ⟨ac, vc, ec⟩ := item_at h1
          rw [ec]
          exact .between m r ac vc af vf a0 v0 am vm (by omega) ec ef e0 em
        · obtain rfl : r = m := by omega
          rw [List.getElem?_eq_none h1]
          rw [em] at ef
          obtain ⟨rfl, rfl⟩ : am = af ∧ vm = vf := by simpa using ef
          exact .high r a0 v0 am vm e0 em
/-- The Go map's answer at an item that the loop over From gives. -/
theorem from_item {w w0 W : World} {zM zK P b n c2 r : Nat} {v : Value} {l : List (II.K × II.V)} {D : DataW Unit} {A2 : Option Addr} (h : OrdAt w w0 W zM zK P b n c2 v l D A2) (hp : 0 < (l.drop r).length) (i : Nat) :
    (Instr.lookup 47 (.map (some b)) (.int .i64 (II.itemAt (l.drop r) i).1) false).run Try.prog W = .ok (.int .i64 (II.itemAt (l.drop r) i).2) W :=
  (II.item_of h.two (List.mem_of_mem_drop (II.itemAt_mem hp i))).2.2.2
theorem from_keys {l : List (II.K × II.V)} (r : Nat) : (List.range (l.drop r).length).map (fun i => Value.int .i64 (II.itemAt (l.drop r) i).1) = ((keysOf l).drop r).map (Value.int .i64) := by
  apply List.ext_getElem
  · simp [keysOf]
  · intro i h1 h2
    have hi : i < (l.drop r).length := by simpa using h1
    simp only [List.getElem_map, List.getElem_range, II.itemAt_eq hi, List.getElem_drop, keysOf]
theorem row_cells {W : World} {g o : Nat} {xs : List Int} (h : ∀ j u, (xs.map (Value.int .i64))[j]? = some u → W.cell? ((⟨g, 0, none⟩ : Addr).add j) = some u) (ho : o ≤ xs.length) : ∀ j, j < (xs.drop o).length → W.cell? ⟨g, o + j, none⟩ = some (.int .i64 ((xs.drop o).getD j 0)) := by
  intro j hj
  have hj' : o + j < xs.length := by simp at hj; omega
  have := h (o + j) (.int .i64 ((xs.drop o).getD j 0)) (by rw [List.getElem?_map, List.getElem?_eq_getElem hj']; simp [List.getD, List.getElem?_eq_getElem hj'])
  rw [II.add_plain, Nat.zero_add] at this
  exact this
/-- What the loop gathered, against the sorted keys from the rank on. -/
theorem equal_from {W : World} {bF c2 cF r N : Nat} {l : List (II.K × II.V)} {F A2 X : Option Addr} (hF : W.ownsRow bF 3 1 (.slice F (N - r) cF) (N - r) (((keysOf l).drop r).map (Value.int .i64)))
    (hk : W.ownsRow 0 3 1 (.slice A2 N c2) N ((keysOf l).map (Value.int .i64))) (hN : N = l.length) (hr : r ≤ N) (hl : N ≤ 100) (hX : X = if c2 = r then A2 else A2.map (fun x => x.add r)) :
    Calls Try.prog 35 #[.slice F (N - r) cF, .slice X (N - r) (c2 - r)] W fun e w' => e = .returned (.bool true) ∧ ∃ q, w' = W.drewN q := by
  have hkl : (keysOf l).length = N := by simp [hN]
  rcases Nat.eq_zero_or_pos (N - r) with h0 | h0
  · rw [h0]
    refine (Try.slices_Equal_int_empty F X cF 0 (c2 - r) W (by omega)).mono ?_
    rintro e w' ⟨rfl, rfl⟩
    exact ⟨by simp, 0, by rfl⟩
  · rcases hF.2 with ⟨_, h⟩ | ⟨gF, capF, curF, eF, _⟩
    · omega
    rcases hk.2 with ⟨_, h⟩ | ⟨g, cap, cur, e0, _, _, hcap, _⟩
    · omega
    have e1 : F = some ⟨gF, 0, none⟩ := by injection eF
    have e2 : A2 = some ⟨g, 0, none⟩ := by injection e0
    have e3 : c2 = cap := by injection e0
    subst e1 e2 e3
    rw [if_neg (by omega)] at hX
    have e4 : X = some ⟨g, r, none⟩ := by rw [hX, Option.map_some, II.add_plain, Nat.zero_add]
    subst e4
    have hdl : ((keysOf l).drop r).length = N - r := by rw [List.length_drop, hkl]
    have c1 := row_cells (o := 0) (hF.cells (g := gF) rfl) (Nat.zero_le _)
    have c2' := row_cells (o := r) (hk.cells (g := g) rfl) (by omega)
    rw [List.drop_zero] at c1
    refine (Try.slices_Equal_int gF 0 (N - r) cF g r (N - r) (c2 - r) ((keysOf l).drop r) ((keysOf l).drop r) W (by omega) (by omega) (by omega) (by omega) c1 c2').mono ?_
    rintro e w' ⟨rfl, q, rfl⟩
    exact ⟨by simp, q, rfl⟩
theorem row_shape {W : World} {B n : Nat} {v : Value} {xs : List Value} (h : W.ownsRow B 3 1 v n xs) : ∃ F c, v = .slice F n c := by
  rcases h.2 with ⟨rfl, h0⟩ | ⟨g, cap, cur, rfl, _⟩
  · exact ⟨none, 0, by rw [h0]⟩
  · exact ⟨_, _, rfl⟩
end Go.Proofs.Ytlfigdembgkkoaa
