/- The reference's list of strings: what it takes up; its operations. -/
import Derived.Test.YtidkdidlndfbfaaRefNil
namespace Go.Proofs.Ytidkdidlndfbfaa.HS
open Go.RowKit
structure ROwn (w : World) (B Q lim mk : Nat) (v : Value) (l : List E) : Prop where
  hP : B ≤ Q
  blk : w.heap[Q]? = some (.cells #[.bool true, v, .int .i64 (mk : Nat), .int .i64 (lim : Nat)] 82 (0, 0))
  row : w.ownsRow B 9 1 v l.length (vs l)
  mkle : mk ≤ l.length
  le : l.length ≤ lim
  lim_le : lim ≤ 100000
section
variable {w : World} {B Q lim mk : Nat} {v : Value} {l : List E}
theorem ROwn.c0 (h : ROwn w B Q lim mk v l) : w.cell? ⟨Q, 0, none⟩ = some (.bool true) := (cell_of_row w Q 0 _ _ (0, 0) h.blk).trans rfl
theorem ROwn.c1 (h : ROwn w B Q lim mk v l) : w.cell? ⟨Q, 1, none⟩ = some v := (cell_of_row w Q 1 _ _ (0, 0) h.blk).trans rfl
theorem ROwn.c2 (h : ROwn w B Q lim mk v l) : w.cell? ⟨Q, 2, none⟩ = some (.int .i64 (mk : Nat)) := (cell_of_row w Q 2 _ _ (0, 0) h.blk).trans rfl
theorem ROwn.c3 (h : ROwn w B Q lim mk v l) : w.cell? ⟨Q, 3, none⟩ = some (.int .i64 (lim : Nat)) := (cell_of_row w Q 3 _ _ (0, 0) h.blk).trans rfl
theorem ROwn.fz (h : ROwn w B Q lim mk v l) (i : Nat) : w.frozen? ⟨Q, i, none⟩ = false := frozen_of_row w Q i _ _ h.blk
theorem ROwn.lt (h : ROwn w B Q lim mk v l) : Q < w.heap.size := lt_of_heap h.blk
theorem ROwn.foot_lt (h : ROwn w B Q lim mk v l) : ∀ b, Foot Q v b → b < w.heap.size := fun b hb => by
  rcases hb with rfl | hb
  · exact h.lt
  · exact (h.row.lt b hb).2
theorem ROwn.foot_le (h : ROwn w B Q lim mk v l) : ∀ b, Foot Q v b → B ≤ b := fun b hb => by
  rcases hb with rfl | hb
  · exact h.hP
  · exact (h.row.lt b hb).1
theorem ROwn.same {w' : World} (h : ROwn w B Q lim mk v l) (hb : ∀ b, Foot Q v b → w'.heap[b]? = w.heap[b]?) : ROwn w' B Q lim mk v l :=
  ⟨h.hP, (hb Q (.inl rfl)).trans h.blk, owns_of_block h.row fun g hg => hb g (.inr hg), h.mkle, h.le, h.lim_le⟩
theorem ROwn.below {w' : World} (h : ROwn w B Q lim mk v l) (hb : Below w.heap.size w w') : ROwn w' B Q lim mk v l := h.same fun b hF => hb.block b (h.foot_lt b hF)
theorem ROwn.turned {w' : World} {F F' : Nat → Prop} (h : ROwn w B Q lim mk v l) (hT : Turn F F' w w') (hA : Apart F (Foot Q v)) : ROwn w' B Q lim mk v l := h.same (hT.same hA h.foot_lt)
theorem ROwn.ne (h : ROwn w B Q lim mk v l) : v.ownBlock ≠ some Q := by
  intro he
  rcases h.row.2 with ⟨h0, _⟩ | ⟨g, cap, cur, hv, _, hh, _⟩
  · rw [h0] at he; cases he
  · rw [hv] at he
    obtain rfl : g = Q := by simpa [Value.ownBlock] using he
    rw [h.blk] at hh
    cases hh
/-- The marks alone have turned. -/
theorem ROwn.remark (h : ROwn w B Q lim mk v l) (m : Nat) (hm : m ≤ l.length) : ROwn (w.setCell ⟨Q, 2, none⟩ (.int .i64 (m : Nat))) B Q lim m v l ∧ Turn (Foot Q v) (Foot Q v) w (w.setCell ⟨Q, 2, none⟩ (.int .i64 (m : Nat))) := by
  refine ⟨⟨h.hP, ?_, owns_of_block h.row fun g hg => Below.heap_setCell w _ _ g (fun e => h.ne (by rw [← show g = Q from e]; exact hg)), hm, h.le, h.lim_le⟩, (But.refl _ w).setCell (.inl (.inl rfl)) _, fun _ h => .inl h⟩
  rw [heap_setCell_same w Q 2 _ _ _ h.blk]
  rfl
/-- A new row is stored. -/
theorem ROwn.put (h : ROwn w B Q lim mk v l) {w2 : World} (hB : Below w.heap.size w w2) {v' : Value} {l' : List E} {n : Nat} (hn : n = l'.length) (hr : w2.ownsRow w.heap.size 9 1 v' n (vs l')) (hle : l'.length ≤ lim) (hmk : mk ≤ l'.length) :
    ROwn (w2.setCell ⟨Q, 1, none⟩ v') B Q lim mk v' l' ∧ Turn (Foot Q v) (Foot Q v') w (w2.setCell ⟨Q, 1, none⟩ v') := by
  subst hn
  have hlt := h.lt
  refine ⟨⟨h.hP, ?_, ?_, hmk, hle, h.lim_le⟩, (But.of_below hB).setCell (.inl (.inl rfl)) _, fun b hb => ?_⟩
  · rw [heap_setCell_same w2 Q 1 _ _ _ ((hB.block Q hlt).trans h.blk)]
    rfl
  · exact owns_le (owns_of_block hr fun g hg => Below.heap_setCell w2 _ _ g (by have := (hr.lt g hg).1; show g ≠ Q; omega)) (by have := h.hP; omega)
  · rcases hb with rfl | hb
    · exact .inl (.inl rfl)
    · exact .inr (hr.lt b hb).1
end
theorem empty_owns (w : World) {B : Nat} (hB : B ≤ w.heap.size) : (w.alloc (.cells #[] 9)).ownsRow B 9 1 (.slice (some ⟨w.heap.size, 0, none⟩) 0 0) 0 (vs []) :=
  ⟨rfl, .inr ⟨w.heap.size, 0, #[], rfl, hB, World.alloc_heap_new w _, Nat.le_refl _, by unfold maxLen; omega, rfl, rfl⟩⟩
/-- 'append(out, b...)' where out is the call's own and b is a slice of strings, nil or not. -/
theorem wp_app (w : World) {o : Oper} {a : Act} {K : Act → World → Prop} {Q : Exit → Act → World → Prop} (s x : Operand)
    (ho : o.op = .call { callee := .builtin .append, args := #[s, x], argTypes := #[39, 39] }) (base : Nat)
    (v : Value) (nv : Nat) (xs : List Value) (hs : a.eval s = v) (hown : w.ownsRow base 9 1 v nv xs)
    (A : Option Addr) (n c : Nat) (l : List E) (hx : a.eval x = .slice A n c) (hl : l.length = n) (hb : ∀ ad, A = some ad → ∀ (j : Nat) u, (vs l)[j]? = some u → w.cell? (ad.add j) = some u) (hnil : A = none → n = 0 ∧ c = 0)
    (hn : nv + n ≤ 8796093022208) (hbase : base ≤ w.heap.size)
    (h : ∀ v' w', w'.ownsRow base 9 1 v' (nv + n) (xs ++ vs l) → w.grownBy w' v.ownBlock → (v'.ownBlock = v.ownBlock ∨ v'.ownBlock = some w.heap.size) → K (a.put o.dst v') w') : o.wp Try.prog a w K Q := by
  obtain ⟨i0, hi0, hz0, hz1, hz2⟩ := info_parts infoE
  cases A with
  | none =>
    obtain ⟨rfl, rfl⟩ := hnil rfl
    obtain rfl : l = [] := List.eq_nil_of_length_eq_zero hl
    have hrun := run_append_owned_none (P := Try.prog) (w := w) base 39 o.type 9 i0 1 Try.underlying39 hi0 v nv xs hown
    unfold Oper.wp
    simp [execOp, ho, resolve, invoke, builtin, hs, hx, hrun, Result.andThen]
    exact h v w (by simpa [vs] using hown) (World.grownBy.refl _ _) (Or.inl rfl)
  | some ad =>
    obtain ⟨v', w', hr, h2, h3, _, h5⟩ := run_append_own_at (P := Try.prog) w base 39 o.type 9 i0 _ 1 16 Try.underlying39 hi0 hz0 hz1 hz2 rfl (by omega) v nv xs hown ad n c (vs l) (by rw [length_vs, hl, Nat.mul_one]) (hb ad rfl) (vs_one l) (by unfold maxLen; omega) (by omega) hbase
    unfold Oper.wp execOp
    simp only [ho, resolve, invoke, builtin, Sem.run_bind, Sem.run_pure, Result.andThen_ok, List.map_toArray, List.map_cons, List.map_nil, hs, hx, hr]
    exact h v' w' h2 h3 h5
theorem list_app (w : World) {ops : Array Oper} {rest : List Oper} {o : Oper} {a : Act} {Q : Exit → Act → World → Prop} (hw : Region.wanted o (yielded ops a.tmps) = true) (s x : Operand)
    (ho : o.op = .call { callee := .builtin .append, args := #[s, x], argTypes := #[39, 39] }) (base : Nat)
    (v : Value) (nv : Nat) (xs : List Value) (hs : a.eval s = v) (hown : w.ownsRow base 9 1 v nv xs)
    (A : Option Addr) (n c : Nat) (l : List E) (hx : a.eval x = .slice A n c) (hl : l.length = n) (hb : ∀ ad, A = some ad → ∀ (j : Nat) u, (vs l)[j]? = some u → w.cell? (ad.add j) = some u) (hnil : A = none → n = 0 ∧ c = 0)
    (hn : nv + n ≤ 8796093022208) (hbase : base ≤ w.heap.size)
    (h : ∀ v' w', w'.ownsRow base 9 1 v' (nv + n) (xs ++ vs l) → w.grownBy w' v.ownBlock → (v'.ownBlock = v.ownBlock ∨ v'.ownBlock = some w.heap.size) → wpList Try.prog ops Q rest (a.put o.dst v') w') : wpList Try.prog ops Q (o :: rest) a w := by
  refine wpList_step fun K hK => ?_
  rw [if_pos hw]
  exact wp_app w s x ho base v nv xs hs hown A n c l hx hl hb hnil hn hbase fun v' w' h1 h2 h3 => hK _ _ (h v' w' h1 h2 h3)
theorem step_app (w : World) {ops : Array Oper} {o : Oper} {a : Act} {K : Act → World → Prop} {Q : Exit → Act → World → Prop} {E' : Prop} (hw : Region.wanted o (yielded ops a.tmps) = true) (s x : Operand)
    (ho : o.op = .call { callee := .builtin .append, args := #[s, x], argTypes := #[39, 39] }) (base : Nat)
    (v : Value) (nv : Nat) (xs : List Value) (hs : a.eval s = v) (hown : w.ownsRow base 9 1 v nv xs)
    (A : Option Addr) (n c : Nat) (l : List E) (hx : a.eval x = .slice A n c) (hl : l.length = n) (hb : ∀ ad, A = some ad → ∀ (j : Nat) u, (vs l)[j]? = some u → w.cell? (ad.add j) = some u) (hnil : A = none → n = 0 ∧ c = 0)
    (hn : nv + n ≤ 8796093022208) (hbase : base ≤ w.heap.size)
    (h : ∀ v' w', w'.ownsRow base 9 1 v' (nv + n) (xs ++ vs l) → w.grownBy w' v.ownBlock → (v'.ownBlock = v.ownBlock ∨ v'.ownBlock = some w.heap.size) → K (a.put o.dst v') w') :
    if Region.wanted o (yielded ops a.tmps) = true then Oper.wp Try.prog o a w K Q else E' := by
  rw [if_pos hw]
  exact wp_app w s x ho base v nv xs hs hown A n c l hx hl hb hnil hn hbase h
/-- A slice's cells, as what is appended. -/
theorem SL.news {w : World} {A : Option Addr} {n : Nat} {l : List E} (h : SL w A n l) (ad : Addr) (e : A = some ad) (j : Nat) (u : Value) (hj : (vs l)[j]? = some u) : w.cell? (ad.add j) = some u := by
  have hl : j < l.length := by have := (List.getElem?_eq_some_iff.1 hj).1; rwa [length_vs] at this
  obtain ⟨b, hA, hc⟩ := h.2 (by rw [← h.1]; omega)
  obtain rfl : ad = ⟨b, 0, none⟩ := by rw [hA] at e; exact (Option.some.inj e).symm
  have hx : l[j]? = some l[j] := List.getElem?_eq_getElem hl
  rw [vs_some hx] at hj
  rw [add_plain, Nat.zero_add, hc j _ hx]
  exact hj
theorem SL.news_drop {w : World} {A : Option Addr} {n c r : Nat} {l : List E} (h : SL w A n l) (hr : r ≤ n) (hc : n ≤ c) (ad : Addr) (e : (if c = r then A else Option.map (fun x => x.add r) A) = some ad) (j : Nat) (u : Value) (hj : (vs (l.drop r))[j]? = some u) : w.cell? (ad.add j) = some u := by
  have hl : j < (l.drop r).length := by have := (List.getElem?_eq_some_iff.1 hj).1; rwa [length_vs] at this
  rw [List.length_drop] at hl
  have hn := h.1
  rw [if_neg (by omega)] at e
  obtain ⟨b, rfl, hcell⟩ := h.2 (by omega)
  obtain rfl : (⟨b, 0, none⟩ : Addr).add r = ad := by simpa using e
  have hx : l[r + j]? = some l[r + j] := List.getElem?_eq_getElem (by omega)
  have hx2 : (l.drop r)[j]? = some l[r + j] := by rw [List.getElem?_drop]; exact hx
  rw [vs_some hx2] at hj
  rw [add_plain, add_plain, Nat.zero_add, hcell _ _ hx]
  exact hj
theorem eql_refptr (a : Addr) (w : World) : (binOp .neq 28 (.pointer (some a)) (.pointer none)).run Try.prog w = .ok (.bool true) w := by
  simp [go_sem, Try.underlying28]
section
variable {w : World} {B Q lim mk : Nat} {v : Value} {l : List E}
theorem rvalid_any (Q : Nat) (w : World) (h : w.cell? ⟨Q, 0, none⟩ = some (.bool true)) : Calls Try.prog 46 #[.pointer (some ⟨Q, 0, none⟩)] w fun e w' => e = .returned (.bool true) ∧ w = w' := by
  have hq := eql_refptr ⟨Q, 0, none⟩ w
  go_enter Try.func46, Try.ntmps46
  go_wp2
  go_ret
  exact ⟨rfl, rfl⟩
theorem rlen_any (h : ROwn w B Q lim mk v l) : Calls Try.prog 52 #[.pointer (some ⟨Q, 0, none⟩)] w fun e w' => e = .returned (.int .i64 (l.length : Nat)) ∧ w = w' := by
  obtain ⟨A, c, rfl, _⟩ := owns_sl h.row
  have c0 := h.c0
  have c1 := h.c1
  clear h
  go_enter Try.func52, Try.ntmps52
  go_wp2_with (go_at_call 46; refine (rvalid_any Q _ c0).mono ?_; rintro e w' ⟨rfl, rfl⟩)
  go_ret
  exact ⟨rfl, rfl⟩
theorem rmarked_any (h : ROwn w B Q lim mk v l) : Calls Try.prog 53 #[.pointer (some ⟨Q, 0, none⟩)] w fun e w' => e = .returned (.int .i64 (mk : Nat)) ∧ w = w' := by
  have c0 := h.c0
  have c2 := h.c2
  clear h
  go_enter Try.func53, Try.ntmps53
  go_wp2_with (go_at_call 46; refine (rvalid_any Q _ c0).mono ?_; rintro e w' ⟨rfl, rfl⟩)
  go_ret
  exact ⟨rfl, rfl⟩
theorem rmark_any (h : ROwn w B Q lim mk v l) : Calls Try.prog 16 #[.pointer (some ⟨Q, 0, none⟩)] w fun e w' => e = .returned (.tuple #[]) ∧ Hid (ROwn w' B Q lim l.length v l ∧ Turn (Foot Q v) (Foot Q v) w w') := by
  have gE := Lib.hid (h.remark l.length (Nat.le_refl _))
  obtain ⟨A, c, rfl, _⟩ := owns_sl h.row
  have c0 := h.c0
  have c1 := h.c1
  have c2 := h.c2
  have fz := h.fz 2
  clear h
  go_enter Try.func16, Try.ntmps16
  go_wp2_with (go_at_call 46; refine (rvalid_any Q _ c0).mono ?_; rintro e w' ⟨rfl, rfl⟩)
  go_end0
  exact ⟨rfl, gE.out⟩
end
end Go.Proofs.Ytidkdidlndfbfaa.HS
