/- The reference's image: what it takes up; its operations. -/
import Derived.Test.YtaohlblhfmlpbaaUse
import Derived.Deep.RegionLaw
namespace Go.Proofs.Ytaohlblhfmlpbaa
open Go.RowKit
def rcells (v : Value) (d sz : Nat) : Array Value := #[v, .int .i64 (d : Nat), .int .i64 (sz : Nat)]
/-- The reference's image at block Q. -/
structure ROwn (w : World) (B Q sz d : Nat) (v : Value) (l : List E) : Prop where
  hP : B ≤ Q
  blk : w.heap[Q]? = some (.cells (rcells v d sz) 62 (0, 0))
  row : w.ownsRow B 5 1 v l.length (vs l)
  dle : d ≤ l.length
  le : l.length ≤ sz
  pos : 1 ≤ sz
  sz_le : sz ≤ 8192
section
variable {w : World} {B Q sz d : Nat} {v : Value} {l : List E}
theorem ROwn.c0 (h : ROwn w B Q sz d v l) : w.cell? ⟨Q, 0, none⟩ = some v := (cell_of_row w Q 0 _ _ (0, 0) h.blk).trans rfl
theorem ROwn.c1 (h : ROwn w B Q sz d v l) : w.cell? ⟨Q, 1, none⟩ = some (.int .i64 (d : Nat)) := (cell_of_row w Q 1 _ _ (0, 0) h.blk).trans rfl
theorem ROwn.c2 (h : ROwn w B Q sz d v l) : w.cell? ⟨Q, 2, none⟩ = some (.int .i64 (sz : Nat)) := (cell_of_row w Q 2 _ _ (0, 0) h.blk).trans rfl
theorem ROwn.fz (h : ROwn w B Q sz d v l) (i : Nat) : w.frozen? ⟨Q, i, none⟩ = false := frozen_of_row w Q i _ _ h.blk
theorem ROwn.lt (h : ROwn w B Q sz d v l) : Q < w.heap.size := lt_of_heap h.blk
theorem ROwn.foot_lt (h : ROwn w B Q sz d v l) : ∀ b, Foot Q v b → b < w.heap.size := fun b hb => by
  rcases hb with rfl | hb
  · exact h.lt
  · exact (h.row.lt b hb).2
theorem ROwn.foot_le (h : ROwn w B Q sz d v l) : ∀ b, Foot Q v b → B ≤ b := fun b hb => by
  rcases hb with rfl | hb
  · exact h.hP
  · exact (h.row.lt b hb).1
theorem ROwn.same {w' : World} (h : ROwn w B Q sz d v l) (hb : ∀ b, Foot Q v b → w'.heap[b]? = w.heap[b]?) : ROwn w' B Q sz d v l :=
  ⟨h.hP, (hb Q (.inl rfl)).trans h.blk, owns_of_block h.row fun g hg => hb g (.inr hg), h.dle, h.le, h.pos, h.sz_le⟩
theorem ROwn.below {w' : World} (h : ROwn w B Q sz d v l) (hb : Below w.heap.size w w') : ROwn w' B Q sz d v l := h.same fun b hF => hb.block b (h.foot_lt b hF)
theorem ROwn.turned {w' : World} {F F' : Nat → Prop} (h : ROwn w B Q sz d v l) (hT : Turn F F' w w') (hA : Apart F (Foot Q v)) : ROwn w' B Q sz d v l := h.same (hT.same hA h.foot_lt)
theorem ROwn.ne (h : ROwn w B Q sz d v l) : v.ownBlock ≠ some Q := by
  intro he
  rcases h.row.2 with ⟨h0, _⟩ | ⟨g, cap, cur, hv, _, hh, _⟩
  · rw [h0] at he; cases he
  · rw [hv] at he
    obtain rfl : g = Q := by simpa [Value.ownBlock] using he
    rw [h.blk] at hh
    cases hh
/-- The number of durable bytes alone has turned. -/
theorem ROwn.remark (h : ROwn w B Q sz d v l) (m : Nat) (hm : m ≤ l.length) : ROwn (w.setCell ⟨Q, 1, none⟩ (.int .i64 (m : Nat))) B Q sz m v l ∧ Turn (Foot Q v) (Foot Q v) w (w.setCell ⟨Q, 1, none⟩ (.int .i64 (m : Nat))) := by
  refine ⟨⟨h.hP, ?_, owns_of_block h.row fun g hg => Below.heap_setCell w _ _ g (fun e => h.ne (by rw [← show g = Q from e]; exact hg)), hm, h.le, h.pos, h.sz_le⟩, (But.refl _ w).setCell (.inl (.inl rfl)) _, fun _ h => .inl h⟩
  rw [heap_setCell_same w Q 1 _ _ _ h.blk]
  rfl
/-- A new row is stored. -/
theorem ROwn.put (h : ROwn w B Q sz d v l) {w2 : World} (hB : Below w.heap.size w w2) {v' : Value} {l' : List E} {n : Nat} (hn : n = l'.length) (hr : w2.ownsRow w.heap.size 5 1 v' n (vs l')) (hle : l'.length ≤ sz) (hd : d ≤ l'.length) :
    ROwn (w2.setCell ⟨Q, 0, none⟩ v') B Q sz d v' l' ∧ Turn (Foot Q v) (Foot Q v') w (w2.setCell ⟨Q, 0, none⟩ v') := by
  subst hn
  have hlt := h.lt
  refine ⟨⟨h.hP, ?_, ?_, hd, hle, h.pos, h.sz_le⟩, (But.of_below hB).setCell (.inl (.inl rfl)) _, fun b hb => ?_⟩
  · rw [heap_setCell_same w2 Q 0 _ _ _ ((hB.block Q hlt).trans h.blk)]
    rfl
  · exact owns_le (owns_of_block hr fun g hg => Below.heap_setCell w2 _ _ g (by have := (hr.lt g hg).1; show g ≠ Q; omega)) (by have := h.hP; omega)
  · rcases hb with rfl | hb
    · exact .inl (.inl rfl)
    · exact .inr (hr.lt b hb).1
end
def RLeft (w : World) (B Q sz d : Nat) (v : Value) (l : List E) (w' : World) : Prop := ∃ v', ROwn w' B Q sz d v' l ∧ Turn (Foot Q v) (Foot Q v') w w'
/-- A world that an append onto a new row has left. -/
theorem own_grown {w w0 w1 : World} {b : Nat} (hb : Below w.heap.size w w0) (hg : w0.grownBy w1 (some b)) (hl : w.heap.size ≤ b) : Below w.heap.size w w1 :=
  hb.grown hg hb.size (fun k hk => by have e := Option.some.inj hk; omega)
theorem empty_owns (w : World) {B : Nat} (hB : B ≤ w.heap.size) : (w.alloc (.cells #[] 5)).ownsRow B 5 1 (.slice (some ⟨w.heap.size, 0, none⟩) 0 0) 0 (vs []) :=
  ⟨rfl, .inr ⟨w.heap.size, 0, #[], rfl, hB, World.alloc_heap_new w _, Nat.le_refl _, by unfold maxLen; omega, rfl, rfl⟩⟩
/-- What a slice's cells are, as what is appended. -/
def News (w : World) (A : Option Addr) (l : List E) : Prop := ∀ ad, A = some ad → ∀ (j : Nat) u, (vs l)[j]? = some u → w.cell? (ad.add j) = some u
theorem SB.news {w : World} {A : Option Addr} {n : Nat} {l : List E} (h : SB w A n l) : News w A l := fun ad e j u hj => by
  obtain ⟨x, hx, rfl⟩ := vs_at hj
  have hlt : j < n := by rw [← h.1]; exact (List.getElem?_eq_some_iff.1 hx).1
  obtain ⟨a', e', hc'⟩ := h.2 (by omega)
  rw [e'] at e
  cases e
  exact hc' j x hx
/-- 'append(out, b...)' where out is the call's own and b is a slice of bytes, nil or not. -/
theorem wp_app (w : World) {o : Oper} {a : Act} {K : Act → World → Prop} {Q : Exit → Act → World → Prop} (s x : Operand)
    (ho : o.op = .call { callee := .builtin .append, args := #[s, x], argTypes := #[23, 23] }) (base : Nat)
    (v : Value) (nv : Nat) (xs : List E) (hs : a.eval s = v) (hown : w.ownsRow base 5 1 v nv (vs xs))
    (A : Option Addr) (n c : Nat) (l : List E) (hx : a.eval x = .slice A n c) (hl : l.length = n) (hb : News w A l) (hnil : A = none → n = 0 ∧ c = 0)
    (hn : nv + n ≤ 100000) (hbase : base ≤ w.heap.size)
    (h : ∀ v' w', w'.ownsRow base 5 1 v' (nv + n) (vs (xs ++ l)) → w.grownBy w' v.ownBlock → (v'.ownBlock = v.ownBlock ∨ v'.ownBlock = some w.heap.size) → K (a.put o.dst v') w') : o.wp Try.prog a w K Q := by
  obtain ⟨i0, hi0, hz0, hz1, hz2⟩ := info_parts infoE
  cases A with
  | none =>
    obtain ⟨rfl, rfl⟩ := hnil rfl
    obtain rfl : l = [] := List.eq_nil_of_length_eq_zero hl
    have hrun := run_append_owned_none (P := Try.prog) (w := w) base 23 o.type 5 i0 1 Try.underlying23 hi0 v nv (vs xs) hown
    unfold Oper.wp
    simp [execOp, ho, resolve, invoke, builtin, hs, hx, hrun, Result.andThen]
    exact h v w (by simpa using hown) (World.grownBy.refl _ _) (Or.inl rfl)
  | some ad =>
    obtain ⟨v', w', hr, h2, h3, _, h5⟩ := run_append_own_at (P := Try.prog) w base 23 o.type 5 i0 _ 1 1 Try.underlying23 hi0 hz0 hz1 hz2 rfl (by omega) v nv (vs xs) hown ad n c (vs l) (by rw [length_vs, hl, Nat.mul_one]) (hb ad rfl) (vs_one l) (by unfold maxLen; omega) (by omega) hbase
    unfold Oper.wp execOp
    simp only [ho, resolve, invoke, builtin, Sem.run_bind, Sem.run_pure, Result.andThen_ok, List.map_toArray, List.map_cons, List.map_nil, hs, hx, hr]
    exact h v' w' (by rw [vs_append]; exact h2) h3 h5
theorem list_app (w : World) {ops : Array Oper} {rest : List Oper} {o : Oper} {a : Act} {Q : Exit → Act → World → Prop} (hw : Region.wanted o (yielded ops a.tmps) = true) (s x : Operand)
    (ho : o.op = .call { callee := .builtin .append, args := #[s, x], argTypes := #[23, 23] }) (base : Nat)
    (v : Value) (nv : Nat) (xs : List E) (hs : a.eval s = v) (hown : w.ownsRow base 5 1 v nv (vs xs))
    (A : Option Addr) (n c : Nat) (l : List E) (hx : a.eval x = .slice A n c) (hl : l.length = n) (hb : News w A l) (hnil : A = none → n = 0 ∧ c = 0)
    (hn : nv + n ≤ 100000) (hbase : base ≤ w.heap.size)
    (h : ∀ v' w', w'.ownsRow base 5 1 v' (nv + n) (vs (xs ++ l)) → w.grownBy w' v.ownBlock → (v'.ownBlock = v.ownBlock ∨ v'.ownBlock = some w.heap.size) → wpList Try.prog ops Q rest (a.put o.dst v') w') : wpList Try.prog ops Q (o :: rest) a w := by
  refine wpList_step fun K hK => ?_
  rw [if_pos hw]
  exact wp_app w s x ho base v nv xs hs hown A n c l hx hl hb hnil hn hbase fun v' w' h1 h2 h3 => hK _ _ (h v' w' h1 h2 h3)
theorem step_app (w : World) {ops : Array Oper} {o : Oper} {a : Act} {K : Act → World → Prop} {Q : Exit → Act → World → Prop} {E' : Prop} (hw : Region.wanted o (yielded ops a.tmps) = true) (s x : Operand)
    (ho : o.op = .call { callee := .builtin .append, args := #[s, x], argTypes := #[23, 23] }) (base : Nat)
    (v : Value) (nv : Nat) (xs : List E) (hs : a.eval s = v) (hown : w.ownsRow base 5 1 v nv (vs xs))
    (A : Option Addr) (n c : Nat) (l : List E) (hx : a.eval x = .slice A n c) (hl : l.length = n) (hb : News w A l) (hnil : A = none → n = 0 ∧ c = 0)
    (hn : nv + n ≤ 100000) (hbase : base ≤ w.heap.size)
    (h : ∀ v' w', w'.ownsRow base 5 1 v' (nv + n) (vs (xs ++ l)) → w.grownBy w' v.ownBlock → (v'.ownBlock = v.ownBlock ∨ v'.ownBlock = some w.heap.size) → K (a.put o.dst v') w') :
    if Region.wanted o (yielded ops a.tmps) = true then Oper.wp Try.prog o a w K Q else E' := by
  rw [if_pos hw]
  exact wp_app w s x ho base v nv xs hs hown A n c l hx hl hb hnil hn hbase h
theorem neq_refptr (a : Addr) (w : World) : (binOp .neq 31 (.pointer (some a)) (.pointer none)).run Try.prog w = .ok (.bool true) w := by
  simp [go_sem, Try.underlying31]
section
variable {w : World} {B Q sz d : Nat} {v : Value} {l : List E}
theorem rvalid_any (Q sz : Nat) (w : World) (h : w.cell? ⟨Q, 2, none⟩ = some (.int .i64 (sz : Nat))) (hp : Hid (1 ≤ sz)) : Calls Try.prog 35 #[.pointer (some ⟨Q, 0, none⟩)] w fun e w' => e = .returned (.bool true) ∧ w = w' := by
  have hq := neq_refptr ⟨Q, 0, none⟩ w
  have h0 : decide (0 < sz) = true := decide_eq_true hp.out
  have g0 := Lib.hid h0
  clear h0
  go_enter Try.func35, Try.ntmps35
  go_wp2
  go_ret
  exact ⟨congrArg (fun b => Ending.returned (.bool b)) g0.out, rfl⟩
theorem rlen_any (h : ROwn w B Q sz d v l) : Calls Try.prog 39 #[.pointer (some ⟨Q, 0, none⟩)] w fun e w' => e = .returned (.int .i64 (l.length : Nat)) ∧ w = w' := by
  obtain ⟨A, c, rfl, _⟩ := owns_sl h.row
  have c0 := h.c0
  have c2 := h.c2
  have gp := Lib.hid h.pos
  clear h
  go_enter Try.func39, Try.ntmps39
  go_wp2_with (go_at_call 35; refine (rvalid_any Q sz _ c2 gp).mono ?_; rintro e w' ⟨rfl, rfl⟩)
  go_ret
  exact ⟨rfl, rfl⟩
theorem rdurable_any (h : ROwn w B Q sz d v l) : Calls Try.prog 40 #[.pointer (some ⟨Q, 0, none⟩)] w fun e w' => e = .returned (.int .i64 (d : Nat)) ∧ w = w' := by
  have c1 := h.c1
  have c2 := h.c2
  have gp := Lib.hid h.pos
  clear h
  go_enter Try.func40, Try.ntmps40
  go_wp2_with (go_at_call 35; refine (rvalid_any Q sz _ c2 gp).mono ?_; rintro e w' ⟨rfl, rfl⟩)
  go_ret
  exact ⟨rfl, rfl⟩
theorem rsize_any (h : ROwn w B Q sz d v l) : Calls Try.prog 41 #[.pointer (some ⟨Q, 0, none⟩)] w fun e w' => e = .returned (.int .i64 (sz : Nat)) ∧ w = w' := by
  have c2 := h.c2
  have gp := Lib.hid h.pos
  clear h
  go_enter Try.func41, Try.ntmps41
  go_wp2_with (go_at_call 35; refine (rvalid_any Q sz _ c2 gp).mono ?_; rintro e w' ⟨rfl, rfl⟩)
  go_ret
  exact ⟨rfl, rfl⟩
theorem rroom_any (h : ROwn w B Q sz d v l) : Calls Try.prog 36 #[.pointer (some ⟨Q, 0, none⟩)] w fun e w' => e = .returned (.int .i64 ((sz - l.length : Nat) : Int)) ∧ Below w.heap.size w w' := by
  have e1 := sub_ok h.le h.sz_le
  obtain ⟨A, c, rfl, _⟩ := owns_sl h.row
  have c0 := h.c0
  have c2 := h.c2
  have gp := Lib.hid h.pos
  obtain ⟨n, hn⟩ : ∃ n, n = l.length := ⟨_, rfl⟩
  rw [← hn] at e1 c0 ⊢
  clear h hn
  go_enter Try.func36, Try.ntmps36
  go_wp2_with (go_at_call 35; refine (rvalid_any Q sz _ c2 gp).mono ?_; rintro e w' ⟨rfl, rfl⟩)
  go_region
  go_wp2_with fail
  go_ret
  exact ⟨congrArg (fun z => Ending.returned (.int .i64 z)) e1, (Below.refl _ _).drew⟩
theorem rsync_any (h : ROwn w B Q sz d v l) : Calls Try.prog 16 #[.pointer (some ⟨Q, 0, none⟩)] w fun e w' => e = .returned (.tuple #[]) ∧ Hid (ROwn w' B Q sz l.length v l ∧ Turn (Foot Q v) (Foot Q v) w w') := by
  have gE := Lib.hid (h.remark l.length (Nat.le_refl _))
  obtain ⟨A, c, rfl, _⟩ := owns_sl h.row
  have c0 := h.c0
  have c1 := h.c1
  have c2 := h.c2
  have fz := h.fz 1
  have gp := Lib.hid h.pos
  clear h
  go_enter Try.func16, Try.ntmps16
  go_wp2_with (go_at_call 35; refine (rvalid_any Q sz _ c2 gp).mono ?_; rintro e w' ⟨rfl, rfl⟩)
  go_end0
  exact ⟨rfl, gE.out⟩
theorem rerase_any (h : ROwn w B Q sz d v l) : Calls Try.prog 20 #[.pointer (some ⟨Q, 0, none⟩)] w fun e w' => e = .returned (.tuple #[]) ∧ Hid (ROwn w' B Q sz 0 (.slice none 0 0) [] ∧ Turn (Foot Q v) (Foot Q (.slice none 0 0)) w w') := by
  have c0 := h.c0
  have c2 := h.c2
  have f0 := h.fz 0
  have gp := Lib.hid h.pos
  obtain ⟨w2, hw2⟩ : ∃ w2, w2 = w.setCell ⟨Q, 0, none⟩ (.slice none 0 0) := ⟨_, rfl⟩
  have hb2 : w2.heap[Q]? = some (.cells (rcells (.slice none 0 0) d sz) 62 (0, 0)) := by
    rw [hw2, heap_setCell_same w Q 0 _ _ _ h.blk]
    rfl
  have c1 := (cell_of_row w2 Q 1 _ _ (0, 0) hb2).trans (show _ = some (.int .i64 (d : Nat)) from rfl)
  have f1 := frozen_of_row w2 Q 1 _ _ hb2
  have gE := Lib.hid (show ROwn (w2.setCell ⟨Q, 1, none⟩ (.int .i64 0)) B Q sz 0 (.slice none 0 0) [] ∧ Turn (Foot Q v) (Foot Q (.slice none 0 0)) w (w2.setCell ⟨Q, 1, none⟩ (.int .i64 0)) from by
    refine ⟨⟨h.hP, ?_, World.ownsRow_nil _ _ _ _, Nat.le_refl _, Nat.zero_le _, h.pos, h.sz_le⟩, ?_, fun b hb => ?_⟩
    · rw [heap_setCell_same w2 Q 1 _ _ _ hb2]
      rfl
    · rw [hw2]
      exact ((But.refl _ w).setCell (.inl (.inl rfl)) _).setCell (.inl (.inl rfl)) _
    · rcases hb with rfl | hb
      · exact .inl (.inl rfl)
      · simp [Value.ownBlock] at hb)
  clear h hb2
  subst hw2
  go_enter Try.func20, Try.ntmps20
  go_wp2_with (go_at_call 35; refine (rvalid_any Q sz _ c2 gp).mono ?_; rintro e w' ⟨rfl, rfl⟩)
  go_end0
  exact ⟨rfl, gE.out⟩
theorem rnew_bad (n : Int) (w : World) (h : n < 1 ∨ 8192 < n) : Calls Try.prog 12 #[.int .i64 n] w fun e w' => e = .returned (.tuple #[.pointer none, .int .i64 2]) ∧ w = w' := by
  rcases h with h | h
  · go_enter Try.func12, Try.ntmps12
    go_wp2
    go_ret2
    exact ⟨rfl, rfl⟩
  · have h2 : ¬ (n < 1) := by omega
    go_enter Try.func12, Try.ntmps12
    go_wp2
    go_ret2
    exact ⟨rfl, rfl⟩
theorem rnew_any (n : Nat) (w : World) (h1 : 1 ≤ n) (h : n ≤ 8192) : Calls Try.prog 12 #[.int .i64 (n : Nat)] w fun e w' => e = .returned (.tuple #[.pointer (some ⟨w.heap.size, 0, none⟩), .int .i64 0]) ∧ Hid (ROwn w' w.heap.size w.heap.size n 0 (.slice none 0 0) [] ∧ Below w.heap.size w w') := by
  have i1 : (1 : Int) ≤ (n : Int) := by omega
  have i2 : (n : Int) ≤ 8192 := by omega
  go_enter Try.func12, Try.ntmps12
  go_wp2_with fail
  go_ret2
  exact ⟨rfl, ⟨Nat.le_refl _, World.alloc_heap_new _ _, World.ownsRow_nil _ _ _ _, Nat.le_refl _, Nat.zero_le _, h1, h⟩, (Below.refl _ w).alloc (Nat.le_refl _) _⟩
theorem rcrash_arg (h : ROwn w B Q sz d v l) (i : Int) (hi : i < 0) : Calls Try.prog 18 #[.pointer (some ⟨Q, 0, none⟩), .int .i64 i] w fun e w' => e = .returned (.int .i64 2) ∧ w = w' := by
  have c2 := h.c2
  have gp := Lib.hid h.pos
  clear h
  go_enter Try.func18, Try.ntmps18
  go_wp2_with (go_at_call 35; refine (rvalid_any Q sz _ c2 gp).mono ?_; rintro e w' ⟨rfl, rfl⟩)
  go_ret
  exact ⟨rfl, rfl⟩
theorem rappend_full (h : ROwn w B Q sz d v l) (A : Option Addr) (n c : Nat) (hn : sz < l.length + n) : Calls Try.prog 14 #[.pointer (some ⟨Q, 0, none⟩), .slice A n c] w fun e w' => e = .returned (.int .i64 4) ∧ Below w.heap.size w w' := by
  have g := Lib.hid h
  have c2 := h.c2
  have gp := Lib.hid h.pos
  have hl := h.le
  obtain ⟨r, hr⟩ : ∃ r, r = sz - l.length := ⟨_, rfl⟩
  have gr := Lib.hid hr
  have e1 : (r : Int) < (n : Int) := by omega
  clear h hr hl hn
  go_enter Try.func14, Try.ntmps14
  go_wp2_with first
    | (go_at_call 35; refine (rvalid_any Q sz _ c2 gp).mono ?_; rintro e w' ⟨rfl, rfl⟩)
    | (go_at_call 36; refine (rroom_any g.out).mono ?_; rintro e w1 ⟨rfl, hb⟩; rw [← gr.out]; have gb := Lib.hid hb; clear hb)
  go_ret
  exact ⟨rfl, gb.out⟩
end
end Go.Proofs.Ytaohlblhfmlpbaa
