/- What a loop over a queue's iterator may say of its own boxes and rows; an append in its round. -/
import Derived.Test.YtfpolnokdebncaaAll
namespace Go.Proofs.Ytfpolnokdebncaa
open Go.RowKit QT
theorem cells_kept {A C : World} {B k : Nat} {cs : Array Value} {t : TypeId} {fr : Nat × Nat} (h : A.heap[k]? = some (.cells cs t fr)) (ht : t ≠ 112 ∧ t ≠ 115) (hc : Turned B A C) : C.heap[k]? = some (.cells cs t fr) := by
  refine (hc.block k (lt_of_heap h) (.inr ?_)).trans h
  rintro ⟨cs', t', fr', h1, h2⟩
  rw [h] at h1
  cases h1
  rcases h2 with h2 | h2
  · exact ht.1 h2
  · exact ht.2 h2
theorem boxed_turned {A C : World} {B k : Nat} {t : TypeId} {v : Value} (h : Boxed A k t v) (ht : t ≠ 112 ∧ t ≠ 115) (hc : Turned B A C) : Boxed C k t v := cells_kept h ht hc
theorem owns_turned {A C : World} {B b : Nat} {e : TypeId} {sz m : Nat} {v : Value} {xs : List Value} (h : A.ownsRow b e sz v m xs) (ht : e ≠ 112 ∧ e ≠ 115) (hc : Turned B A C) : C.ownsRow b e sz v m xs := by
  refine ⟨h.1, h.2.imp id ?_⟩
  rintro ⟨g, cap, cur, hv, hg, hh, r⟩
  exact ⟨g, cap, cur, hv, hg, cells_kept hh ht hc, r⟩
theorem below_turned {n₀ B : Nat} {w A C : World} (h : Below n₀ w A) (hn : n₀ ≤ w.heap.size) (hB : n₀ ≤ B) (hc : Turned B A C) : Below n₀ w C :=
  h.trans ⟨hc.os, hc.tape, hc.output, hc.size, fun k hk => hc.block k (Nat.lt_of_lt_of_le hk (Nat.le_trans hn h.size)) (.inl (by omega))⟩
theorem Abid.and {β : Type} {B : Nat} {I I' : β → World → Prop} (h : Abid B I) (h' : Abid B I') : Abid B (fun s V => I s V ∧ I' s V) :=
  ⟨h.own.and h'.own, fun s A C hs hc => ⟨h.turn s A C hs.1 hc, h'.turn s A C hs.2 hc⟩⟩
theorem abid_below {β : Type} {n₀ B : Nat} {w : World} (hn : n₀ ≤ w.heap.size) (hB : n₀ ≤ B) : Abid B (fun (_ : β) V => Below n₀ w V) :=
  ⟨ownFrom_below hn hB, fun _ _ _ hs hc => below_turned hs hn hB hc⟩
theorem abid_row {β : Type} (n₀ B k : Nat) (t e : TypeId) (size : Nat) (m : β → Nat) (f : β → List Value) (G : β → Value → Prop) (ht : t ≠ 112 ∧ t ≠ 115) (he : e ≠ 112 ∧ e ≠ 115) :
    Abid B (fun s V => ∃ v, Boxed V k t v ∧ V.ownsRow n₀ e size v (m s) (f s) ∧ G s v) :=
  ⟨(holdsRow_own n₀ k t e size m f G).from _, fun _ _ _ ⟨v, h1, h2, h3⟩ hc => ⟨v, boxed_turned h1 ht hc, owns_turned h2 he hc, h3⟩⟩
theorem abid_box {β : Type} (B k : Nat) (t : TypeId) (f : β → Value) (ht : t ≠ 112 ∧ t ≠ 115) : Abid B (fun s V => Boxed V k t (f s)) :=
  ⟨fun s A C row h hg hr => Boxed.kept h hg (fun e => by
    obtain ⟨_, o, h1, h2⟩ := hr k e.symm
    rw [show A.heap[k]? = _ from h] at h1
    cases h1
    cases h2), fun _ _ _ h hc => boxed_turned h ht hc⟩
theorem abid_false {β : Type} (B : Nat) : Abid B (fun (_ : β) _ => False) := ⟨fun _ _ _ _ h _ _ => h, fun _ _ _ h _ => h⟩
theorem not_mine_cells {V : World} {k : Nat} {cs : Array Value} {t : TypeId} {fr : Nat × Nat} (h : V.heap[k]? = some (.cells cs t fr)) (ht : t ≠ 112 ∧ t ≠ 115) : ¬ Mine V k := by
  rintro ⟨cs', t', fr', h1, h2⟩
  rw [h] at h1
  cases h1
  rcases h2 with h2 | h2
  · exact ht.1 h2
  · exact ht.2 h2
/-- An append to a boxed slice spares the queues. -/
theorem appended_spares {W w1 : World} {n₀ k : Nat} {t e : TypeId} {size m : Nat} {v v' : Value} {xs : List Value} {tmp : Obj} (hv : Boxed W k t v) (hte : t ≠ e) (ht : t ≠ 112 ∧ t ≠ 115) (he : e ≠ 112 ∧ e ≠ 115)
    (hrow : W.ownsRow n₀ e size v m xs) (hg : (W.alloc tmp).grownBy w1 v.ownBlock) : Spares W (w1.setCell ⟨k, 0, none⟩ v') := by
  have hv1 : Boxed w1 k t v := (hv.alloc tmp).kept hg (hv.not_row hte hrow)
  refine ((Spares.of_grownBy (World.grownBy_alloc W tmp none) (fun j e => by cases e)).trans (Spares.of_grownBy hg fun j ej => ?_)).trans (Spares.of_grownBy (grownBy_setCell' w1 k v') fun j ej => by cases ej; exact not_mine_cells hv1 ht)
  rcases (hrow.alloc tmp).2 with ⟨rfl, _⟩ | ⟨g, cap, cur, rfl, _, hh, _⟩
  · cases ej
  · obtain rfl : g = j := by simpa [Value.ownBlock] using ej
    exact not_mine_cells hh he
theorem KeepsFrom.of_others {B : Nat} {A C : World} (h : KeepsOthers A C) : KeepsFrom B A C := h.from B
theorem row_beside {W w1 : World} {tmp : Obj} {b b' e e' sz sz' k k' : Nat} {v v' : Value} {xs xs' : List Value} (h : W.ownsRow b e sz v k xs) (h' : W.ownsRow b' e' sz' v' k' xs') (hne : e ≠ e') (hg : (W.alloc tmp).grownBy w1 v'.ownBlock) : w1.ownsRow b e sz v k xs := by
  refine (h.alloc tmp).kept hg ?_
  rcases h.2 with ⟨rfl, _⟩ | ⟨g, cap, cur, rfl, _, hh, _⟩
  · exact .inl rfl
  · refine .inr fun ej => ?_
    rcases h'.2 with ⟨rfl, _⟩ | ⟨g', cap', cur', rfl, _, hh', _⟩
    · cases ej
    · obtain rfl : g = g' := by simpa [Value.ownBlock] using ej
      rw [hh] at hh'
      injection hh' with hh'
      injection hh' with _ hh'
      exact hne hh'
theorem row_box {w : World} {b e sz k B : Nat} {t : TypeId} {v u : Value} {xs : List Value} (h : w.ownsRow b e sz v k xs) (hb : Boxed w B t u) (ht : t ≠ e) (u' : Value) : (w.setCell ⟨B, 0, none⟩ u').ownsRow b e sz v k xs :=
  h.kept (grownBy_setCell' w B u') (.inr (hb.not_row ht h).symm)
theorem box_beside {W w1 : World} {tmp : Obj} {b e sz k B : Nat} {t : TypeId} {v u : Value} {xs : List Value} (hb : Boxed W B t u) (h : W.ownsRow b e sz v k xs) (ht : t ≠ e) (hg : (W.alloc tmp).grownBy w1 v.ownBlock) : Boxed w1 B t u :=
  (hb.alloc tmp).kept hg (hb.not_row ht h)
theorem box_box {w : World} {B B' : Nat} {t : TypeId} {u : Value} (h : Boxed w B t u) (hne : B ≠ B') (u' : Value) : Boxed (w.setCell ⟨B', 0, none⟩ u') B t u := (Below.heap_setCell w ⟨B', 0, none⟩ u' B hne).trans h
/-- A queue, the row of wishes, and the blocks from lo to hi as they stood in V0. -/
def Aside (w0 V0 V : World) (lo hi P n : Nat) (S : List It) (Z : Nat) (o : Obj) : Prop :=
  ∃ v G pl, QOwn V w0.heap.size P n v G pl ∧ G.Perm S ∧ Below w0.heap.size w0 V ∧ P ≠ Z ∧ v.ownBlock ≠ some Z ∧ V.heap[Z]? = some o ∧ P < lo ∧ Z < lo ∧ hi ≤ V.heap.size ∧ w0.heap.size ≤ Z ∧
    (∀ g, v.ownBlock = some g → g < lo ∨ hi ≤ g) ∧ (∀ k, lo ≤ k → k < hi → V.heap[k]? = V0.heap[k]?)
section
variable {w0 V0 V : World} {lo hi P n Z : Nat} {S : List It} {o : Obj}
theorem Aside.has (h : Aside w0 V0 V lo hi P n S Z o) : QHas w0 V P n S := by
  obtain ⟨v, G, pl, h1, h2, h3, _⟩ := h
  exact ⟨v, G, pl, h1, h2, h3⟩
theorem Aside.bel (h : Aside w0 V0 V lo hi P n S Z o) : Below w0.heap.size w0 V := by
  obtain ⟨v, G, pl, h1, h2, h3, _⟩ := h
  exact h3
theorem Aside.row (h : Aside w0 V0 V lo hi P n S Z o) : V.heap[Z]? = some o := by
  obtain ⟨v, G, pl, h1, h2, h3, h4, h5, h6, _⟩ := h
  exact h6
theorem Aside.same (h : Aside w0 V0 V lo hi P n S Z o) {k : Nat} (h1 : lo ≤ k) (h2 : k < hi) : V.heap[k]? = V0.heap[k]? := by
  obtain ⟨_, _, _, _, _, _, _, _, _, _, _, _, _, _, h9⟩ := h
  exact h9 k h1 h2
theorem Aside.top (h : Aside w0 V0 V lo hi P n S Z o) : hi ≤ V.heap.size ∧ Z < lo := by
  obtain ⟨_, _, _, _, _, _, _, _, _, _, h7, h8, _⟩ := h
  exact ⟨h8, h7⟩
theorem Aside.below {V' : World} (h : Aside w0 V0 V lo hi P n S Z o) (hb : Below V.heap.size V V') : Aside w0 V0 V' lo hi P n S Z o := by
  obtain ⟨v, G, pl, h1, h2, h3, h4, h5, h6, h7, h8, h9, h10, h11, h12⟩ := h
  exact ⟨v, G, pl, h1.below hb, h2, h3.trans (hb.mono h3.size), h4, h5, (hb.block Z (lt_of_heap h6)).trans h6, h7, h8, Nat.le_trans h9 hb.size, h10, h11, fun k k1 k2 => (hb.block k (by omega)).trans (h12 k k1 k2)⟩
theorem Aside.perm {T : List It} (h : Aside w0 V0 V lo hi P n S Z o) (hp : S.Perm T) : Aside w0 V0 V lo hi P n T Z o := by
  obtain ⟨v, G, pl, h1, h2, r⟩ := h
  exact ⟨v, G, pl, h1, h2.trans hp, r⟩
theorem aside_pop (h : Aside w0 V0 V lo hi P n S Z o) {x : It} {t : List It} (hs : Rising lt (x :: t)) (hp : (x :: t).Perm S) :
    Calls Try.prog 35 #[.pointer (some ⟨P, 0, none⟩)] V fun e V' => e = .returned (.tuple #[.int .i64 (x.1 : Nat), .string x.2, .bool true]) ∧ Hid (Aside w0 V0 V' lo hi P n t Z o) := by
  obtain ⟨v, G, pl, h1, h2, h3, h4, h5, h6, h7, h8, h9, h10, h11, h12⟩ := h
  have hpG := hp.trans h2.symm
  have hl := hpG.length_eq
  obtain ⟨y, hy⟩ : ∃ y, G[0]? = some y := ⟨_, List.getElem?_eq_getElem (by rw [← hl]; simp)⟩
  obtain ⟨t', e⟩ := head_first iord h1.heap hy hs hpG
  obtain ⟨rfl, rfl⟩ : x = y ∧ t = t' := by simpa using e
  refine (pop_any h1 x hy).mono ?_
  rintro e V' ⟨rfl, v', G', pl', j1, j2, j3⟩
  have hZ := lt_of_heap h6
  refine ⟨rfl, v', G', pl', j1, ((j2.symm.trans h2).trans hp.symm).cons_inv, chg_below h1 h3 j3, h4, fun e => ?_, (j3.but.block Z hZ (by rintro (e | e); exact h4 e.symm; exact h5 e)).trans h6, h7, h8, Nat.le_trans h9 j3.but.size, h10, fun g hg => ?_, fun k k1 k2 => (j3.but.block k (by omega) ?_).trans (h12 k k1 k2)⟩
  · rcases j3.row Z e with hh | hh
    · exact h5 hh
    · omega
  · rcases j3.row g hg with hh | hh
    · exact h11 g hh
    · omega
  · rintro (e | e)
    · omega
    · have := h11 k e
      omega
theorem aside_set {cs : Array Value} {t : TypeId} (h : Aside w0 V0 V lo hi P n S Z (.cells cs t (0, 0))) (i : Nat) (u : Value) : Aside w0 V0 (V.setCell ⟨Z, i, none⟩ u) lo hi P n S Z (.cells (cs.setIfInBounds i u) t (0, 0)) := by
  obtain ⟨v, G, pl, h1, h2, h3, h4, h5, h6, h7, h8, h9, h10, h11, h12⟩ := h
  have hk : ∀ k, k ≠ Z → (V.setCell ⟨Z, i, none⟩ u).heap[k]? = V.heap[k]? := fun k hk => Below.heap_setCell V ⟨Z, i, none⟩ u k hk
  refine ⟨v, G, pl, ⟨⟨h1.qs.hP, (hk P h4).trans h1.qs.blk, owns_of_block h1.qs.row fun g hg => hk g (fun e => h5 (e ▸ hg)), h1.qs.len⟩, h1.heap, h1.plc, h1.nd, h1.ids, h1.hn⟩, h2, h3.setCell (p := ⟨Z, i, none⟩) h10 u, h4, h5, heap_setCell_same V Z i _ _ u h6, h7, h8, ?_, h10, h11, fun k k1 k2 => (hk k (by omega)).trans (h12 k k1 k2)⟩
  have := ((Below.refl 0 V).setCell (p := ⟨Z, i, none⟩) (Nat.zero_le _) u).size
  omega
end
end Go.Proofs.Ytfpolnokdebncaa
