/- (queues of int64) What a loop over a queue's iterator may say of its own boxes and rows; an append in its round. -/
import Derived.Test.YtepgdeokjgjapaaQJAlike
namespace Go.Proofs.Ytepgdeokjgjapaa.QJ
open Go.RowKit
theorem cells_kept {A C : World} {B k : Nat} {cs : Array Value} {t : TypeId} {fr : Nat × Nat} (h : A.heap[k]? = some (.cells cs t fr)) (ht : t ≠ 53 ∧ t ≠ 104) (hc : Turned B A C) : C.heap[k]? = some (.cells cs t fr) := by
  refine (hc.block k (lt_of_heap h) (.inr ?_)).trans h
  rintro ⟨cs', t', fr', h1, h2⟩
  rw [h] at h1
  cases h1
  rcases h2 with h2 | h2
  · exact ht.1 h2
  · exact ht.2 h2
theorem boxed_turned {A C : World} {B k : Nat} {t : TypeId} {v : Value} (h : Boxed A k t v) (ht : t ≠ 53 ∧ t ≠ 104) (hc : Turned B A C) : Boxed C k t v := cells_kept h ht hc
theorem owns_turned {A C : World} {B b : Nat} {e : TypeId} {sz m : Nat} {v : Value} {xs : List Value} (h : A.ownsRow b e sz v m xs) (ht : e ≠ 53 ∧ e ≠ 104) (hc : Turned B A C) : C.ownsRow b e sz v m xs := by
  refine ⟨h.1, h.2.imp id ?_⟩
  rintro ⟨g, cap, cur, hv, hg, hh, r⟩
  exact ⟨g, cap, cur, hv, hg, cells_kept hh ht hc, r⟩
theorem below_turned {n₀ B : Nat} {w A C : World} (h : Below n₀ w A) (hn : n₀ ≤ w.heap.size) (hB : n₀ ≤ B) (hc : Turned B A C) : Below n₀ w C :=
  h.trans ⟨hc.os, hc.tape, hc.output, hc.size, fun k hk => hc.block k (Nat.lt_of_lt_of_le hk (Nat.le_trans hn h.size)) (.inl (by omega))⟩
theorem Abid.and {β : Type} {B : Nat} {I I' : β → World → Prop} (h : Abid B I) (h' : Abid B I') : Abid B (fun s V => I s V ∧ I' s V) :=
  ⟨h.own.and h'.own, fun s A C hs hc => ⟨h.turn s A C hs.1 hc, h'.turn s A C hs.2 hc⟩⟩
theorem abid_below {β : Type} {n₀ B : Nat} {w : World} (hn : n₀ ≤ w.heap.size) (hB : n₀ ≤ B) : Abid B (fun (_ : β) V => Below n₀ w V) :=
  ⟨ownFrom_below hn hB, fun _ _ _ hs hc => below_turned hs hn hB hc⟩
theorem abid_row {β : Type} (n₀ B k : Nat) (t e : TypeId) (size : Nat) (m : β → Nat) (f : β → List Value) (G : β → Value → Prop) (ht : t ≠ 53 ∧ t ≠ 104) (he : e ≠ 53 ∧ e ≠ 104) :
    Abid B (fun s V => ∃ v, Boxed V k t v ∧ V.ownsRow n₀ e size v (m s) (f s) ∧ G s v) :=
  ⟨(holdsRow_own n₀ k t e size m f G).from _, fun _ _ _ ⟨v, h1, h2, h3⟩ hc => ⟨v, boxed_turned h1 ht hc, owns_turned h2 he hc, h3⟩⟩
theorem abid_box {β : Type} (B k : Nat) (t : TypeId) (f : β → Value) (ht : t ≠ 53 ∧ t ≠ 104) : Abid B (fun s V => Boxed V k t (f s)) :=
  ⟨fun s A C row h hg hr => Boxed.kept h hg (fun e => by
    obtain ⟨_, o, h1, h2⟩ := hr k e.symm
    rw [show A.heap[k]? = _ from h] at h1
    cases h1
    cases h2), fun _ _ _ h hc => boxed_turned h ht hc⟩
theorem abid_false {β : Type} (B : Nat) : Abid B (fun (_ : β) _ => False) := ⟨fun _ _ _ _ h _ _ => h, fun _ _ _ h _ => h⟩
theorem not_mine_cells {V : World} {k : Nat} {cs : Array Value} {t : TypeId} {fr : Nat × Nat} (h : V.heap[k]? = some (.cells cs t fr)) (ht : t ≠ 53 ∧ t ≠ 104) : ¬ Mine V k := by
  rintro ⟨cs', t', fr', h1, h2⟩
  rw [h] at h1
  cases h1
  rcases h2 with h2 | h2
  · exact ht.1 h2
  · exact ht.2 h2
/-- An append to a boxed slice spares the queues. -/
theorem appended_spares {W w1 : World} {n₀ k : Nat} {t e : TypeId} {size m : Nat} {v v' : Value} {xs : List Value} {tmp : Obj} (hv : Boxed W k t v) (hte : t ≠ e) (ht : t ≠ 53 ∧ t ≠ 104) (he : e ≠ 53 ∧ e ≠ 104)
    (hrow : W.ownsRow n₀ e size v m xs) (hg : (W.alloc tmp).grownBy w1 v.ownBlock) : Spares W (w1.setCell ⟨k, 0, none⟩ v') := by
  have hv1 : Boxed w1 k t v := (hv.alloc tmp).kept hg (hv.not_row hte hrow)
  refine ((Spares.of_grownBy (World.grownBy_alloc W tmp none) (fun j e => by cases e)).trans (Spares.of_grownBy hg fun j ej => ?_)).trans (Spares.of_grownBy (grownBy_setCell' w1 k v') fun j ej => by cases ej; exact not_mine_cells hv1 ht)
  rcases (hrow.alloc tmp).2 with ⟨rfl, _⟩ | ⟨g, cap, cur, rfl, _, hh, _⟩
  · cases ej
  · obtain rfl : g = j := by simpa [Value.ownBlock] using ej
    exact not_mine_cells hh he
theorem KeepsFrom.of_others {B : Nat} {A C : World} (h : KeepsOthers A C) : KeepsFrom B A C := h.from B
theorem row_beside {W w1 : World} {tmp : Obj} {b b' e e' sz sz' k k' : Nat} {v v' : Value} {xs xs' : List Value} (h : W.ownsRow b e sz v k xs) (h' : W.ownsRow b' e' sz' v' k' xs') (hne : e ≠ e') (hg : (W.alloc tmp).grownBy w1 v'.ownBlock) : w1.ownsRow b e sz v k xs := by
  refine (h.alloc tmp).kept hg ?_
  rcases h.2 with ⟨rfl, _⟩ | ⟨g, cap, cur, rfl, _, hh, _⟩
  · exact .inl rfl
  · refine .inr fun ej => ?_
    rcases h'.2 with ⟨rfl, _⟩ | ⟨g', cap', cur', rfl, _, hh', _⟩
    · cases ej
    · obtain rfl : g = g' := by simpa [Value.ownBlock] using ej
      rw [hh] at hh'
      injection hh' with hh'
      injection hh' with _ hh'
      exact hne hh'
theorem row_box {w : World} {b e sz k B : Nat} {t : TypeId} {v u : Value} {xs : List Value} (h : w.ownsRow b e sz v k xs) (hb : Boxed w B t u) (ht : t ≠ e) (u' : Value) : (w.setCell ⟨B, 0, none⟩ u').ownsRow b e sz v k xs :=
  h.kept (grownBy_setCell' w B u') (.inr (hb.not_row ht h).symm)
theorem box_beside {W w1 : World} {tmp : Obj} {b e sz k B : Nat} {t : TypeId} {v u : Value} {xs : List Value} (hb : Boxed W B t u) (h : W.ownsRow b e sz v k xs) (ht : t ≠ e) (hg : (W.alloc tmp).grownBy w1 v.ownBlock) : Boxed w1 B t u :=
  (hb.alloc tmp).kept hg (hb.not_row ht h)
theorem box_box {w : World} {B B' : Nat} {t : TypeId} {u : Value} (h : Boxed w B t u) (hne : B ≠ B') (u' : Value) : Boxed (w.setCell ⟨B', 0, none⟩ u') B t u := (Below.heap_setCell w ⟨B', 0, none⟩ u' B hne).trans h
theorem exit_on {F : Fence} {n : Nat} {P : Program} {id : Nat} {Q : Exit → Act → World → Prop} {a : Act} {w : World} (h : Exit.inBlock id Q .normal a w) : (Code.exit id).wpIn F n P (Exit.inBlock id Q) a w := by
  refine wpIn_exit ?_
  simpa [Exit.inBlock] using h
/-- What follows a loop that may end in two ways, said once. -/
theorem two_ways {F : Fence} {n : Nat} {P : Program} {c : Code} {Q : Exit → Act → World → Prop} {a : Act} {w : World} (R : Nat → World → Prop)
    (hR : ∀ D W, R D W → Q .normal { a with defers := { target := .collected D, args := #[] } :: a.defers } W)
    (hL : (∀ D W, R D W → Q .normal { a with defers := { target := .collected D, args := #[] } :: a.defers } W) → c.wpIn F n P Q a w) : c.wpIn F n P Q a w := hL hR
theorem put_beside {w : World} {a b : Nat} {o o' : Obj} (h : w.heap[b]? = some o) (hne : a ≠ b) : (w.putObj a o').heap[b]? = some o := (World.putObj_heap_other hne.symm).trans h
theorem leaves_two {F : Fence} {n : Nat} {P : Program} {fn : Func} {tmps : Array Value} {R : Ending → World → Prop} {w w12 : World} {B D2 D1 : Nat} (h2 : w12.heap[D2]? = some (.deferred (some []))) (h1 : w12.heap[D1]? = some (.deferred (some [])))
    (d12 : D1 < D2) (hb : B ≤ D1) (hw : w.heap.size ≤ B) (hB : Below w.heap.size w w12) (hend : ∀ WF, Below w.heap.size w WF → (∀ k, k < B → WF.heap[k]? = w12.heap[k]?) → LeavesInM F n P fn tmps R [] .returning WF) :
    LeavesInM F n P fn tmps R [{ target := .collected D2, args := #[] }, { target := .collected D1, args := #[] }] .returning w12 := by
  have b2 : Below w.heap.size w12 (w12.putObj D2 (.deferred none)) := belowK_b (w := w) (Nat.le_refl _) _ _ _ _ (by omega) h2 rfl rfl
  have h1' := put_beside (o' := .deferred none) h1 (show D2 ≠ D1 by omega)
  have b1 : Below w.heap.size (w12.putObj D2 (.deferred none)) ((w12.putObj D2 (.deferred none)).putObj D1 (.deferred none)) := belowK_b (w := w) (Nat.le_refl _) _ _ _ _ (by omega) h1' rfl rfl
  refine ⟨by simp, .inl ⟨_, _, rfl, run_takeDeferred h2, ?_⟩⟩
  refine ⟨by simp, .inl ⟨_, _, rfl, run_takeDeferred h1', ?_⟩⟩
  exact hend _ ((hB.trans b2).trans b1) fun k hk => (World.putObj_heap_other (by omega)).trans (World.putObj_heap_other (by omega))
theorem abid_prop {β : Type} (B : Nat) (p : β → Prop) : Abid B (fun (s : β) _ => p s) := ⟨fun _ _ _ _ h _ _ => h, fun _ _ _ h _ => h⟩
theorem spares_box {U : World} {k : Nat} {t : TypeId} {v : Value} (h : Boxed U k t v) (ht : t ≠ 53 ∧ t ≠ 104) (u : Value) : Spares U (U.setCell ⟨k, 0, none⟩ u) :=
  Spares.of_grownBy (grownBy_setCell' U k u) (fun j ej => by cases ej; exact not_mine_cells h ht)
theorem not_prefix {T pre : List It} {x y : It} (hy : T[pre.length]? = some y) (hne : y ≠ x) : ¬ (pre ++ [x]) <+: T := by
  rintro ⟨r, rfl⟩
  rw [List.append_assoc, List.getElem?_append_right (Nat.le_refl _), Nat.sub_self] at hy
  exact hne (by simpa using hy.symm)
theorem eql_func (g : Nat) (lb : Array Value) (w : World) : (binOp .eql 45 (.func (.func g) #[] lb) .nilFunc).run Try.prog w = .ok (.bool false) w := by
  have h : ∀ d : Nat, (Op.equalIn (d + 1) 45 (.func (.func g) #[] lb) .nilFunc).run Try.prog w = .ok false w := fun d => by
    simp [Op.equalIn, run_underlying Try.underlying45]
  simp only [binOp]
  simp [Op.equal, Op.maxDepth, h 9999]
set_option maxHeartbeats 1000000 in
theorem yields_any (g : Nat) (lb : Array Value) (w : World) : Calls Try.prog 26 #[.func (.func g) #[] lb] w fun e w' => e = .returned (.func (.func g) #[] lb) ∧ w = w' := by
  have hq := eql_func g lb
  go_enter Try.func26, Try.ntmps26
  go_wp2
  go_ret
  exact ⟨rfl, rfl⟩
theorem own_slice {w : World} {B e n : Nat} {v : Value} {xs : List Value} (h : w.ownsRow B e 1 v n xs) : ∃ A c, v = .slice A n c := by
  rcases h.2 with ⟨rfl, rfl⟩ | ⟨g, cap, cur, rfl, _⟩
  · exact ⟨_, _, rfl⟩
  · exact ⟨_, _, rfl⟩
theorem own_split {V : World} {b e m c : Nat} {A : Option Addr} {xs : List Value} (h : V.ownsRow b e 1 (.slice A m c) m xs) (hm : 0 < m) :
    ∃ g, A = some ⟨g, 0, none⟩ ∧ b ≤ g ∧ g < V.heap.size ∧ ∀ W : World, W.heap[g]? = V.heap[g]? → ∀ j u, xs[j]? = some u → W.cell? ⟨g, j, none⟩ = some u := by
  rcases h.2 with ⟨_, h0⟩ | ⟨g, cap, cur, hv, hb, hh, _⟩
  · omega
  · obtain ⟨rfl, rfl⟩ : A = some ⟨g, 0, none⟩ ∧ c = cap := by injection hv with h1 _ h2; exact ⟨h1, h2⟩
    refine ⟨g, rfl, hb, lt_of_heap hh, fun W hW j u hj => ?_⟩
    have := row_at h hj
    rwa [show W.cell? ⟨g, j, none⟩ = V.cell? ⟨g, j, none⟩ from World.cell?_of_block hW]
end Go.Proofs.Ytepgdeokjgjapaa.QJ
