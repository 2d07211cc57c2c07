/- Two queues of strings side by side. -/
import Derived.Test.YtfpolnokdebncaaHold
import Derived.Test.YtfpolnokdebncaaSort
namespace Go.Proofs.Ytfpolnokdebncaa.QT
open Go.RowKit
/-- The queue at block P with the items S, and beside it, in other blocks, the queue at block R with the items T. -/
def Pair (w0 w : World) (P n R m : Nat) (S T : List It) : Prop :=
  ∃ v G pl u H ql, QOwn w w0.heap.size P n v G pl ∧ G.Perm S ∧ QOwn w w0.heap.size R m u H ql ∧ H.Perm T ∧ Below w0.heap.size w0 w ∧ P ≠ R ∧ v.ownBlock ≠ some R ∧ u.ownBlock ≠ some P ∧ (∀ g, v.ownBlock = some g → u.ownBlock ≠ some g)
section
variable {w0 w : World} {P n R m : Nat} {S T : List It}
theorem Pair.swap (h : Pair w0 w P n R m S T) : Pair w0 w R m P n T S := by
  obtain ⟨v, G, pl, u, H, ql, h1, h2, h3, h4, h5, h6, h7, h8, h9⟩ := h
  exact ⟨u, H, ql, v, G, pl, h3, h4, h1, h2, h5, Ne.symm h6, h8, h7, fun g hu hv => h9 g hv hu⟩
theorem Pair.below {w' : World} (h : Pair w0 w P n R m S T) (hb : Below w.heap.size w w') : Pair w0 w' P n R m S T := by
  obtain ⟨v, G, pl, u, H, ql, h1, h2, h3, h4, h5, h6⟩ := h
  exact ⟨v, G, pl, u, H, ql, h1.below hb, h2, h3.below hb, h4, h5.trans (hb.mono h5.size), h6⟩
theorem Pair.one (h : Pair w0 w P n R m S T) : QHas w0 w P n S := by
  obtain ⟨v, G, pl, u, H, ql, h1, h2, h3, h4, h5, h6⟩ := h
  exact ⟨v, G, pl, h1, h2, h5⟩
/-- A queue beside one that changes. -/
theorem own_keep {w' : World} {B : Nat} {v v' u : Value} {H : List It} {ql : List Nat} (hc : Chg w w' P v v') (h : QOwn w B R m u H ql) (h6 : P ≠ R) (h7 : v.ownBlock ≠ some R) (h8 : u.ownBlock ≠ some P) (h9 : ∀ g, v.ownBlock = some g → u.ownBlock ≠ some g) :
    QOwn w' B R m u H ql ∧ v'.ownBlock ≠ some R ∧ (∀ g, v'.ownBlock = some g → u.ownBlock ≠ some g) := by
  have hR := lt_of_heap h.qs.blk
  refine ⟨⟨⟨h.qs.hP, (hc.but.block R hR (by rintro (e | e); exact h6 e.symm; exact h7 e)).trans h.qs.blk, owns_of_block h.qs.row fun g hg => hc.but.block g (h.qs.row.lt g hg).2 (by
    rintro (e | e)
    · exact h8 (e ▸ hg)
    · exact h9 g e hg), h.qs.len⟩, h.heap, h.plc, h.nd, h.ids, h.hn⟩, fun e => ?_, fun g e hg => ?_⟩
  · rcases hc.row R e with h | h
    · exact h7 h
    · omega
  · rcases hc.row g e with hh | hh
    · exact h9 g hh hg
    · have := (h.qs.row.lt g hg).2
      omega
theorem pair_pop (h : Pair w0 w P n R m S T) {x : It} {t : List It} (hs : Rising lt (x :: t)) (hp : (x :: t).Perm S) : Calls Try.prog 35 #[.pointer (some ⟨P, 0, none⟩)] w fun e w' => e = .returned (.tuple #[.int .i64 (x.1 : Nat), .string x.2, .bool true]) ∧ Hid (Pair w0 w' P n R m t T) := by
  obtain ⟨v, G, pl, u, H, ql, h1, h2, h3, h4, h5, h6, h7, h8, h9⟩ := h
  have hpG := hp.trans h2.symm
  have hl := hpG.length_eq
  obtain ⟨y, hy⟩ : ∃ y, G[0]? = some y := ⟨_, List.getElem?_eq_getElem (by rw [← hl]; simp)⟩
  obtain ⟨t', e⟩ := head_first iord h1.heap hy hs hpG
  obtain ⟨rfl, rfl⟩ : x = y ∧ t = t' := by simpa using e
  refine (pop_any h1 x hy).mono ?_
  rintro e w' ⟨rfl, v', G', pl', k1, k2, k3⟩
  obtain ⟨j1, j2, j3⟩ := own_keep k3 h3 h6 h7 h8 h9
  exact ⟨rfl, v', G', pl', u, H, ql, k1, ((k2.symm.trans h2).trans hp.symm).cons_inv, j1, h4, chg_below h1 h5 k3, h6, j2, h8, j3⟩
theorem pair_push (h : Pair w0 w P n R m S T) (i : Nat) (p : Pr) (hi : i < n) (hno : ∀ y ∈ S, y.1 ≠ i) : Calls Try.prog 38 #[.pointer (some ⟨P, 0, none⟩), .int .i64 (i : Nat), .string p] w fun e w' => e = .returned (.int .i64 0) ∧ Hid (Pair w0 w' P n R m ((i, p) :: S) T) := by
  obtain ⟨v, G, pl, u, H, ql, h1, h2, h3, h4, h5, h6, h7, h8, h9⟩ := h
  refine (push_any w _ P n i v G pl p h1 hi (fun y hy => hno y (h2.mem_iff.1 hy))).mono ?_
  rintro e w' ⟨rfl, v', G', pl', k1, k2, k3⟩
  obtain ⟨j1, j2, j3⟩ := own_keep k3 h3 h6 h7 h8 h9
  exact ⟨rfl, v', G', pl', u, H, ql, k1, k2.trans ((h2.append_right _).trans List.perm_append_comm), j1, h4, chg_below h1 h5 k3, h6, j2, h8, j3⟩
end
end Go.Proofs.Ytfpolnokdebncaa.QT
