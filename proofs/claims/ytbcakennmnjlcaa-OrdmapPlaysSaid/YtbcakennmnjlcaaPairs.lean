/- pairs of a map that is valid: its two boxed rows of strings. -/
import Derived.Test.YtbcakennmnjlcaaNil
import Derived.Maps.OwnIn
namespace Go.Proofs.Ytbcakennmnjlcaa
open Go.RowKit Go.Shelf Go.Sort Go.Lib
attribute [local go_sem] Oper.semAt_some

/-- Two boxed rows of strings: what the boxes hold, and the rows as they are in the midst of a step. -/
structure Duo (lo L : Nat) (V W : World) (u1 u2 v1 v2 : Value) (ks vs : List ByteArray) : Prop where
  bL : Boxed W lo 3 (.int .i64 (L : Nat))
  b1 : Boxed W (lo + 1) 118 u1
  b2 : Boxed W (lo + 1 + 1) 118 u2
  r1 : W.ownsRow lo 9 1 v1 ks.length (sv ks)
  r2 : W.ownsRow lo 9 1 v2 vs.length (sv vs)
  ne : ∀ g, v1.ownBlock = some g → v2.ownBlock ≠ some g
  ko : KeepsOthers V W
  kb : Below lo V W
section
variable {lo L : Nat} {V W : World} {u1 u2 v1 v2 : Value} {ks vs : List ByteArray}
theorem Duo.le (h : Duo lo L V W u1 u2 v1 v2 ks vs) : lo ≤ W.heap.size := by have := h.bL.lt; omega
theorem not_rowed {w : World} {e n : Nat} {v : Value} {xs : List Value} {k : Nat} {t : TypeId} {u : Value} (h : w.ownsRow lo e 1 v n xs) (hb : Boxed w k t u) (ht : t ≠ e) : some k ≠ v.ownBlock := hb.not_row ht h
theorem duo_start (h : Duo lo L V W u1 u2 v1 v2 ks vs) : Duo lo L W W u1 u2 v1 v2 ks vs := ⟨h.bL, h.b1, h.b2, h.r1, h.r2, h.ne, KeepsOthers.refl _, Below.refl _ _⟩
theorem duo_alloc (h : Duo lo L V W u1 u2 v1 v2 ks vs) (o : Obj) : Duo lo L V (W.alloc o) u1 u2 v1 v2 ks vs :=
  ⟨h.bL.alloc o, h.b1.alloc o, h.b2.alloc o, h.r1.alloc o, h.r2.alloc o, h.ne, h.ko.trans (KeepsOthers.alloc W o), h.kb.trans ((Below.refl _ W).alloc h.le o)⟩
theorem cells_of_row {w : World} {e n : Nat} {v : Value} {xs : List Value} (h : w.ownsRow lo e 1 v n xs) : ∀ j o, v.ownBlock = some j → w.heap[j]? = some o → o.isCells = true := by
  intro j o ej hj
  rcases h.2 with ⟨rfl, _⟩ | ⟨g, cap, cur, rfl, _, hgb, _⟩
  · simp [Value.ownBlock] at ej
  · obtain rfl : g = j := by simpa [Value.ownBlock] using ej
    rw [hgb] at hj; cases hj; rfl
theorem row_ge {w : World} {e n : Nat} {v : Value} {xs : List Value} (h : w.ownsRow lo e 1 v n xs) : ∀ j, v.ownBlock = some j → lo ≤ j := fun j ej => (h.lt j ej).1
theorem duo_app1 (h : Duo lo L V W u1 u2 v1 v2 ks vs) {w1 : World} {v' : Value} {x : ByteArray} (hown : w1.ownsRow lo 9 1 v' (ks.length + 1) (sv ks ++ [.string x])) (hg : W.grownBy w1 v1.ownBlock) (hat : v'.ownBlock = v1.ownBlock ∨ v'.ownBlock = some W.heap.size) :
    Duo lo L V w1 u1 u2 v' v2 (ks ++ [x]) vs := by
  refine ⟨h.bL.kept hg (not_rowed h.r1 h.bL (by decide)), h.b1.kept hg (not_rowed h.r1 h.b1 (by decide)), h.b2.kept hg (not_rowed h.r1 h.b2 (by decide)), ?_, h.r2.kept hg ?_, ?_, h.ko.trans (KeepsOthers.of_grownBy hg (cells_of_row h.r1)), h.kb.grown hg h.le (row_ge h.r1)⟩
  · rw [List.length_append, sv_append]
    exact hown
  · cases h2 : v2.ownBlock with
    | none => exact .inl rfl
    | some g => exact .inr fun e => h.ne g e.symm h2
  · intro g hg' h2
    rcases hat with e | e
    · exact h.ne g (e ▸ hg') h2
    · rw [hg'] at e
      have := (h.r2.lt g h2).2
      have := Option.some.inj e
      omega
theorem duo_app2 (h : Duo lo L V W u1 u2 v1 v2 ks vs) {w1 : World} {v' : Value} {x : ByteArray} (hown : w1.ownsRow lo 9 1 v' (vs.length + 1) (sv vs ++ [.string x])) (hg : W.grownBy w1 v2.ownBlock) (hat : v'.ownBlock = v2.ownBlock ∨ v'.ownBlock = some W.heap.size) :
    Duo lo L V w1 u1 u2 v1 v' ks (vs ++ [x]) := by
  refine ⟨h.bL.kept hg (not_rowed h.r2 h.bL (by decide)), h.b1.kept hg (not_rowed h.r2 h.b1 (by decide)), h.b2.kept hg (not_rowed h.r2 h.b2 (by decide)), h.r1.kept hg ?_, ?_, ?_, h.ko.trans (KeepsOthers.of_grownBy hg (cells_of_row h.r2)), h.kb.grown hg h.le (row_ge h.r2)⟩
  · cases h2 : v1.ownBlock with
    | none => exact .inl rfl
    | some g => exact .inr fun e => h.ne g h2 e.symm
  · rw [List.length_append, sv_append]
    exact hown
  · intro g hg' h2
    rcases hat with e | e
    · exact h.ne g hg' (e ▸ h2)
    · rw [h2] at e
      have := (h.r1.lt g hg').2
      have := Option.some.inj e
      omega
theorem duo_set1 (h : Duo lo L V W u1 u2 v1 v2 ks vs) (u : Value) : Duo lo L V (W.setCell ⟨lo + 1, 0, none⟩ u) u u2 v1 v2 ks vs :=
  ⟨h.bL.other (by omega) u, h.b1.set u, h.b2.other (by omega) u, h.r1.kept (grownBy_setCell' W (lo + 1) u) (.inr (not_rowed h.r1 h.b1 (by decide)).symm), h.r2.kept (grownBy_setCell' W (lo + 1) u) (.inr (not_rowed h.r2 h.b1 (by decide)).symm), h.ne,
    h.ko.trans (KeepsOthers.setCell _ _ _), h.kb.setCell (p := ⟨lo + 1, 0, none⟩) (Nat.le_succ _) u⟩
theorem duo_set2 (h : Duo lo L V W u1 u2 v1 v2 ks vs) (u : Value) : Duo lo L V (W.setCell ⟨lo + 1 + 1, 0, none⟩ u) u1 u v1 v2 ks vs :=
  ⟨h.bL.other (by omega) u, h.b1.other (by omega) u, h.b2.set u, h.r1.kept (grownBy_setCell' W (lo + 1 + 1) u) (.inr (not_rowed h.r1 h.b2 (by decide)).symm), h.r2.kept (grownBy_setCell' W (lo + 1 + 1) u) (.inr (not_rowed h.r2 h.b2 (by decide)).symm), h.ne,
    h.ko.trans (KeepsOthers.setCell _ _ _), h.kb.setCell (p := ⟨lo + 1 + 1, 0, none⟩) (show lo ≤ lo + 1 + 1 by omega) u⟩
/-- Between two rounds. -/
def DuoAt (w : World) (lo L : Nat) (pre : List (SS.K × SS.V)) (W : World) : Prop := (∃ v1 v2, Duo lo L W W v1 v2 v1 v2 (pre.map Prod.fst) (pre.map Prod.snd)) ∧ Below lo w W
theorem duo_own (w : World) (lo L : Nat) (hlo : lo ≤ w.heap.size) : OwnFrom lo (DuoAt w lo L) := by
  refine OwnFrom.and ?_ (ownFrom_below hlo (Nat.le_refl _))
  rintro s A B row ⟨v1, v2, h⟩ hg hr
  have nb : ∀ k t u, Boxed A k t u → some k ≠ row := fun k t u hb e => by
    obtain ⟨_, o, ho, hc⟩ := hr k e.symm
    rw [show A.heap[k]? = _ from hb] at ho
    cases ho
    cases hc
  have nr : ∀ v n xs, A.ownsRow lo 9 1 v n xs → v.ownBlock = none ∨ v.ownBlock ≠ row := fun v n xs hw => by
    cases hv : v.ownBlock with
    | none => exact .inl rfl
    | some g =>
      refine .inr fun e => ?_
      obtain ⟨_, o, ho, hc⟩ := hr g e.symm
      rw [cells_of_row hw g o hv ho] at hc
      cases hc
  exact ⟨v1, v2, h.bL.kept hg (nb _ _ _ h.bL), h.b1.kept hg (nb _ _ _ h.b1), h.b2.kept hg (nb _ _ _ h.b2), h.r1.kept hg (nr _ _ _ h.r1), h.r2.kept hg (nr _ _ _ h.r2), h.ne, KeepsOthers.refl _, Below.refl _ _⟩
theorem duo_first {w W : World} {lo L : Nat} (bL : Boxed W lo 3 (.int .i64 (L : Nat))) (b1 : Boxed W (lo + 1) 118 (.slice none 0 0)) (b2 : Boxed W (lo + 1 + 1) 118 (.slice none 0 0)) (hb : Below lo w W) : DuoAt w lo L [] W :=
  ⟨⟨_, _, bL, b1, b2, World.ownsRow_nil _ _ _ _, World.ownsRow_nil _ _ _ _, fun g e => (by cases e), KeepsOthers.refl _, Below.refl _ _⟩, hb⟩
end
end Go.Proofs.Ytbcakennmnjlcaa
