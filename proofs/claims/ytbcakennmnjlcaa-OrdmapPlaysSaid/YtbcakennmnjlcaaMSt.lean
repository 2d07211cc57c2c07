/- Map and reference, and those from which they were copied. -/
import Derived.Test.YtbcakennmnjlcaaMNode
import Derived.Test.YtbcakennmnjlcaaShowsOk
import Derived.Test.YtbcakennmnjlcaaNil
namespace Go.Proofs.Ytbcakennmnjlcaa
open Go.RowKit
/-- nil both, or both living. -/
def Old (w0 w : World) (p q : Option Addr) (F : Nat → Prop) (n : Nat) : Prop := (p = none ∧ q = none ∧ F = fun _ => False) ∨ ∃ P R, p = some ⟨P, 0, none⟩ ∧ q = some ⟨R, 0, none⟩ ∧ Live w0 w P R F n
def St (w0 w : World) (P R : Nat) (p q : Option Addr) (n : Nat) : Prop := ∃ F G, Live w0 w P R F n ∧ Old w0 w p q G n ∧ Apart F G ∧ Below w0.heap.size w0 w
section
variable {w0 w V : World} {P R : Nat} {p q : Option Addr} {n : Nat}
theorem Old.lt {F : Nat → Prop} (h : Old w0 w p q F n) : ∀ b, F b → b < w.heap.size := by
  rcases h with ⟨_, _, rfl⟩ | ⟨P, R, _, _, h⟩
  · exact fun _ h => h.elim
  · exact h.lt
theorem Old.same {F : Nat → Prop} {w' : World} (h : Old w0 w p q F n) (hb : ∀ b, F b → w'.heap[b]? = w.heap[b]?) : Old w0 w' p q F n := by
  rcases h with h | ⟨P, R, rfl, rfl, h⟩
  · exact .inl h
  · exact .inr ⟨P, R, rfl, rfl, h.same hb⟩
theorem Old.below {F : Nat → Prop} {w' : World} (h : Old w0 w p q F n) (hb : Below w.heap.size w w') : Old w0 w' p q F n := h.same fun b hF => hb.block b (h.lt b hF)
theorem Old.more {F : Nat → Prop} {m : Nat} (h : Old w0 w p q F n) (hm : n ≤ m) : Old w0 w p q F m := by
  rcases h with h | ⟨P, R, rfl, rfl, h⟩
  · exact .inl h
  · exact .inr ⟨P, R, rfl, rfl, h.more hm⟩
theorem St.below {w' : World} (h : St w0 w P R p q n) (hb : Below w.heap.size w w') : St w0 w' P R p q n := by
  obtain ⟨F, G, h1, h2, h3, h4⟩ := h
  exact ⟨F, G, h1.below hb, h2.below hb, h3, h4.trans (hb.mono h4.size)⟩
theorem St.low (h : St w0 w P R p q n) : Below w0.heap.size w0 w := by
  obtain ⟨F, G, h1, h2, h3, h4⟩ := h
  exact h4
theorem St.shows (h : St w0 w P R p q n) (k : ByteArray) (i : Int) : Calls Try.prog 19 #[.pointer (some ⟨P, 0, none⟩), .pointer (some ⟨R, 0, none⟩), .string k, .int .i64 i] w fun e w' => e = .returned (.bool true) ∧ Below w.heap.size w w' := by
  obtain ⟨F, G, h1, h2, h3, h4⟩ := h
  obtain ⟨l, h5⟩ := h1.okk
  exact shows_ok _ P R l k i w h5
theorem St.shows2 (h : St w0 w P R p q n) (k : ByteArray) (i : Int) : Calls Try.prog 19 #[.pointer p, .pointer q, .string k, .int .i64 i] w fun e w' => e = .returned (.bool true) ∧ Below w.heap.size w w' := by
  obtain ⟨F, G, h1, h2, h3, h4⟩ := h
  rcases h2 with ⟨rfl, rfl, _⟩ | ⟨P, R, rfl, rfl, h⟩
  · exact shows_bad none k i w (.inl rfl)
  · obtain ⟨l, h5⟩ := h.okk
    exact shows_ok _ P R l k i w h5
theorem St.rank (h : St w0 w P R p q n) (k : ByteArray) : ∃ r : Int, Calls Try.prog 20 #[.pointer (some ⟨R, 0, none⟩), .string k] w fun e w' => e = .returned (.int .i64 r) ∧ w = w' := by
  obtain ⟨F, G, h1, h2, h3, h4⟩ := h
  obtain ⟨l, h5⟩ := h1.okk
  exact ⟨_, rrank_ok h5 k⟩
theorem st_start {w1 : World} (h : Fresh w0 w0 P R 0 w1) : St w0 w1 P R none none 0 := by
  obtain ⟨F, h1, h2, h3⟩ := h
  exact ⟨F, _, h1, .inl ⟨rfl, rfl, rfl⟩, fun _ _ h => h, h2⟩
theorem st_next {w' : World} {F G : Nat → Prop} (h1 : Live w0 w P R F n) (h2 : Old w0 w p q G n) (h3 : Apart F G) (h4 : Below w0.heap.size w0 w) (hN : After w0 w P R F (n + 1) w') : St w0 w' P R p q (n + 1) := by
  obtain ⟨F', k1, k2⟩ := hN
  exact ⟨F', G, k1, (h2.same (k2.same h3 h2.lt)).more (Nat.le_succ _), k2.apart h3 h2.lt, h4.trans (k2.below h4.size h1.le)⟩
theorem st_copy {w' : World} {P' R' : Nat} (h : St w0 w P R p q n) (hN : Fresh w0 w P' R' (n + 1) w') : St w0 w' P' R' (some ⟨P, 0, none⟩) (some ⟨R, 0, none⟩) (n + 1) := by
  obtain ⟨F, G, h1, h2, h3, h4⟩ := h
  obtain ⟨F', k1, k2, k3⟩ := hN
  refine ⟨F', F, k1, .inr ⟨P, R, rfl, rfl, (h1.below k2).more (Nat.le_succ _)⟩, fun b ha hb => ?_, h4.trans (k2.mono h4.size)⟩
  have := k3 b ha
  have := h1.lt b hb
  omega
/-- What is no map's own keeps. -/
theorem live_keep {F : Nat → Prop} {w' : World} (hb : But F w w') {z : Nat} {o : Obj} (hz : w.heap[z]? = some o) (hF : ¬ F z) : w'.heap[z]? = some o := (hb.block z (SS.lt_of_heap hz) hF).trans hz
theorem st_set {z : Nat} {o : Obj} (h : St w0 w P R p q n) (hn : n ≤ 1000) (hV : Below w.heap.size w V) (hz : V.heap[z]? = some o) (hzw : w.heap.size ≤ z) (k x : ByteArray) : ∃ (a : ByteArray) (b : Bool) (Mid : World → Prop), (Calls Try.prog 13 #[.pointer (some ⟨P, 0, none⟩), .string k, .string x] V fun e w1 => e = .returned (.tuple #[.string a, .bool b, .int .i64 0]) ∧ Hid (Mid w1 ∧ w1.heap[z]? = some o)) ∧
    ∀ w1, Mid w1 → Calls Try.prog 14 #[.pointer (some ⟨R, 0, none⟩), .string k, .string x] w1 fun e w2 => e = .returned (.tuple #[.string a, .bool b, .int .i64 0]) ∧ Hid (St w0 w2 P R p q (n + 1) ∧ w2.heap[z]? = some o) := by
  obtain ⟨F, G, h1, h2, h3, h4⟩ := h
  obtain ⟨a, b, Mid, k1, k2⟩ := live_set (h1.below hV) hn k x
  have hz' : ¬ F z := fun hb => by have := h1.lt z hb; omega
  refine ⟨a, b, Mid, k1.mono fun e w1 hw => ⟨hw.1, hw.2.out.1, live_keep hw.2.out.2 hz hz'⟩, fun w1 hm => (k2 w1 hm).mono fun e w2 hw => ⟨hw.1, st_next (h1.below hV) (h2.below hV) h3 (h4.trans (hV.mono h4.size)) hw.2.out, ?_⟩⟩
  obtain ⟨F', _, hT⟩ := hw.2.out
  exact live_keep hT.but hz hz'
theorem st_del {z : Nat} {o : Obj} (h : St w0 w P R p q n) (hn : n ≤ 1000) (hV : Below w.heap.size w V) (hz : V.heap[z]? = some o) (hzw : w.heap.size ≤ z) (k : ByteArray) : ∃ (a : ByteArray) (b : Bool) (Mid : World → Prop), (Calls Try.prog 15 #[.pointer (some ⟨P, 0, none⟩), .string k] V fun e w1 => e = .returned (.tuple #[.string a, .bool b]) ∧ Hid (Mid w1 ∧ w1.heap[z]? = some o)) ∧
    ∀ w1, Mid w1 → Calls Try.prog 16 #[.pointer (some ⟨R, 0, none⟩), .string k] w1 fun e w2 => e = .returned (.tuple #[.string a, .bool b]) ∧ Hid (St w0 w2 P R p q (n + 1) ∧ w2.heap[z]? = some o) := by
  obtain ⟨F, G, h1, h2, h3, h4⟩ := h
  obtain ⟨a, b, Mid, k1, k2⟩ := live_del (h1.below hV) hn k
  have hz' : ¬ F z := fun hb => by have := h1.lt z hb; omega
  refine ⟨a, b, Mid, k1.mono fun e w1 hw => ⟨hw.1, hw.2.out.1, live_keep hw.2.out.2 hz hz'⟩, fun w1 hm => (k2 w1 hm).mono fun e w2 hw => ⟨hw.1, st_next (h1.below hV) (h2.below hV) h3 (h4.trans (hV.mono h4.size)) hw.2.out, ?_⟩⟩
  obtain ⟨F', _, hT⟩ := hw.2.out
  exact live_keep hT.but hz hz'
theorem st_copied {z : Nat} {o : Obj} (h : St w0 w P R p q n) (hn : n ≤ 1000) (hz : w.heap[z]? = some o) : ∃ (P' : Nat) (Mid : World → Prop), (Calls Try.prog 17 #[.pointer (some ⟨P, 0, none⟩)] w fun e w1 => e = .returned (.pointer (some ⟨P', 0, none⟩)) ∧ Hid (Mid w1)) ∧
    ∀ w1, Mid w1 → Calls Try.prog 18 #[.pointer (some ⟨R, 0, none⟩)] w1 fun e w2 => ∃ R', e = .returned (.pointer (some ⟨R', 0, none⟩)) ∧ Hid (St w0 w2 P' R' (some ⟨P, 0, none⟩) (some ⟨R, 0, none⟩) (n + 1) ∧ w2.heap[z]? = some o) := by
  obtain ⟨F, G, h1, h2, h3, h4⟩ := id h
  obtain ⟨P', Mid, k1, k2⟩ := live_copy h1 h4.size hn
  refine ⟨P', Mid, k1, fun w1 hm => (k2 w1 hm).mono fun e w2 hw => ?_⟩
  obtain ⟨R', he, hf⟩ := hw
  refine ⟨R', he, st_copy h hf.out, ?_⟩
  obtain ⟨F', _, hb, _⟩ := hf.out
  exact (hb.block z (SS.lt_of_heap hz)).trans hz
end
end Go.Proofs.Ytbcakennmnjlcaa
