/- shows of a map that is valid, beside the reference's. -/
import Derived.Test.YtbcakennmnjlcaaPairOf
import Derived.Test.YtbcakennmnjlcaaTie
namespace Go.Proofs.Ytbcakennmnjlcaa
open Go.RowKit Go.Shelf Go.Sort Go.Lib
attribute [local go_sem] Oper.semAt_some

/-- A map at P and the reference's at R, with the same items. -/
def Okk (B P R : Nat) (l : List (SS.K × SS.V)) (w : World) : Prop := (∃ v, SS.Own w B P v l) ∧ ∃ vK vV, RefOwn w B R vK vV (keysOf l) (valsOf l)
def Gives (w : World) (v : Value) (e : Ending) (w' : World) : Prop := e = .returned v ∧ Below w.heap.size w w'
theorem below_drewN {B : Nat} {a w : World} (h : Below B a w) (n : Nat) : Below B a (w.drewN n) := h.trans ⟨rfl, rfl, rfl, Nat.le_refl _, fun _ _ => rfl⟩
theorem own_below {w w' : World} {B P : Nat} {v : Value} {l : List (SS.K × SS.V)} (h : SS.Own w B P v l) (hb : Below w.heap.size w w') : SS.Own w' B P v l :=
  ⟨h.hP, (hb.block P (SS.lt_of_heap h.blk)).trans h.blk, SS.owns_below h.own hb, h.asc, h.len⟩
section
variable {B P R : Nat} {l : List (SS.K × SS.V)} {W : World}
theorem Okk.below {w' : World} (h : Okk B P R l W) (hb : Below W.heap.size W w') : Okk B P R l w' := by
  obtain ⟨⟨v, h1⟩, vK, vV, h2⟩ := h
  exact ⟨⟨v, own_below h1 hb⟩, vK, vV, h2.below hb⟩
theorem Okk.has (h : Okk B P R l W) : ∃ A c, SS.Has W (some ⟨P, 0, none⟩) A c l ∧ SS.Under W.heap.size A ∧ W.cell? ⟨P, 0, none⟩ = some (.pointer (some ⟨P, 0, none⟩)) ∧ W.cell? ⟨P, 1, none⟩ = some (.slice A l.length c) := by
  obtain ⟨⟨v, h1⟩, _⟩ := h
  obtain ⟨A, c, rfl, h2, h3⟩ := h1.has_under
  have hc : ∀ i, W.cell? ⟨P, i, none⟩ = (#[.pointer (some ⟨P, 0, none⟩), .slice A l.length c] : Array Value)[i]? := fun i => cell_of_row W P i _ _ (0, 0) h1.blk
  exact ⟨A, c, h2, h3, (hc 0).trans rfl, (hc 1).trans rfl⟩
theorem Okk.ref (h : Okk B P R l W) : ∃ A1 c1 A2 c2, RefAt W R A1 c1 A2 c2 (keysOf l) (valsOf l) := by
  obtain ⟨_, vK, vV, h2⟩ := h
  obtain ⟨A1, c1, A2, c2, _, _, _, _, h3⟩ := h2.at
  exact ⟨A1, c1, A2, c2, h3⟩
theorem Okk.asc (h : Okk B P R l W) : Asc SS.lt (keysOf l) := by
  obtain ⟨⟨v, h1⟩, _⟩ := h
  exact h1.asc
theorem Okk.len (h : Okk B P R l W) : l.length ≤ 1000000 := by
  obtain ⟨⟨v, h1⟩, _⟩ := h
  exact h1.len
theorem two_floor (B P R : Nat) (l : List (SS.K × SS.V)) (k : ByteArray) : ∃ (a b : ByteArray) (d : Bool), (∀ W, Okk B P R l W → Calls Try.prog 70 #[.pointer (some ⟨P, 0, none⟩), .string k] W (Gives W (.tuple #[.string a, .string b, .bool d]))) ∧
    (∀ W, Okk B P R l W → Calls Try.prog 71 #[.pointer (some ⟨R, 0, none⟩), .string k] W (Gives W (.tuple #[.string a, .string b, .bool d]))) := by
  obtain ⟨a, b, d, e⟩ := SS.ans_form ((l.take (rkL SS.lt (keysOf l) k)).getLast?)
  refine ⟨a, b, d, fun W h => ?_, fun W h => ?_⟩
  · obtain ⟨A, c, h1, _⟩ := h.has
    exact (SS.floor_any _ A c l k W h1).mono fun e' w' hh => ⟨by rw [hh.1, e], hh.2⟩
  · obtain ⟨A1, c1, A2, c2, h1⟩ := h.ref
    exact (rfloor_any R A1 c1 A2 c2 _ _ k W h1).mono fun e' w' hh => ⟨by rw [hh.1, at_tie, floor_tie h.asc, e], hh.2⟩
theorem two_ceil (B P R : Nat) (l : List (SS.K × SS.V)) (k : ByteArray) : ∃ (a b : ByteArray) (d : Bool), (∀ W, Okk B P R l W → Calls Try.prog 72 #[.pointer (some ⟨P, 0, none⟩), .string k] W (Gives W (.tuple #[.string a, .string b, .bool d]))) ∧
    (∀ W, Okk B P R l W → Calls Try.prog 73 #[.pointer (some ⟨R, 0, none⟩), .string k] W (Gives W (.tuple #[.string a, .string b, .bool d]))) := by
  obtain ⟨a, b, d, e⟩ := SS.ans_form ((l.drop (rkB SS.lt (keysOf l) k)).head?)
  refine ⟨a, b, d, fun W h => ?_, fun W h => ?_⟩
  · obtain ⟨A, c, h1, h2, _⟩ := h.has
    exact (SS.ceil_any _ A c l k W h1 h2).mono fun e' w' hh => ⟨by rw [hh.1, e], hh.2⟩
  · obtain ⟨A1, c1, A2, c2, h1⟩ := h.ref
    exact (rceil_any R A1 c1 A2 c2 _ _ k W h1).mono fun e' w' hh => ⟨by rw [hh.1, at_tie, ceil_tie, e], hh.2⟩
theorem two_min (B P R : Nat) (l : List (SS.K × SS.V)) : ∃ (a b : ByteArray) (d : Bool), (∀ W, Okk B P R l W → Calls Try.prog 74 #[.pointer (some ⟨P, 0, none⟩)] W (Gives W (.tuple #[.string a, .string b, .bool d]))) ∧
    (∀ W, Okk B P R l W → Calls Try.prog 75 #[.pointer (some ⟨R, 0, none⟩)] W (Gives W (.tuple #[.string a, .string b, .bool d]))) := by
  obtain ⟨a, b, d, e⟩ := SS.ans_form l.head?
  refine ⟨a, b, d, fun W h => ?_, fun W h => ?_⟩
  · obtain ⟨A, c, h1, h2, _⟩ := h.has
    exact (SS.min_any _ A c l W h1 h2).mono fun e' w' hh => ⟨by rw [hh.1, e], hh.2⟩
  · obtain ⟨A1, c1, A2, c2, h1⟩ := h.ref
    exact (rmin_any R A1 c1 A2 c2 _ _ W h1).mono fun e' w' hh => ⟨by rw [hh.1, at_tie, min_tie, e], hh.2⟩
theorem two_max (B P R : Nat) (l : List (SS.K × SS.V)) : ∃ (a b : ByteArray) (d : Bool), (∀ W, Okk B P R l W → Calls Try.prog 76 #[.pointer (some ⟨P, 0, none⟩)] W (Gives W (.tuple #[.string a, .string b, .bool d]))) ∧
    (∀ W, Okk B P R l W → Calls Try.prog 77 #[.pointer (some ⟨R, 0, none⟩)] W (Gives W (.tuple #[.string a, .string b, .bool d]))) := by
  obtain ⟨a, b, d, e⟩ := SS.ans_form l.getLast?
  refine ⟨a, b, d, fun W h => ?_, fun W h => ?_⟩
  · obtain ⟨A, c, h1, h2, _⟩ := h.has
    exact (SS.max_any _ A c l W h1).mono fun e' w' hh => ⟨by rw [hh.1, e], hh.2⟩
  · obtain ⟨A1, c1, A2, c2, h1⟩ := h.ref
    exact (rmax_any R A1 c1 A2 c2 _ _ W h1).mono fun e' w' hh => ⟨by rw [hh.1, at_tie, max_tie, e], hh.2⟩
theorem atV_form (l : List (SS.K × SS.V)) (i : Int) : ∃ (a b : ByteArray) (d : Int), SS.atV l i = .tuple #[.string a, .string b, .int .i64 d] := by
  unfold SS.atV
  split
  · exact ⟨_, _, _, rfl⟩
  · exact ⟨_, _, _, rfl⟩
theorem two_at (B P R : Nat) (l : List (SS.K × SS.V)) (i : Int) : ∃ (a b : ByteArray) (d : Int), (∀ W, Okk B P R l W → Calls Try.prog 21 #[.pointer (some ⟨P, 0, none⟩), .int .i64 i] W (Gives W (.tuple #[.string a, .string b, .int .i64 d]))) ∧
    (∀ W, Okk B P R l W → Calls Try.prog 78 #[.pointer (some ⟨R, 0, none⟩), .int .i64 i] W (Gives W (.tuple #[.string a, .string b, .int .i64 d]))) := by
  obtain ⟨a, b, d, e⟩ := atV_form l i
  refine ⟨a, b, d, fun W h => ?_, fun W h => ?_⟩
  · obtain ⟨A, c, h1, h2, h3, h4⟩ := h.has
    exact (SS.at_any P A c l i W h1 h3 h4).mono fun e' w' hh => ⟨by rw [hh.1, e], hh.2⟩
  · obtain ⟨A1, c1, A2, c2, h1⟩ := h.ref
    exact (rAt_any R A1 c1 A2 c2 _ _ i W h1).mono fun e' w' hh => ⟨by rw [hh.1, at_tieE, e], hh.2⟩
theorem two_get (B P R : Nat) (l : List (SS.K × SS.V)) (k : ByteArray) : ∃ (a : ByteArray) (d : Bool), (∀ W, Okk B P R l W → Calls Try.prog 79 #[.pointer (some ⟨P, 0, none⟩), .string k] W (Gives W (.tuple #[.string a, .bool d]))) ∧
    (∀ W, Okk B P R l W → Calls Try.prog 68 #[.pointer (some ⟨R, 0, none⟩), .string k] W (Gives W (.tuple #[.string a, .bool d]))) := by
  refine ⟨getL SS.lt l k SS.z0, hasB SS.lt (keysOf l) k, fun W h => ?_, fun W h => ?_⟩
  · obtain ⟨A, c, h1, _⟩ := h.has
    exact SS.get_any _ A c l k W h1
  · obtain ⟨A1, c1, A2, c2, h1⟩ := h.ref
    exact (rget_any R A1 c1 A2 c2 _ _ k W h1).mono fun e' w' hh => ⟨by rw [hh.1, get_tie, has_tie], hh.2⟩
theorem len_ok (h : Okk B P R l W) : Calls Try.prog 80 #[.pointer (some ⟨P, 0, none⟩)] W fun e w' => e = .returned (.int .i64 (l.length : Nat)) ∧ W = w' := by
  obtain ⟨A, c, h1, _⟩ := h.has
  exact SS.len_any _ A c l W h1
theorem rlen_ok (h : Okk B P R l W) : Calls Try.prog 81 #[.pointer (some ⟨R, 0, none⟩)] W fun e w' => e = .returned (.int .i64 (l.length : Nat)) ∧ W = w' := by
  obtain ⟨A1, c1, A2, c2, h1⟩ := h.ref
  have := rlen_any R A1 c1 A2 c2 _ _ W h1
  rwa [keys_len] at this
theorem rank_ok (h : Okk B P R l W) (k : ByteArray) : Calls Try.prog 82 #[.pointer (some ⟨P, 0, none⟩), .string k] W (Gives W (.int .i64 (rkB SS.lt (keysOf l) k : Nat))) := by
  obtain ⟨A, c, h1, _⟩ := h.has
  exact SS.rank_any _ A c l k W h1
theorem rrank_ok (h : Okk B P R l W) (k : ByteArray) : Calls Try.prog 20 #[.pointer (some ⟨R, 0, none⟩), .string k] W fun e w' => e = .returned (.int .i64 (rkB SS.lt (keysOf l) k : Nat)) ∧ W = w' := by
  obtain ⟨A1, c1, A2, c2, h1⟩ := h.ref
  exact rrank_any R A1 c1 A2 c2 _ _ k W h1
/-- pairs of All and of From. -/
theorem pairs_all (h : Okk B P R l W) (b : Nat) (hm : W.cell? ⟨b, 0, none⟩ = some (.pointer (some ⟨P, 0, none⟩))) :
    Calls Try.prog 83 #[.func (.func 142) #[] #[.pointer (some ⟨b, 0, none⟩)], .int .i64 ((l.length : Int) + 1)] W (FromRef W (keysOf l) (valsOf l)) := by
  obtain ⟨A, c, h1, h2, _⟩ := h.has
  have hl := h.len
  exact pairs_some _ _ W.heap.size (l.length + 1) l W W (Nat.le_refl _) (Below.refl _ _) (enters_of Try.func142 (by kernel_rfl) rfl) (by omega) (by omega) (fun n => SS.all_stops n W.heap.size b _ A c l W hm h1 h2 (Nat.le_refl _))
theorem pairs_from (h : Okk B P R l W) (b b' : Nat) (k : ByteArray) (hm : W.cell? ⟨b, 0, none⟩ = some (.pointer (some ⟨P, 0, none⟩))) (hk : W.cell? ⟨b', 0, none⟩ = some (.string k)) :
    Calls Try.prog 83 #[.func (.func 144) #[] #[.pointer (some ⟨b, 0, none⟩), .pointer (some ⟨b', 0, none⟩)], .int .i64 ((l.length : Int) + 1)] W (FromRef W (keysOf (l.drop (rkB SS.lt (keysOf l) k))) (valsOf (l.drop (rkB SS.lt (keysOf l) k)))) := by
  obtain ⟨A, c, h1, h2, _⟩ := h.has
  have hl := h.len
  have hd : (l.drop (rkB SS.lt (keysOf l) k)).length ≤ l.length := by simp
  exact pairs_some _ _ W.heap.size (l.length + 1) (l.drop (rkB SS.lt (keysOf l) k)) W W (Nat.le_refl _) (Below.refl _ _) (enters_of Try.func144 (by kernel_rfl) rfl) (by omega) (by omega) (fun n => SS.from_stops n W.heap.size b b' _ A c l k W hm hk h1 h2 (Nat.le_refl _))
theorem rfrom_ok (h : Okk B P R l W) (k : ByteArray) : Calls Try.prog 85 #[.pointer (some ⟨R, 0, none⟩), .string k] W (FromRef W (keysOf (l.drop (rkB SS.lt (keysOf l) k))) (valsOf (l.drop (rkB SS.lt (keysOf l) k)))) := by
  have hl := h.len
  obtain ⟨_, vK, vV, h2⟩ := h
  have := rfrom_any B R vK vV _ _ k W h2 (by rw [keys_len]; exact hl)
  rw [drop_keys, drop_vals]
  exact this
theorem rfrom_all (h : Okk B P R l W) : Calls Try.prog 85 #[.pointer (some ⟨R, 0, none⟩), .string ⟨#[]⟩] W (FromRef W (keysOf l) (valsOf l)) := by
  have := rfrom_ok h ⟨#[]⟩
  rw [← rk_tie, rk_empty, List.drop_zero] at this
  exact this
theorem equal_ok {A C : Option Addr} {n c d : Nat} {ks : List ByteArray} {w : World} (h1 : SN w A n ks) (h2 : SN w C n ks) (hb : n ≤ 9223372036854775807) : Calls Try.prog 86 #[.slice A n c, .slice C n d] w fun e w' => e = .returned (.bool true) ∧ Below w.heap.size w w' := by
  rcases Nat.eq_zero_or_pos n with rfl | hn
  · exact (Try.slices_Equal_string_empty A C c 0 d w (by decide)).mono fun e w' h => ⟨h.1, by rw [h.2]; exact Below.refl _ _⟩
  · obtain ⟨b1, o1, rfl, q1⟩ := h1.2 hn
    obtain ⟨b2, o2, rfl, q2⟩ := h2.2 hn
    have hl := h1.1
    refine (Try.slices_Equal_string b1 o1 n c b2 o2 n d ks ks w (by omega) (by omega) hb hb (fun j hj => q1 j (by omega)) (fun j hj => q2 j (by omega))).mono ?_
    rintro e w' ⟨rfl, q, rfl⟩
    exact ⟨by simp, below_drewN (Below.refl _ _) q⟩
end
/-- What pairs and the reference's From give, the number of items said once. -/
def FromN (w : World) (n : Nat) (ks vs : List ByteArray) (e : Ending) (w' : World) : Prop := ∃ A c B d, e = .returned (.tuple #[.slice A n c, .slice B n d]) ∧ SN w' A n ks ∧ SN w' B n vs ∧ Below w.heap.size w w'
theorem fromN_of {w : World} {n : Nat} {ks vs : List ByteArray} (hn : ks.length = n) (e : Ending) (w' : World) (h : FromRef w ks vs e w') : FromN w n ks vs e w' := by
  subst hn
  obtain ⟨A, c, B, d, h1, h2, h3, -, -, -, -, h4⟩ := h
  exact ⟨A, c, B, d, h1, h2, h3, h4⟩
section
variable {B P R : Nat} {l : List (SS.K × SS.V)} {W : World}
theorem len_n (h : Okk B P R l W) {n : Nat} (hn : l.length = n) : Calls Try.prog 80 #[.pointer (some ⟨P, 0, none⟩)] W fun e w' => e = .returned (.int .i64 (n : Nat)) ∧ W = w' := by subst hn; exact len_ok h
theorem rlen_n (h : Okk B P R l W) {n : Nat} (hn : l.length = n) : Calls Try.prog 81 #[.pointer (some ⟨R, 0, none⟩)] W fun e w' => e = .returned (.int .i64 (n : Nat)) ∧ W = w' := by subst hn; exact rlen_ok h
theorem pairs_all_n (h : Okk B P R l W) (b : Nat) {n : Nat} (hn : l.length = n) (hm : W.cell? ⟨b, 0, none⟩ = some (.pointer (some ⟨P, 0, none⟩))) :
    Calls Try.prog 83 #[.func (.func 142) #[] #[.pointer (some ⟨b, 0, none⟩)], .int .i64 ((n : Int) + 1)] W (FromN W n (keysOf l) (valsOf l)) := by
  subst hn
  exact (pairs_all h b hm).mono fun e w' => fromN_of (keys_len l) e w'
theorem pairs_from_n (h : Okk B P R l W) (b b' : Nat) (k : ByteArray) {n m : Nat} {ks vs : List ByteArray} (hn : l.length = n) (hk1 : keysOf (l.drop (rkB SS.lt (keysOf l) k)) = ks) (hv1 : valsOf (l.drop (rkB SS.lt (keysOf l) k)) = vs) (hm' : ks.length = m) (hm : W.cell? ⟨b, 0, none⟩ = some (.pointer (some ⟨P, 0, none⟩))) (hk : W.cell? ⟨b', 0, none⟩ = some (.string k)) :
    Calls Try.prog 83 #[.func (.func 144) #[] #[.pointer (some ⟨b, 0, none⟩), .pointer (some ⟨b', 0, none⟩)], .int .i64 ((n : Int) + 1)] W (FromN W m ks vs) := by
  subst hn hk1 hv1
  exact (pairs_from h b b' k hm hk).mono fun e w' => fromN_of hm' e w'
theorem rfrom_all_n (h : Okk B P R l W) {n : Nat} (hn : l.length = n) : Calls Try.prog 85 #[.pointer (some ⟨R, 0, none⟩), .string ⟨#[]⟩] W (FromN W n (keysOf l) (valsOf l)) := by
  subst hn
  exact (rfrom_all h).mono fun e w' => fromN_of (keys_len l) e w'
theorem rfrom_n (h : Okk B P R l W) (k : ByteArray) {m : Nat} {ks vs : List ByteArray} (hk1 : keysOf (l.drop (rkB SS.lt (keysOf l) k)) = ks) (hv1 : valsOf (l.drop (rkB SS.lt (keysOf l) k)) = vs) (hm' : ks.length = m) : Calls Try.prog 85 #[.pointer (some ⟨R, 0, none⟩), .string k] W (FromN W m ks vs) := by
  subst hk1 hv1
  exact (rfrom_ok h k).mono fun e w' => fromN_of hm' e w'
end
end Go.Proofs.Ytbcakennmnjlcaa
