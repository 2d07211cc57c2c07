/- The reference's Set. -/
import Derived.Test.YtbcakennmnjlcaaRefFrom
import Derived.Test.YtbcakennmnjlcaaBut
namespace Go.Proofs.Ytbcakennmnjlcaa
open Go.RowKit

/-- One string of an own row is written. -/
theorem owns_set {w : World} {B g n c : Nat} {l : List ByteArray} (h : w.ownsRow B 9 1 (.slice (some ⟨g, 0, none⟩) n c) n (sv l)) {i : Nat} (_hi : i < n) (x : ByteArray) :
    (w.setCell ⟨g, i, none⟩ (.string x)).ownsRow B 9 1 (.slice (some ⟨g, 0, none⟩) n c) n (sv (l.set i x)) := by
  have hl : l.length = n := by have := h.1; rw [length_sv] at this; omega
  refine ⟨by rw [length_sv, List.length_set, hl, Nat.mul_one], ?_⟩
  rcases h.2 with ⟨h0, _⟩ | ⟨g', cap, cur, hv, hg, hh, h1, h2, h3, h4⟩
  · cases h0
  · injection hv with e1 _ e3
    injection e1 with e1
    injection e1 with e1
    subst e1 e3
    refine Or.inr ⟨g, c, cur.setIfInBounds i (.string x), rfl, hg, heap_setCell_same w g i cur _ _ hh, h1, h2, by simpa using h3, ?_⟩
    rw [Array.toList_setIfInBounds, List.take_set, h4]
    unfold sv
    rw [List.map_set]

def setK (ks : List ByteArray) (k : ByteArray) : List ByteArray := if hasK ks k then ks else ks.take (rk ks k) ++ [k] ++ ks.drop (rk ks k)
def setV (ks vs : List ByteArray) (k v : ByteArray) : List ByteArray := if hasK ks k then vs.set (rk ks k) v else vs.take (rk ks k) ++ [v] ++ vs.drop (rk ks k)
/-- What Set leaves. -/
def SetRef (w : World) (B P : Nat) (vK vV : Value) (ks vs : List ByteArray) (k v : ByteArray) (e : Ending) (w' : World) : Prop :=
  ∃ vK' vV', e = .returned (.tuple #[.string (getV ks vs k), .bool (hasK ks k), .int .i64 0]) ∧ RefOwn w' B P vK' vV' (setK ks k) (setV ks vs k v) ∧ But (fun b => b = P ∨ vV.ownBlock = some b) w w' ∧
    (∀ g, vK'.ownBlock = some g → vK.ownBlock = some g ∨ w.heap.size ≤ g) ∧ (∀ g, vV'.ownBlock = some g → vV.ownBlock = some g ∨ w.heap.size ≤ g)
set_option maxHeartbeats 400000 in
theorem rset_nil (k v : ByteArray) (w : World) : Calls Try.prog 14 #[.pointer none, .string k, .string v] w fun e w' => e = .returned (.tuple #[.string ⟨#[]⟩, .bool false, .int .i64 1]) ∧ w = w' := by
  go_enter Try.func14, Try.ntmps14
  go_wp2_with (go_at_call 65; refine (rvalid_nil _).mono ?_; rintro e w' ⟨rfl, rfl⟩)
  go_ret3
  exact ⟨rfl, rfl⟩
theorem ref_ne {w : World} {B P : Nat} {vK vV : Value} {ks vs : List ByteArray} (h : RefOwn w B P vK vV ks vs) : vK.ownBlock ≠ some P ∧ vV.ownBlock ≠ some P := by
  have key : ∀ {v : Value} {xs : List Value} {n : Nat}, w.ownsRow B 9 1 v n xs → v.ownBlock ≠ some P := by
    intro v xs n hv he
    rcases hv.2 with ⟨h0, _⟩ | ⟨g, cap, cur, hv', _, hh, _⟩
    · rw [h0] at he; cases he
    · rw [hv'] at he
      obtain rfl : g = P := by simpa [Value.ownBlock] using he
      rw [h.blk] at hh
      injection hh with hh
      injection hh with _ hT _
      exact absurd hT (by decide)
  exact ⟨key h.oK, key h.oV⟩
theorem set_ends {w : World} {B P g c2 : Nat} {vK : Value} {ks vs : List ByteArray} {k v : ByteArray} (h : RefOwn w B P vK (.slice (some ⟨g, 0, none⟩) ks.length c2) ks vs) (hh : hasK ks k = true) (hlt : rk ks k < ks.length) :
    SetRef w B P vK (.slice (some ⟨g, 0, none⟩) ks.length c2) ks vs k v (.returned (.tuple #[.string (vs.getD (rk ks k) ⟨#[]⟩), .bool true, .int .i64 0])) (w.setCell ⟨g, rk ks k, none⟩ (.string v)) := by
  have hne := (ref_ne h).2
  refine ⟨vK, .slice (some ⟨g, 0, none⟩) ks.length c2, ?_, ?_, ?_, fun _ h => Or.inl h, fun _ h => Or.inl h⟩
  · rw [hh]; unfold getV; rw [hh]; rfl
  · unfold setK setV
    rw [hh]
    refine ⟨h.hP, (Below.heap_setCell w _ _ P (fun e => hne (by show some g = some P; rw [e]))).trans h.blk, owns_of_block h.oK fun g' hg' => Below.heap_setCell w _ _ g' (fun e => h.ne g' hg' (by show some g = some g'; rw [e])), owns_set h.oV hlt v, h.ne⟩
  · exact (But.of_below (Below.refl _ _)).setCell (Or.inl (Or.inr rfl)) _

set_option maxHeartbeats 2000000 in
theorem rset_has (B P : Nat) (vK vV : Value) (ks vs : List ByteArray) (k v : ByteArray) (w : World) (h : RefOwn w B P vK vV ks vs) (hh : hasK ks k = true) :
    Calls Try.prog 14 #[.pointer (some ⟨P, 0, none⟩), .string k, .string v] w (SetRef w B P vK vV ks vs k v) := by
  obtain ⟨A1, c1, A2, c2, rfl, rfl, n1, n2, hRA⟩ := h.at
  have gRA := Lib.hid hRA
  have gh := Lib.hid h
  obtain ⟨hm, hK, hV, rK, rV, hc1, hc2⟩ := hRA
  have hlt := hasK_lt hh
  have hh2 := Lib.hid hh
  obtain ⟨g, c, hv⟩ : ∃ g c, (Value.slice A2 ks.length c2) = .slice (some ⟨g, 0, none⟩) ks.length c := by
    rcases h.oV.2 with ⟨_, h0⟩ | ⟨g, c, _, hv, _⟩
    · omega
    · exact ⟨g, c, hv⟩
  injection hv with e1 _ e3
  subst e1 e3
  obtain ⟨b', o', e, hcell⟩ := rV.2 (by omega)
  obtain ⟨rfl, rfl⟩ : g = b' ∧ 0 = o' := by simpa using e
  have d2 := hcell _ hlt
  rw [Nat.zero_add] at d2
  have df := h.oV.frozenAt (rk ks k)
  obtain ⟨y, hy⟩ : ∃ x, x = vs.getD (rk ks k) ⟨#[]⟩ := ⟨_, rfl⟩
  have gy := Lib.hid hy
  rw [← hy] at d2
  obtain ⟨n, hn⟩ : ∃ n, n = ks.length := ⟨_, rfl⟩
  have gn := Lib.hid hn
  rw [← hn] at hV hK hc1 hc2 hlt
  obtain ⟨r, hr⟩ : ∃ r, r = rk ks k := ⟨_, rfl⟩
  have gr := Lib.hid hr
  rw [← hr] at hlt d2 df
  clear rK rV n1 n2 h hcell e hh hy hn hr
  go_enter Try.func14, Try.ntmps14
  go_wp2_with (first | (go_at_call 65; refine (rvalid_any P _ hm).mono ?_; rintro e w' ⟨rfl, rfl⟩) | (go_at_call 20; refine (rrank_any P _ c1 _ c2 ks vs k _ gRA.out).mono ?_; rintro e w' ⟨rfl, rfl⟩; rw [← gr.out]) | (go_at_call 66; refine (rhas_any P _ c1 _ c2 ks vs k _ gRA.out).mono ?_; rintro e w' ⟨rfl, rfl⟩; rw [hh2.out]))
  go_ret3
  obtain rfl := gn.out
  obtain rfl := gr.out
  obtain rfl := gy.out
  exact set_ends gh.out hh2.out hlt

theorem SN.but {F : Nat → Prop} {w w' : World} {A : Option Addr} {n : Nat} {l : List ByteArray} (h : SN w A n l) (hb : But F w w') (hF : ∀ b o, A = some ⟨b, o, none⟩ → ¬ F b) : SN w' A n l := by
  refine ⟨h.1, fun hn => ?_⟩
  obtain ⟨b, o, rfl, hc⟩ := h.2 hn
  exact ⟨b, o, rfl, fun i hi => hb.cell (lt_of_cell (hc i hi)) (hF b o rfl) (hc i hi)⟩
theorem own_nil {w : World} {B e n : Nat} {v : Value} {xs : List Value} (h : w.ownsRow B e 1 v n xs) (hv : v.ownBlock = none) : v = .slice none 0 0 := by
  rcases h.2 with ⟨h0, _⟩ | ⟨g, cap, cur, hv', _⟩
  · exact h0
  · rw [hv'] at hv; cases hv
theorem apart_of {w : World} {B e n : Nat} {vA vB : Value} {xs : List Value} (hne : ∀ g, vA.ownBlock = some g → vB.ownBlock ≠ some g) (h : w.ownsRow B e 1 vB n xs) : vB.ownBlock ≠ vA.ownBlock ∨ vB = .slice none 0 0 := by
  cases hb : vB.ownBlock with
  | none => exact Or.inr (own_nil h hb)
  | some g => exact Or.inl fun e => hne g e.symm hb
theorem lit_sn (w : World) (k : ByteArray) : SN (w.alloc (.cells #[.string k] 9)).drew (some ⟨w.heap.size, 0, none⟩) 1 [k] := by
  refine ⟨rfl, fun _ => ⟨w.heap.size, 0, rfl, fun i hi => ?_⟩⟩
  obtain rfl : i = 0 := by omega
  exact cell_of_row _ _ 0 _ _ (0, 0) (heap_alloc_new w _)
theorem owns_le {w : World} {B B' e n : Nat} {v : Value} {xs : List Value} (h : w.ownsRow B e 1 v n xs) (hb : B' ≤ B) : w.ownsRow B' e 1 v n xs :=
  ⟨h.1, h.2.elim Or.inl fun ⟨g, cap, cur, hv, hg, r⟩ => Or.inr ⟨g, cap, cur, hv, Nat.le_trans hb hg, r⟩⟩
theorem take_none {A : Option Addr} {n c r : Nat} (hr : r ≤ n) (h : A = none → n = 0 ∧ c = 0) : A = none → r = 0 ∧ c = 0 := fun e => by have := h e; omega

theorem owns_but {w w' : World} {B e n : Nat} {v : Value} {xs : List Value} (h : w.ownsRow B e 1 v n xs) (hw : ∀ g, v.ownBlock = some g → w'.heap[g]? = w.heap[g]?) : w'.ownsRow B e 1 v n xs := owns_of_block h hw
/-- What Set leaves behind a new key. -/
theorem set_new_ends {w w7 : World} {B P n r : Nat} {vK vV v4 v6 : Value} {A2 : Option Addr} {c2 : Nat} {ks vs : List ByteArray} {k v : ByteArray} (gh : RefOwn w B P vK vV ks vs) (hh : hasK ks k = false) (hn : n = ks.length) (hr : r = rk ks k) (hrn : r ≤ n) (hPlt : P < w.heap.size)
    (hb : w7.heap[P]? = some (.cells #[.bool true, v4, .slice A2 n c2] 120 (0, 0)))
    (oK : w7.ownsRow w.heap.size 9 1 v4 (r + 1 + (n - r)) (sv (ks.take r) ++ sv [k] ++ sv (ks.drop r))) (oV : w7.ownsRow w.heap.size 9 1 v6 (r + 1 + (n - r)) (sv (vs.take r) ++ sv [v] ++ sv (vs.drop r)))
    (hne : ∀ g, v4.ownBlock = some g → v6.ownBlock ≠ some g) (ht : But (fun b => b = P) w w7) (x : ByteArray) (hx : x = ⟨#[]⟩) :
    SetRef w B P vK vV ks vs k v (.returned (.tuple #[.string x, .bool false, .int .i64 0])) (w7.setCell ⟨P, 2, none⟩ v6) := by
  have nP : ∀ {u : Value} {xs : List Value} {m : Nat}, w7.ownsRow w.heap.size 9 1 u m xs → ∀ g, u.ownBlock = some g → (w7.setCell ⟨P, 2, none⟩ v6).heap[g]? = w7.heap[g]? := fun h g hg => Below.heap_setCell w7 _ _ g (by have := (owns_lt h hg).1; show g ≠ P; omega)
  refine ⟨v4, v6, ?_, ⟨gh.hP, ?_, ?_, ?_, hne⟩, ?_, fun g hg => Or.inr (owns_lt oK hg).1, fun g hg => Or.inr (owns_lt oV hg).1⟩
  · rw [hh, hx]; unfold getV; rw [hh]; rfl
  · rw [heap_setCell_same w7 P 2 _ _ v6 hb]; rfl
  · have e1 : setK ks k = ks.take r ++ [k] ++ ks.drop r := by unfold setK; rw [hh, ← hr]; rfl
    have e2 : (ks.take r ++ [k] ++ ks.drop r).length = r + 1 + (n - r) := by simp [← hn]; omega
    rw [e1, e2, sv_append, sv_append]
    exact owns_le (owns_of_block oK (nP oK)) (by have := gh.hP; omega)
  · have e1 : setK ks k = ks.take r ++ [k] ++ ks.drop r := by unfold setK; rw [hh, ← hr]; rfl
    have e2 : (ks.take r ++ [k] ++ ks.drop r).length = r + 1 + (n - r) := by simp [← hn]; omega
    have e3 : setV ks vs k v = vs.take r ++ [v] ++ vs.drop r := by unfold setV; rw [hh, ← hr]; rfl
    rw [e1, e2, e3, sv_append, sv_append]
    exact owns_le (owns_of_block oV (nP oV)) (by have := gh.hP; omega)
  · exact (ht.mono fun b _ h => Or.inl h).setCell (Or.inl (Or.inl rfl)) _

theorem dropA_apart {A : Option Addr} {r c P : Nat} (h : ∀ a, A = some a → a.block ≠ P) : ∀ b o, (if c = r then A else Option.map (fun x => x.add r) A) = some ⟨b, o, none⟩ → ¬ b = P := by
  intro b o e
  split at e
  · exact h _ e
  · cases A with
    | none => cases e
    | some a =>
      have e' : a.add r = ⟨b, o, none⟩ := by simpa using e
      have hb : (a.add r).block = a.block := by unfold Addr.add; split <;> rfl
      rw [e'] at hb
      exact fun e2 => h a rfl (by rw [← hb]; exact e2)
/-- The world behind Set's first store. -/
theorem set_mid {w w4 w5 : World} {B P n r m c2 c4 c6 : Nat} {A1 A2 A4 A6 : Option Addr} {c1 : Nat} {ks vs : List ByteArray} {xs ys : List Value} (gh : RefOwn w B P (.slice A1 n c1) (.slice A2 n c2) ks vs) (hlt : P < w.heap.size)
    (bD : Below w.heap.size w w4) (o9 : w4.ownsRow w.heap.size 9 1 (.slice A6 m c6) m xs) (o8 : w4.ownsRow w.heap.size 9 1 (.slice A4 r c4) r ys) (e : w5 = w4.setCell ⟨P, 1, none⟩ (.slice A6 m c6)) :
    w5.heap[P]? = some (.cells #[.bool true, .slice A6 m c6, .slice A2 n c2] 120 (0, 0)) ∧ But (fun b => b = P) w w5 ∧ w5.ownsRow w.heap.size 9 1 (.slice A6 m c6) m xs ∧ w5.ownsRow w.heap.size 9 1 (.slice A4 r c4) r ys := by
  have f4 := (bD.block P hlt).trans gh.blk
  have nP : ∀ {u : Value} {zs : List Value} {q : Nat}, w4.ownsRow w.heap.size 9 1 u q zs → ∀ g, u.ownBlock = some g → (w4.setCell ⟨P, 1, none⟩ (.slice A6 m c6)).heap[g]? = w4.heap[g]? := fun h g hg => Below.heap_setCell w4 _ _ g (by have := (owns_lt h hg).1; show g ≠ P; omega)
  subst e
  refine ⟨?_, ?_, owns_of_block o9 (nP o9), owns_of_block o8 (nP o8)⟩
  · rw [heap_setCell_same w4 P 1 _ _ _ f4]; rfl
  · exact (But.of_below bD).setCell (F := fun b => b = P) (p := ⟨P, 1, none⟩) (Or.inl rfl) _
set_option maxHeartbeats 4000000 in
theorem rset_new (B P : Nat) (vK vV : Value) (ks vs : List ByteArray) (k v : ByteArray) (w : World) (h : RefOwn w B P vK vV ks vs) (hlen : ks.length ≤ 1000000) (hh : hasK ks k = false) :
    Calls Try.prog 14 #[.pointer (some ⟨P, 0, none⟩), .string k, .string v] w (SetRef w B P vK vV ks vs k v) := by
  obtain ⟨A1, c1, A2, c2, rfl, rfl, n1, n2, hRA⟩ := h.at
  have gRA := Lib.hid hRA
  have gh := Lib.hid h
  obtain ⟨hm, hK, hV, rK, rV, hc1, hc2⟩ := hRA
  have gK := Lib.hid rK
  have gV := Lib.hid rV
  have g1 := Lib.hid n1
  have g2 := Lib.hid n2
  have hrk := rk_le ks k
  have hh2 := Lib.hid hh
  clear rK rV n1 n2 h hh
  obtain ⟨n, hn⟩ : ∃ n, n = ks.length := ⟨_, rfl⟩
  have gn := Lib.hid hn
  rw [← hn] at hV hK hc1 hc2 hrk gK gV g1 g2 hlen
  obtain ⟨r, hr⟩ : ∃ r, r = rk ks k := ⟨_, rfl⟩
  have gr := Lib.hid hr
  rw [← hr] at hrk
  clear hn hr
  have i0 : (0 : Int) ≤ (r : Int) := by omega
  have i1 : (r : Int) ≤ (n : Int) := by omega
  have i2 : (r : Int) ≤ (c1 : Int) := by omega
  have i3 : (r : Int) ≤ (c2 : Int) := by omega
  have i4 : (n : Int) ≤ (c1 : Int) := by omega
  have i5 : (n : Int) ≤ (c2 : Int) := by omega
  have e1 := Lib.hid (empty_owns w (Nat.le_refl _))
  have b1 := Lib.hid (below_alloc w (.cells #[] 9))
  have ka := (b1.out.cell (lt_of_cell hK)).trans hK
  have sK := Lib.hid (gK.out.dropA hrk hc1.1 g1.out)
  have sV := Lib.hid (gV.out.dropA hrk hc2.1 g2.out)
  have d1 := Lib.hid (dropA_none (r := r) g1.out)
  have d2 := Lib.hid (dropA_none (r := r) g2.out)
  go_enter Try.func14, Try.ntmps14
  go_wp2_with (first
    | (go_at_call 65; refine (rvalid_any P _ hm).mono ?_; rintro e w' ⟨rfl, rfl⟩)
    | (go_at_call 20; refine (rrank_any P A1 c1 A2 c2 ks vs k _ gRA.out).mono ?_; rintro e w' ⟨rfl, rfl⟩; rw [← gr.out])
    | (go_at_call 66; refine (rhas_any P A1 c1 A2 c2 ks vs k _ gRA.out).mono ?_; rintro e w' ⟨rfl, rfl⟩; rw [hh2.out])
    | (at_builtin
       refine list_app _ rfl (.tmp 37) (.tmp 43) rfl w.heap.size _ 0 [] ?hs e1.out A1 r c1 (ks.take r) rfl ((gK.out.take hrk).below b1.out) (take_none hrk g1.out) (by omega) (by simp) ?_
       case hs => rfl
       intro v1 w1 hown1 hg1 hat1
       rw [Nat.zero_add, List.nil_append] at hown1
       have bA := Lib.hid (b1.out.grown hg1 (by simp) (by simp [Value.ownBlock]))
       have o1 := Lib.hid (owns_below hown1 (below_alloc w1 (.cells #[] 9)))
       have hdis := Lib.hid (show v1.ownBlock ≠ some w1.heap.size from fun h => by have := (owns_lt hown1 h).2; omega)
       have e2 := Lib.hid (empty_owns w1 (B := w.heap.size) bA.out.size)
       have b2 := Lib.hid (bA.out.alloc bA.out.size (.cells #[] 9))
       have kb := (b2.out.cell (lt_of_cell hV)).trans hV
       obtain ⟨A3, c3, rfl, _, _, _, _⟩ := owns_sn (l := ks.take r) (show w1.ownsRow w.heap.size 9 1 v1 r (sv (ks.take r)) from hown1)
       clear hown1 hg1 hat1)
    | (at_builtin
       refine list_app _ rfl (.tmp 45) (.tmp 51) rfl w.heap.size _ 0 [] ?hs e2.out A2 r c2 (vs.take r) rfl ((gV.out.take hrk).below b2.out) (take_none hrk g2.out) (by omega) b2.out.size ?_
       case hs => rfl
       intro v2 w2 hown2 hg2 hat2
       rw [Nat.zero_add, List.nil_append] at hown2
       have bB := Lib.hid (b2.out.grown hg2 b2.out.size (fun k hk => (owns_lt e2.out hk).1))
       have k3 := (bB.out.cell (lt_of_cell hK)).trans hK
       have k4 := (bB.out.cell (lt_of_cell hV)).trans hV
       have o2 := Lib.hid (owns_grown o1.out hg2 (Or.inl hdis.out))
       have hne := Lib.hid (show ∀ g, (Value.slice A3 r c3).ownBlock = some g → v2.ownBlock ≠ some g from fun g h1 h2 => by
         rcases hat2 with h | h
         · rw [h2] at h
           exact hdis.out (h1.trans h)
         · rw [h2] at h
           have := (owns_lt o1.out h1).2
           have h' := Option.some.inj h
           omega)
       have o3 := Lib.hid hown2
       obtain ⟨A4, c4, rfl, _, _, _, _⟩ := owns_sn (l := vs.take r) (show w2.ownsRow w.heap.size 9 1 v2 r (sv (vs.take r)) from hown2)
       clear hown2 hg2 hat2))
  have kc := (bB.out.cell (lt_of_cell hK)).trans hK
  have cP := (bB.out.block P (lt_of_cell hK)).trans gh.out.blk
  have o4 := Lib.hid (owns_drew (owns_below o2.out (below_alloc w2 (.cells #[.string k] 9))))
  have o5 := Lib.hid (owns_drew (owns_below o3.out (below_alloc w2 (.cells #[.string k] 9))))
  have b3 := Lib.hid ((bB.out.alloc bB.out.size (.cells #[.string k] 9)).drew)
  have hap := Lib.hid (apart_of hne.out o5.out)
  have gcP := Lib.hid cP
  clear cP
  have kd := (b3.out.cell (lt_of_cell hK)).trans hK
  go_region_law
    (first
    | (refine step_app _ rfl (.tmp 54) (.tmp 56) rfl w.heap.size _ r (sv (ks.take r)) ?hs o4.out _ 1 1 [k] rfl (lit_sn w2 k) (fun h => by cases h) (by omega) b3.out.size ?_
       case hs => rfl
       intro v3 w3 hown3 hg3 hat3
       have bC := Lib.hid (b3.out.grown hg3 b3.out.size (fun k hk => (owns_lt o4.out hk).1))
       have k5 := (bC.out.cell (lt_of_cell hK)).trans hK
       have o6 := Lib.hid (owns_grown o5.out hg3 hap.out)
       have hne3 := Lib.hid (show ∀ g, v3.ownBlock = some g → (Value.slice A4 r c4).ownBlock ≠ some g from fun g h1 h2 => by
         rcases hat3 with h | h
         · rw [h1] at h; exact hne.out g h.symm h2
         · rw [h1] at h
           have := (owns_lt o5.out h2).2
           have h' := Option.some.inj h
           omega)
       have o7 := Lib.hid hown3
       obtain ⟨A5, c5, rfl, _, _, _, _⟩ := owns_sn (l := ks.take r ++ [k]) (show w3.ownsRow w.heap.size 9 1 v3 (r + 1) (sv (ks.take r ++ [k])) from by rw [sv_append]; exact hown3)
       clear hown3 hg3 hat3)
    | (refine step_app _ rfl (.tmp 57) (.tmp 63) rfl w.heap.size _ (r + 1) (sv (ks.take r) ++ sv [k]) ?hs o7.out _ (n - r) (c1 - r) (ks.drop r) rfl (sK.out.below bC.out) d1.out (by omega) bC.out.size ?_
       case hs => rfl
       intro v4 w4 hown4 hg4 hat4
       have bD := Lib.hid (bC.out.grown hg4 bC.out.size (fun k hk => (owns_lt o7.out hk).1))
       have k6 := (bD.out.cell (lt_of_cell hK)).trans hK
       have kf := (bD.out.frozen (p := ⟨P, 1, none⟩) (lt_of_cell hK)).trans (frozen_of_row w P 1 _ _ gh.out.blk)
       have o8 := Lib.hid (owns_grown o6.out hg4 (apart_of hne3.out o6.out))
       have hne4 := Lib.hid (show ∀ g, v4.ownBlock = some g → (Value.slice A4 r c4).ownBlock ≠ some g from fun g h1 h2 => by
         rcases hat4 with h | h
         · rw [h1] at h; exact hne3.out g h.symm h2
         · rw [h1] at h
           have := (owns_lt o6.out h2).2
           have h' := Option.some.inj h
           omega)
       have o9 := Lib.hid hown4
       obtain ⟨A6, c6, rfl, _, _, _, _⟩ := owns_sn (l := ks.take r ++ [k] ++ ks.drop r) (show w4.ownsRow w.heap.size 9 1 v4 (r + 1 + (n - r)) (sv (ks.take r ++ [k] ++ ks.drop r)) from by rw [sv_append, sv_append]; exact hown4)
       clear hown4 hg4 hat4))
  all_goals go_wp2_with fail
  all_goals
    have hPlt := lt_of_cell hK
    have gh5 := gh.out
    rw [← gn.out] at gh5
    have hA2 : ∀ a, A2 = some a → a.block ≠ P := fun a e h => (ref_ne gh.out).2 (by rw [e]; show some a.block = some P; rw [h])
    obtain ⟨w5, hw5⟩ : ∃ x, x = w4.setCell ⟨P, 1, none⟩ (.slice A6 (r + 1 + (n - r)) c6) := ⟨_, rfl⟩
    obtain ⟨blk5, but5, o10, o11⟩ := set_mid gh5 hPlt bD.out o9.out o8.out hw5
    rw [← hw5]
    have gblk := Lib.hid blk5
    have gbut := Lib.hid but5
    have go10 := Lib.hid o10
    have go11 := Lib.hid o11
    have ghA := Lib.hid hA2
    clear hw5 blk5 but5 o10 o11 gh5 hA2 ka kb k3 k4 kc kd k5 k6 kf
    have m5 := (cell_of_row w5 P 2 _ _ (0, 0) gblk.out).trans (show _ = some (.slice A2 n c2) from rfl)
    have bE := Lib.hid (((Below.refl w.heap.size w5).alloc gbut.out.size (.cells #[.string v] 9)).drew)
    have sE : w.heap.size ≤ ((w5.alloc (.cells #[.string v] 9)).drew).heap.size := Nat.le_trans gbut.out.size bE.out.size
    have m6 := (bE.out.cell (p := ⟨P, 2, none⟩) hPlt).trans m5
    have p10 := Lib.hid (owns_drew (owns_below go10.out (below_alloc w5 (.cells #[.string v] 9))))
    have p11 := Lib.hid (owns_drew (owns_below go11.out (below_alloc w5 (.cells #[.string v] 9))))
    have hap5 := Lib.hid (show (Value.slice A6 (r + 1 + (n - r)) c6).ownBlock ≠ (Value.slice A4 r c4).ownBlock ∨ (Value.slice A6 (r + 1 + (n - r)) c6) = .slice none 0 0 from by
      cases hb : (Value.slice A6 (r + 1 + (n - r)) c6).ownBlock with
      | none => exact Or.inr (own_nil go10.out hb)
      | some g => exact Or.inl fun e => hne4.out g hb e.symm)
  all_goals go_region_law
    (first
    | (refine step_app _ rfl (.tmp 68) (.tmp 70) rfl w.heap.size _ r (sv (vs.take r)) ?hs p11.out _ 1 1 [v] rfl (lit_sn w5 v) (fun h => by cases h) (by omega) sE ?_
       case hs => rfl
       intro v5 w6 hown5 hg5 hat5
       have bF := Lib.hid (bE.out.grown hg5 sE (fun k hk => (owns_lt p11.out hk).1))
       have m7 := (bF.out.cell (p := ⟨P, 2, none⟩) hPlt).trans m5
       have but6 := Lib.hid (but_below gbut.out bF.out)
       have p12 := Lib.hid (owns_grown p10.out hg5 hap5.out)
       have hne5 := Lib.hid (show ∀ g, (Value.slice A6 (r + 1 + (n - r)) c6).ownBlock = some g → v5.ownBlock ≠ some g from fun g h1 h2 => by
         rcases hat5 with h | h
         · rw [h2] at h; exact hne4.out g h1 h.symm
         · rw [h2] at h
           have := (owns_lt p10.out h1).2
           have h' := Option.some.inj h
           omega)
       have p13 := Lib.hid hown5
       have blk6 := Lib.hid ((bF.out.block P hPlt).trans gblk.out)
       obtain ⟨A7, c7, rfl, _, _, _, _⟩ := owns_sn (l := vs.take r ++ [v]) (show w6.ownsRow w.heap.size 9 1 v5 (r + 1) (sv (vs.take r ++ [v])) from by rw [sv_append]; exact hown5)
       clear hown5 hg5 hat5)
    | (refine step_app _ rfl (.tmp 71) (.tmp 77) rfl w.heap.size _ (r + 1) (sv (vs.take r) ++ sv [v]) ?hs p13.out _ (n - r) (c2 - r) (vs.drop r) rfl (sV.out.but but6.out (dropA_apart ghA.out)) d2.out (by omega) but6.out.size ?_
       case hs => rfl
       intro v6 w7 hown6 hg6 hat6
       have bG := Lib.hid (bF.out.grown hg6 but6.out.size (fun k hk => (owns_lt p13.out hk).1))
       have blk7 := Lib.hid ((bG.out.block P hPlt).trans gblk.out)
       have but7 := Lib.hid (but_below gbut.out bG.out)
       have p14 := Lib.hid (owns_grown p12.out hg6 (by
         cases hb : (Value.slice A6 (r + 1 + (n - r)) c6).ownBlock with
         | none => exact Or.inr (own_nil p12.out hb)
         | some g => exact Or.inl fun e => hne5.out g hb e.symm))
       have hne6 := Lib.hid (show ∀ g, (Value.slice A6 (r + 1 + (n - r)) c6).ownBlock = some g → v6.ownBlock ≠ some g from fun g h1 h2 => by
         rcases hat6 with h | h
         · rw [h2] at h; exact hne5.out g h1 h.symm
         · rw [h2] at h
           have := (owns_lt p12.out h1).2
           have h' := Option.some.inj h
           omega)
       have p15 := Lib.hid hown6
       have m8 := (bG.out.cell (p := ⟨P, 2, none⟩) hPlt).trans m5
       have kg := frozen_of_row w7 P 2 _ _ blk7.out
       obtain ⟨A8, c8, rfl, _, _, _, _⟩ := owns_sn (l := vs.take r ++ [v] ++ vs.drop r) (show w7.ownsRow w.heap.size 9 1 v6 (r + 1 + (n - r)) (sv (vs.take r ++ [v] ++ vs.drop r)) from by rw [sv_append, sv_append]; exact hown6)
       clear hown6 hg6 hat6))
  all_goals go_wp2_with fail
  all_goals go_ret3
  all_goals try subst_vars
  all_goals exact set_new_ends gh.out hh2.out rfl rfl hrk hPlt blk7.out p14.out p15.out hne6.out but7.out _ rfl
end Go.Proofs.Ytbcakennmnjlcaa
