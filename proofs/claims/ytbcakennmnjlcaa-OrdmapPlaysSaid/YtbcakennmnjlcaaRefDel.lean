/- The reference's Delete. -/
import Derived.Test.YtbcakennmnjlcaaRefSet
import Derived.Deep.DeepCutAuto
namespace Go.Proofs.Ytbcakennmnjlcaa
open Go.RowKit

def delK (ks : List ByteArray) (k : ByteArray) : List ByteArray := if hasK ks k then ks.take (rk ks k) ++ ks.drop (rk ks k + 1) else ks
def delV (ks vs : List ByteArray) (k : ByteArray) : List ByteArray := if hasK ks k then vs.take (rk ks k) ++ vs.drop (rk ks k + 1) else vs
/-- What Delete leaves. -/
def DelRef (w : World) (B P : Nat) (vK vV : Value) (ks vs : List ByteArray) (k : ByteArray) (e : Ending) (w' : World) : Prop :=
  ∃ vK' vV', e = .returned (.tuple #[.string (getV ks vs k), .bool (hasK ks k)]) ∧ RefOwn w' B P vK' vV' (delK ks k) (delV ks vs k) ∧ But (fun b => b = P) w w' ∧
    (∀ g, vK'.ownBlock = some g → vK.ownBlock = some g ∨ w.heap.size ≤ g) ∧ (∀ g, vV'.ownBlock = some g → vV.ownBlock = some g ∨ w.heap.size ≤ g)
set_option maxHeartbeats 400000 in
theorem rdel_nil (k : ByteArray) (w : World) : Calls Try.prog 16 #[.pointer none, .string k] w fun e w' => e = .returned (.tuple #[.string ⟨#[]⟩, .bool false]) ∧ w = w' := by
  go_enter Try.func16, Try.ntmps16
  go_wp2_with (go_at_call 68; refine (rget_nil _ _).mono ?_; rintro e w' ⟨rfl, rfl⟩)
  go_ret2
  exact ⟨rfl, rfl⟩
set_option maxHeartbeats 800000 in
theorem rdel_none (B P : Nat) (vK vV : Value) (ks vs : List ByteArray) (k : ByteArray) (w : World) (h : RefOwn w B P vK vV ks vs) (hh : hasK ks k = false) :
    Calls Try.prog 16 #[.pointer (some ⟨P, 0, none⟩), .string k] w (DelRef w B P vK vV ks vs k) := by
  obtain ⟨A1, c1, A2, c2, rfl, rfl, n1, n2, hRA⟩ := h.at
  have gRA := Lib.hid hRA
  have gh := Lib.hid h
  have hh2 := Lib.hid hh
  clear hRA h hh n1 n2
  go_enter Try.func16, Try.ntmps16
  go_wp2_with (go_at_call 68; refine (rget_any P A1 c1 A2 c2 ks vs k _ gRA.out).mono ?_; rintro e w1 ⟨rfl, hb⟩; have gb := Lib.hid hb; clear hb; rw [hh2.out])
  go_ret2
  refine ⟨_, _, by rw [hh2.out]; rfl, ?_, But.of_below gb.out, fun _ h => Or.inl h, fun _ h => Or.inl h⟩
  have e1 : delK ks k = ks := by unfold delK; rw [hh2.out]; rfl
  have e2 : delV ks vs k = vs := by unfold delV; rw [hh2.out]; rfl
  rw [e1, e2]
  exact gh.out.below gb.out

/-- What one store of Delete leaves: the keys are new. -/
def MidD (w : World) (P n m : Nat) (A2 : Option Addr) (c2 : Nat) (l : List ByteArray) (wx : World) : Prop :=
  ∃ A6 c6, wx.heap[P]? = some (.cells #[.bool true, .slice A6 m c6, .slice A2 n c2] 120 (0, 0)) ∧ But (fun b => b = P) w wx ∧ wx.ownsRow w.heap.size 9 1 (.slice A6 m c6) m (sv l)
/-- What both stores of Delete leave. -/
def EndD (w : World) (P m : Nat) (l l2 : List ByteArray) (wx : World) : Prop :=
  ∃ A6 c6 A8 c8, wx.heap[P]? = some (.cells #[.bool true, .slice A6 m c6, .slice A8 m c8] 120 (0, 0)) ∧ But (fun b => b = P) w wx ∧ wx.ownsRow w.heap.size 9 1 (.slice A6 m c6) m (sv l) ∧ wx.ownsRow w.heap.size 9 1 (.slice A8 m c8) m (sv l2) ∧
    (∀ g, (Value.slice A6 m c6).ownBlock = some g → (Value.slice A8 m c8).ownBlock ≠ some g)
theorem midD {w w4 : World} {P n m c1 c2 c6 : Nat} {A1 A2 A6 : Option Addr} {l : List ByteArray} (hlt : P < w.heap.size)
    (hb : w4.heap[P]? = some (.cells #[.bool true, .slice A1 n c1, .slice A2 n c2] 120 (0, 0))) (hB : But (fun b => b = P) w w4) (o : w4.ownsRow w.heap.size 9 1 (.slice A6 m c6) m (sv l)) :
    MidD w P n m A2 c2 l (w4.setCell ⟨P, 1, none⟩ (.slice A6 m c6)) := by
  refine ⟨A6, c6, ?_, hB.setCell (p := ⟨P, 1, none⟩) (Or.inl rfl) _, ?_⟩
  · rw [heap_setCell_same w4 P 1 _ _ _ hb]; rfl
  · exact owns_of_block o fun g hg => Below.heap_setCell w4 _ _ g (by have := (owns_lt o hg).1; show g ≠ P; omega)

theorem endD {w wc w4 : World} {P n m c2 c6 c8 : Nat} {A2 A6 A8 : Option Addr} {l l2 : List ByteArray} (hlt : P < w.heap.size)
    (hb : wc.heap[P]? = some (.cells #[.bool true, .slice A6 m c6, .slice A2 n c2] 120 (0, 0))) (hB : But (fun b => b = P) w wc) (o : wc.ownsRow w.heap.size 9 1 (.slice A6 m c6) m (sv l))
    (hB2 : Below wc.heap.size wc w4) (o2 : w4.ownsRow wc.heap.size 9 1 (.slice A8 m c8) m (sv l2)) :
    EndD w P m l l2 (w4.setCell ⟨P, 2, none⟩ (.slice A8 m c8)) := by
  have hlt2 : P < wc.heap.size := Nat.lt_of_lt_of_le hlt hB.size
  have hb4 := (hB2.block P hlt2).trans hb
  have o4 := owns_below o hB2
  refine ⟨A6, c6, A8, c8, ?_, (but_below hB (hB2.mono hB.size)).setCell (p := ⟨P, 2, none⟩) (Or.inl rfl) _, ?_, ?_, ?_⟩
  · rw [heap_setCell_same w4 P 2 _ _ _ hb4]; rfl
  · exact owns_of_block o4 fun g hg => Below.heap_setCell w4 _ _ g (by have := (owns_lt o4 hg).1; show g ≠ P; omega)
  · exact owns_le (owns_of_block o2 fun g hg => Below.heap_setCell w4 _ _ g (by have := (owns_lt o2 hg).1; show g ≠ P; omega)) hB.size
  · intro g h1 h2
    have := (owns_lt o h1).2
    have := (owns_lt o2 h2).1
    omega
theorem del_ends {w wx : World} {B P n r q m : Nat} {vK vV : Value} {ks vs : List ByteArray} {k : ByteArray} (gh : RefOwn w B P vK vV ks vs) (hh : hasK ks k = true) (hn : n = ks.length) (hr : r = rk ks k) (hq : q = r + 1) (hm : m = r + (n - q)) (hPlt : P < w.heap.size)
    (hE : EndD w P m (ks.take r ++ ks.drop q) (vs.take r ++ vs.drop q) wx) : DelRef w B P vK vV ks vs k (.returned (.tuple #[.string (getV ks vs k), .bool true])) wx := by
  obtain ⟨A6, c6, A8, c8, hb, hB, o1, o2, hne⟩ := hE
  have e1 : delK ks k = ks.take r ++ ks.drop q := by unfold delK; rw [hh, hq, hr]; rfl
  have e2 : delV ks vs k = vs.take r ++ vs.drop q := by unfold delV; rw [hh, hq, hr]; rfl
  have hlt := hasK_lt hh
  have e3 : (ks.take r ++ ks.drop q).length = m := by simp [← hn]; omega
  refine ⟨_, _, by rw [hh], ⟨gh.hP, ?_, ?_, ?_, ?_⟩, hB, fun g hg => Or.inr (owns_lt o1 hg).1, fun g hg => Or.inr (owns_lt o2 hg).1⟩
  rotate_left
  · rw [e1, e3]; exact owns_le o1 (by have := gh.hP; omega)
  · rw [e1, e2, e3]; exact owns_le o2 (by have := gh.hP; omega)
  · exact hne
  · exact hb

set_option maxHeartbeats 4000000 in
theorem rdel_has (B P : Nat) (vK vV : Value) (ks vs : List ByteArray) (k : ByteArray) (w : World) (h : RefOwn w B P vK vV ks vs) (hlen : ks.length ≤ 1000000) (hh : hasK ks k = true) :
    Calls Try.prog 16 #[.pointer (some ⟨P, 0, none⟩), .string k] w (DelRef w B P vK vV ks vs k) := by
  obtain ⟨A1, c1, A2, c2, rfl, rfl, n1, n2, hRA⟩ := h.at
  have gRA := Lib.hid hRA
  have gh := Lib.hid h
  have hh2 := Lib.hid hh
  have hrk := hasK_lt hh
  have hPlt : P < w.heap.size := lt_of_cell hRA.cK
  clear hRA h hh
  obtain ⟨n, hn⟩ : ∃ n, n = ks.length := ⟨_, rfl⟩
  have gn := Lib.hid hn
  obtain ⟨r, hr⟩ : ∃ r, r = rk ks k := ⟨_, rfl⟩
  have gr := Lib.hid hr
  obtain ⟨q, hq⟩ : ∃ q, q = r + 1 := ⟨_, rfl⟩
  obtain ⟨m, hm⟩ : ∃ m, m = r + (n - q) := ⟨_, rfl⟩
  rw [← hn] at n1 n2 hrk hlen
  rw [← hr] at hrk
  clear hn hr
  have gh1 := gh.out.blk
  rw [← gn.out] at gh1
  have gblk := Lib.hid gh1
  have g1 := Lib.hid n1
  have g2 := Lib.hid n2
  clear gh1 n1 n2
  have hc := gRA.out
  obtain ⟨-, -, -, rK, rV, hc1, hc2⟩ := hc
  rw [← gn.out] at rK rV hc1 hc2
  have gK := Lib.hid rK
  have gV := Lib.hid rV
  clear rK rV
  have i0 : (0 : Int) ≤ (r : Int) := by omega
  have i1 : (r : Int) ≤ (n : Int) := by omega
  have i2 : (r : Int) ≤ (c1 : Int) := by omega
  have i3 : (r : Int) ≤ (c2 : Int) := by omega
  have j0 : (0 : Int) ≤ (q : Int) := by omega
  have j1 : (q : Int) ≤ (n : Int) := by omega
  have j2 : (q : Int) ≤ (c1 : Int) := by omega
  have j3 : (q : Int) ≤ (c2 : Int) := by omega
  have j4 : IntKind.i64.wrap ((r : Int) + 1) = (q : Int) := by rw [hq, IntKind.wrap_i64]; omega
  have i4 : (n : Int) ≤ (c1 : Int) := by omega
  have i5 : (n : Int) ≤ (c2 : Int) := by omega
  have gq := Lib.hid hq
  have gm := Lib.hid hm
  clear hq hm
  go_enter Try.func16, Try.ntmps16
  go_wp2_with (first
    | (go_at_call 68; refine (rget_any P A1 c1 A2 c2 ks vs k _ gRA.out).mono ?_; rintro e w1 ⟨rfl, hb⟩; have gb := Lib.hid hb; have gR1 := Lib.hid (gRA.out.below gb.out); clear hb; rw [hh2.out])
    | (go_at_call 20; refine (rrank_any P A1 c1 A2 c2 ks vs k _ gR1.out).mono ?_; rintro e w' ⟨rfl, rfl⟩; rw [← gr.out]))
  go_cut [] (fun wx => MidD w P n m A2 c2 (ks.take r ++ ks.drop q) wx)
  case first =>
    have hK : w1.cell? ⟨P, 1, none⟩ = some (.slice A1 n c1) := (cell_of_row w1 P 1 _ _ (0, 0) ((gb.out.block P hPlt).trans gblk.out)).trans rfl
    have sK := Lib.hid ((gK.out.below gb.out).dropA (show q ≤ n by omega) hc1.1 g1.out)
    have tK := Lib.hid ((gK.out.below gb.out).take (show r ≤ n by omega))
    have d1 := Lib.hid (dropA_none (r := q) g1.out)
    have bE := Lib.hid ((gb.out.alloc gb.out.size (.cells #[] 9)).drew)
    have sE : w.heap.size ≤ ((w1.alloc (.cells #[] 9)).drew).heap.size := bE.out.size
    have kE := (bE.out.cell (p := ⟨P, 1, none⟩) hPlt).trans ((gb.out.cell (p := ⟨P, 1, none⟩) hPlt).symm.trans hK)
    have e1 := Lib.hid (owns_drew (empty_owns w1 (B := w.heap.size) gb.out.size))
    have e0 := Lib.hid (owns_drew (empty_owns w1 (B := w1.heap.size) (Nat.le_refl _)))
    have b0 := Lib.hid ((below_alloc w1 (.cells #[] 9)).drew)
    go_region_law
      (first
      | (refine step_app _ rfl (.tmp 20) (.tmp 26) rfl w.heap.size _ 0 [] ?hs e1.out A1 r c1 (ks.take r) rfl (tK.out.below b0.out) (take_none (show r ≤ n by omega) g1.out) (by omega) sE ?_
         case hs => rfl
         intro v2 w2 hown2 hg2 hat2
         rw [Nat.zero_add, List.nil_append] at hown2
         have bF := Lib.hid (bE.out.grown hg2 sE (fun k hk => (owns_lt e1.out hk).1))
         have kF := (bF.out.cell (p := ⟨P, 1, none⟩) hPlt).trans ((gb.out.cell (p := ⟨P, 1, none⟩) hPlt).symm.trans hK)
         have b1 := Lib.hid (b0.out.grown hg2 b0.out.size (fun k hk => (owns_lt e0.out hk).1))
         have o2 := Lib.hid hown2
         obtain ⟨A3, c3, rfl, _, _, _, _⟩ := owns_sn (l := ks.take r) (show w2.ownsRow w.heap.size 9 1 v2 r (sv (ks.take r)) from hown2)
         clear hown2 hg2 hat2)
      | (refine step_app _ rfl (.tmp 27) (.tmp 34) rfl w.heap.size _ r (sv (ks.take r)) ?hs o2.out _ (n - q) (c1 - q) (ks.drop q) rfl (sK.out.below b1.out) d1.out (by omega) bF.out.size ?_
         case hs => rfl
         intro v3 w3 hown3 hg3 hat3
         have bG := Lib.hid (bF.out.grown hg3 bF.out.size (fun k hk => (owns_lt o2.out hk).1))
         have kG := (bG.out.cell (p := ⟨P, 1, none⟩) hPlt).trans ((gb.out.cell (p := ⟨P, 1, none⟩) hPlt).symm.trans hK)
         have bG2 := (bG.out.block P hPlt).trans gblk.out
         have kf := frozen_of_row w3 P 1 _ _ bG2
         rw [← sv_append, ← gm.out] at hown3
         have o3 := Lib.hid hown3
         obtain ⟨A4, c4, rfl, _, _, _, _⟩ := owns_sn hown3
         clear hown3 hg3 hat3))
    all_goals go_wp2_with fail
    all_goals go_meet
    all_goals exact midD hPlt bG2 (But.of_below bG.out) o3.out
  case rest =>
    obtain ⟨A6, c6, hblk, hbut, hown⟩ := hcut
    have gcb := Lib.hid hblk
    have gbut := Lib.hid hbut
    have gown := Lib.hid hown
    clear hblk hbut hown
    have hPc : P < wc.heap.size := Nat.lt_of_lt_of_le hPlt gbut.out.size
    have hV : wc.cell? ⟨P, 2, none⟩ = some (.slice A2 n c2) := (cell_of_row wc P 2 _ _ (0, 0) gcb.out).trans rfl
    have hA2 := Lib.hid (show ∀ b o, A2 = some ⟨b, o, none⟩ → ¬ b = P from fun b o e h => (ref_ne gh.out).2 (by rw [e]; show some b = some P; rw [h]))
    have sV0 := Lib.hid (gV.out.but gbut.out hA2.out)
    have sV := Lib.hid (sV0.out.dropA (show q ≤ n by omega) hc2.1 g2.out)
    have tV := Lib.hid (sV0.out.take (show r ≤ n by omega))
    have d2 := Lib.hid (dropA_none (r := q) g2.out)
    have bE := Lib.hid ((below_alloc wc (.cells #[] 9)).drew)
    have kE := (bE.out.cell (p := ⟨P, 2, none⟩) hPc).trans hV
    have e1 := Lib.hid (owns_drew (empty_owns wc (B := wc.heap.size) (Nat.le_refl _)))
    go_wp2_with fail
    go_cut [] (fun wx => EndD w P m (ks.take r ++ ks.drop q) (vs.take r ++ vs.drop q) wx)
    case first =>
      go_region_law
        (first
        | (refine step_app _ rfl (.tmp 39) (.tmp 45) rfl wc.heap.size _ 0 [] ?hs e1.out A2 r c2 (vs.take r) rfl (tV.out.below bE.out) (take_none (show r ≤ n by omega) g2.out) (by omega) bE.out.size ?_
           case hs => rfl
           intro v2 w2 hown2 hg2 hat2
           rw [Nat.zero_add, List.nil_append] at hown2
           have bF := Lib.hid (bE.out.grown hg2 bE.out.size (fun k hk => (owns_lt e1.out hk).1))
           have kF := (bF.out.cell (p := ⟨P, 2, none⟩) hPc).trans hV
           have o2 := Lib.hid hown2
           obtain ⟨A3, c3, rfl, _, _, _, _⟩ := owns_sn (l := vs.take r) (show w2.ownsRow wc.heap.size 9 1 v2 r (sv (vs.take r)) from hown2)
           clear hown2 hg2 hat2)
        | (refine step_app _ rfl (.tmp 46) (.tmp 53) rfl wc.heap.size _ r (sv (vs.take r)) ?hs o2.out _ (n - q) (c2 - q) (vs.drop q) rfl (sV.out.below bF.out) d2.out (by omega) bF.out.size ?_
           case hs => rfl
           intro v3 w3 hown3 hg3 hat3
           have bG := Lib.hid (bF.out.grown hg3 bF.out.size (fun k hk => (owns_lt o2.out hk).1))
           have kG := (bG.out.cell (p := ⟨P, 2, none⟩) hPc).trans hV
           have kf := frozen_of_row w3 P 2 _ _ ((bG.out.block P hPc).trans gcb.out)
           rw [← sv_append, ← gm.out] at hown3
           have o3 := Lib.hid hown3
           obtain ⟨A4, c4, rfl, _, _, _, _⟩ := owns_sn hown3
           clear hown3 hg3 hat3))
      all_goals go_wp2_with fail
      all_goals go_meet
      all_goals exact endD hPlt gcb.out gbut.out gown.out bG.out o3.out
    case rest =>
      have gE := Lib.hid hcut
      clear hcut
      go_wp2_with fail
      go_ret2
      exact del_ends gh.out hh2.out gn.out gr.out gq.out gm.out hPlt gE.out
end Go.Proofs.Ytbcakennmnjlcaa
