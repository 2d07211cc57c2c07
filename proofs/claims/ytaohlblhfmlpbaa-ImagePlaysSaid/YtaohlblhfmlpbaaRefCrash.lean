/- The reference's image: Crash. -/
import Derived.Test.YtaohlblhfmlpbaaRefRows
import Derived.Deep.DeepCutAuto
import Derived.BigRegion
namespace Go.Proofs.Ytaohlblhfmlpbaa
open Go.RowKit
section
variable {w : World} {B Q sz d : Nat} {v : Value} {l : List E}
set_option maxRecDepth 100000 in
set_option maxHeartbeats 1000000 in
theorem rcrash_any (h : ROwn w B Q sz d v l) (k : Nat) (_hk : k < 9223372036854775808) : Calls Try.prog 18 #[.pointer (some ⟨Q, 0, none⟩), .int .i64 (k : Nat)] w fun e w' => e = .returned (.int .i64 0) ∧ RLeft w B Q sz (kept d k l.length) v (l.take (kept d k l.length)) w' := by
  obtain ⟨r, hr⟩ : ∃ r, r = kept d k l.length := ⟨_, rfl⟩
  have hrl : r ≤ l.length := by rw [hr]; exact (kept_le h.dle).2
  obtain ⟨l2, hl2⟩ : ∃ l2, l2 = l.take r := ⟨_, rfl⟩
  have hlen2 : l2.length = r := by rw [hl2, List.length_take]; omega
  rw [← hr, ← hl2]
  obtain ⟨A, c, rfl, hnil, hc, _, hs, _⟩ := owns_sl h.row
  have gh := Lib.hid h
  have gs := Lib.hid hs
  have gp := Lib.hid h.pos
  have c0 := h.c0
  have c1 := h.c1
  have c2 := h.c2
  have f1 := h.fz 1
  have hlim : l.length ≤ 8192 := Nat.le_trans h.le h.sz_le
  have hd := h.dle
  obtain ⟨m, hm⟩ : ∃ m, m = l.length := ⟨_, rfl⟩
  have gm := Lib.hid hm
  have gq := Lib.hid (show (d : Int) + min (k : Int) ((m : Int) - (d : Int)) = (r : Int) by rw [hr]; unfold kept; omega)
  rw [← hm] at c0 gs hnil hlim hd hrl hc
  have gnil := Lib.hid (show A = none → r = 0 ∧ c = 0 from fun e => by have := hnil e; omega)
  have gN := Lib.hid (show r ≤ m ∧ m ≤ 8192 ∧ r ≤ c from ⟨hrl, hlim, by omega⟩)
  have gl2 := Lib.hid hl2
  have glen2 := Lib.hid hlen2
  clear h hs hnil hr hm hc hl2 hlen2
  go_enter Try.func18, Try.ntmps18
  go_wp2_with (go_at_call 35; refine (rvalid_any Q sz _ c2 gp).mono ?_; rintro e w' ⟨rfl, rfl⟩)
  go_region
  go_wp2_with fail
  rw [gq.out]
  obtain ⟨V, hV⟩ : ∃ V, V = (w.setCell ⟨Q, 1, none⟩ (.int .i64 (r : Nat))).drew := ⟨_, rfl⟩
  have hR1 := gh.out.remark r (by rw [← gm.out]; exact gN.out.1)
  have gV : Hid (ROwn V B Q sz r (.slice A l.length c) l) := Lib.hid (by rw [hV]; exact hR1.1.same fun _ _ => rfl)
  have gT : Hid (Turn (Foot Q (.slice A l.length c)) (Foot Q (.slice A l.length c)) w V) := Lib.hid (by rw [hV]; exact ⟨hR1.2.but.drew, hR1.2.own⟩)
  rw [← hV]
  clear hR1 hV c0 c1 c2 f1 gs gh gq
  have hb1 := (lit_b V (.cells #[] 5)).drew
  have gb := Lib.hid hb1
  have c0 := gV.out.c0
  have c1 := gV.out.c1
  have d0 := (gV.out.below hb1).c0
  have d1 := (gV.out.below hb1).c1
  rw [← gm.out] at c0 d0
  have gs1 := Lib.hid (show SB (V.alloc (.cells #[] 5)).drew A r l2 from by
    obtain ⟨A', c', e, _, _, _, hs, _⟩ := owns_sl (gV.out.below hb1).row
    cases e
    rw [gl2.out]
    have hrl : r ≤ l.length := by have := gN.out.1; have := gm.out; omega
    refine ⟨by rw [List.length_take]; omega, fun hp => ?_⟩
    obtain ⟨b, hA, hc⟩ := hs.2 (by omega)
    refine ⟨b, hA, fun i x hx => hc i x ?_⟩
    rw [List.getElem?_take] at hx
    split at hx
    · exact hx
    · cases hx)
  have e1 := Lib.hid (empty_owns V (Nat.le_refl _)).drew
  have hsl := slice_to A m c r gN.out.2.2
  clear hb1
  go_region_law
    (first
    | (refine step_app _ rfl (.tmp 31) (.tmp 40) rfl V.heap.size _ 0 [] ?hs e1.out A r c l2 rfl glen2.out gs1.out.news gnil.out (by have := gN.out; omega) gb.out.size ?_
       case hs => rfl
       intro v2 w2 hown2 hg2 hat2
       rw [Nat.zero_add, List.nil_append] at hown2
       have hB2 := own_grown gb.out hg2 (Nat.le_refl _)
       have gE := Lib.hid (gV.out.put hB2 (l' := l2) (n := r) glen2.out.symm hown2 (by rw [glen2.out]; have := gV.out.le; have := gN.out.1; have := gm.out; omega) (by rw [glen2.out]; exact Nat.le_refl _))
       have hblk := (hB2.block Q gV.out.lt).trans gV.out.blk
       have k4 := frozen_of_row w2 Q 0 _ _ hblk
       have k5 := (cell_of_row w2 Q 0 _ _ (0, 0) hblk).trans (show _ = some (.slice A l.length c) from rfl)
       obtain ⟨A3, p3, rfl, -⟩ := owns_sl gE.out.1.row
       clear hown2 hg2 hat2 hB2 hblk))
  all_goals go_wp2_with fail
  all_goals go_ret
  all_goals exact ⟨rfl, _, gE.out.1, gT.out.trans gE.out.2⟩
end
end Go.Proofs.Ytaohlblhfmlpbaa
