/- Append, Crash. -/
import Derived.Test.YtaohlblhfmlpbaaImg
import Derived.Laws.AppendOwnNone
namespace Go.Proofs.Ytaohlblhfmlpbaa
open Go.RowKit
section
variable {w : World} {B P sz d : Nat} {v : Value} {l : List E}
theorem ownsRow_shape {w : World} {base : Nat} {e : TypeId} {size : Nat} {v : Value} {n : Nat} {xs : List Value} (h : w.ownsRow base e size v n xs) : ∃ a c, v = .slice a n c := by
  rcases h.2 with ⟨rfl, rfl⟩ | ⟨g, cap, _, rfl, _⟩
  · exact ⟨_, _, rfl⟩
  · exact ⟨_, _, rfl⟩
/-- What an operation leaves: an image, perhaps in another row. -/
def Left (w : World) (B P sz d : Nat) (v : Value) (l : List E) (w' : World) : Prop := ∃ v', IOwn w' B P sz d v' l ∧ Turn (Foot P v) (Foot P v') w w'
theorem append_full (h : IOwn w B P sz d v l) (A : Option Addr) (n c : Nat) (hn : sz < l.length + n) : Calls Try.prog 13 #[.pointer (some ⟨P, 0, none⟩), .slice A n c] w fun e w' => e = .returned (.int .i64 4) ∧ w = w' := by
  have g := Lib.hid h
  have c0 := h.c0
  have hl := h.le
  obtain ⟨r, hr⟩ : ∃ r, r = sz - l.length := ⟨_, rfl⟩
  have gr := Lib.hid hr
  have e1 : (r : Int) < (n : Int) := by omega
  clear h hr hl hn
  go_enter Try.func13, Try.ntmps13
  go_wp2_with first
    | (go_at_call 34; refine (valid_any _ _ c0).mono ?_; rintro e w' ⟨rfl, rfl⟩)
    | (go_at_call 29; refine (room_any g.out).mono ?_; rintro e w' ⟨rfl, rfl⟩; rw [← gr.out])
  go_ret
  exact ⟨rfl, rfl⟩
/-- The row has further bytes. -/
theorem grow_ends {w2 : World} (h : IOwn w B P sz d v l) {xs : List E} {n : Nat} (hn : xs.length = n) (hl : l.length + n ≤ sz) {v' : Value} (hr : w2.ownsRow B 5 1 v' (l.length + n) (vs l ++ vs xs)) (hg : w.grownBy w2 v.ownBlock)
    (hat : v'.ownBlock = v.ownBlock ∨ v'.ownBlock = some w.heap.size) : Left w B P sz d v (l ++ xs) (w2.setCell ⟨P, 3, none⟩ v') := by
  have hb2 : w2.heap[P]? = w.heap[P]? := hg.block P h.lt (fun e => h.ne e.symm)
  have hne : v'.ownBlock ≠ some P := by
    intro hg'
    rcases hat with h2 | h2
    · exact h.ne (h2 ▸ hg')
    · rw [hg'] at h2
      have := Option.some.inj h2
      have := h.lt
      omega
  have hlen : (l ++ xs).length = l.length + n := by simp [hn]
  refine ⟨v', h.store3 hb2 (by rw [hlen, vs_append]; exact hr) (by rw [hlen]; have := h.dle; omega) (by omega) hne, ?_, fun b hb => ?_⟩
  · exact ((But.refl (Foot P v) w).grown hg (fun g hg => .inl (.inr hg))).setCell (.inl (.inl rfl)) _
  · rcases hb with rfl | hb
    · exact .inl (.inl rfl)
    · rcases hat with h2 | h2
      · exact .inl (.inr (h2 ▸ hb))
      · rw [hb] at h2
        have := Option.some.inj h2
        exact .inr (by omega)
set_option maxHeartbeats 1000000 in
theorem append_any (h : IOwn w B P sz d v l) {A : Option Addr} {n c : Nat} {xs : List E} (hs : SB w A n xs) (hA : A = none → c = 0) (hn : l.length + n ≤ sz) :
    Calls Try.prog 13 #[.pointer (some ⟨P, 0, none⟩), .slice A n c] w fun e w' => e = .returned (.int .i64 0) ∧ Left w B P sz d v (l ++ xs) w' := by
  obtain ⟨A0, c', rfl, _, hc, hcm, _⟩ := owns_sl h.row
  obtain ⟨i0, hinf, hz0, hz1, hz2⟩ := info_parts infoE
  have gO := Lib.hid h
  have gB : Hid (B ≤ w.heap.size) := by have := h.hP; have := h.lt; exact Lib.hid (by omega)
  have c0 := h.c0
  have c3 := h.c3
  have hsz := h.sz_le
  obtain ⟨r, hr⟩ : ∃ r, r = sz - l.length := ⟨_, rfl⟩
  have gr := Lib.hid hr
  have e1 : ¬ (r : Int) < (n : Int) := by omega
  obtain ⟨m, hm⟩ : ∃ m, m = l.length := ⟨_, rfl⟩
  have gm := Lib.hid hm
  rw [← hm] at c3 hc
  have gN := Lib.hid (show m + n ≤ 8192 by omega)
  have hrow : Hid (w.ownsRow B 5 1 (.slice A0 m c') m (vs l)) := by rw [hm]; exact Lib.hid h.row
  have fz := h.fz 3
  have gn := Lib.hid hn
  have gs := Lib.hid hs
  rcases A with _ | a
  · obtain rfl := hA rfl
    have hn0 : n = 0 := by
      rcases Nat.eq_zero_or_pos n with h0 | h0
      · exact h0
      · obtain ⟨a, ha, _⟩ := hs.2 h0
        cases ha
    subst hn0
    obtain rfl : xs = [] := List.eq_nil_of_length_eq_zero hs.1
    have gE := Lib.hid (show Left w B P sz d (.slice A0 m c') (l ++ []) (w.setCell ⟨P, 3, none⟩ (.slice A0 m c')) from by
      rw [List.append_nil]
      rw [hm]
      exact ⟨_, h.store3 rfl h.row h.dle h.le h.ne, (But.refl _ w).setCell (.inl (.inl rfl)) _, fun _ h => .inl h⟩)
    clear h hr hm hn hA hs hsz
    go_enter Try.func13, Try.ntmps13
    go_wp2_with first
      | (go_at_call 34; refine (valid_any _ _ c0).mono ?_; rintro e w' ⟨rfl, rfl⟩)
      | (go_at_call 29; refine (room_any gO.out).mono ?_; rintro e w' ⟨rfl, rfl⟩; rw [← gr.out])
      | (at_builtin; refine wpList_append_own_none rfl _ _ 23 rfl B 5 i0 1 Try.underlying23 hinf _ m (vs l) rfl hrow.out rfl ?_)
    go_ret
    rw [← gm.out]
    exact ⟨rfl, gE.out⟩
  · have gsrc := Lib.hid (show ∀ j u, (vs xs)[j]? = some u → w.cell? (a.add j) = some u from fun j u hj => by
      obtain ⟨x, hx, rfl⟩ := vs_at hj
      have hlt : j < n := by rw [← hs.1]; exact (List.getElem?_eq_some_iff.1 hx).1
      obtain ⟨a', e, hc'⟩ := hs.2 (by omega)
      cases e
      exact hc' j x hx)
    have glen := Lib.hid (show (vs xs).length = n * 1 by rw [length_vs, hs.1, Nat.mul_one])
    clear h hr hm hn hA hs hsz
    go_enter Try.func13, Try.ntmps13
    go_wp2_with first
      | (go_at_call 34; refine (valid_any _ _ c0).mono ?_; rintro e w' ⟨rfl, rfl⟩)
      | (go_at_call 29; refine (room_any gO.out).mono ?_; rintro e w' ⟨rfl, rfl⟩; rw [← gr.out])
      | (at_builtin; refine wpList_append_own_at _ rfl _ _ 23 rfl B 5 i0 _ 1 1 Try.underlying23 hinf hz0 hz1 hz2 rfl (by decide) _ _ _ rfl hrow.out a n c (vs xs) rfl glen.out gsrc.out (vs_one _) (by have := gN.out; unfold maxLen; omega) (by have := gN.out; omega) gB.out ?_
         intro v2 w2 hr2 hg2 _ hat2
         have b2 := (hg2.block P gO.out.lt (fun e => gO.out.ne (by rw [← gm.out]; exact e.symm))).trans gO.out.blk
         have k4 := frozen_of_row w2 P 3 _ _ b2
         have k5 := (cell_of_row w2 P 3 _ _ (0, 0) b2).trans (show _ = some (.slice A0 l.length c') from rfl)
         have gE := Lib.hid (grow_ends gO.out gs.out.1 gn.out (by rw [← gm.out]; exact hr2) (by rw [← gm.out]; exact hg2) (by rw [← gm.out]; exact hat2))
         obtain ⟨A2, c2, rfl, _⟩ := ownsRow_shape hr2
         clear hr2 hg2 hat2 b2)
    go_ret
    exact ⟨rfl, gE.out⟩
theorem crash_arg (h : IOwn w B P sz d v l) (i : Int) (hi : i < 0) : Calls Try.prog 17 #[.pointer (some ⟨P, 0, none⟩), .int .i64 i] w fun e w' => e = .returned (.int .i64 2) ∧ w = w' := by
  have c0 := h.c0
  clear h
  go_enter Try.func17, Try.ntmps17
  go_wp2_with (go_at_call 34; refine (valid_any _ _ c0).mono ?_; rintro e w' ⟨rfl, rfl⟩)
  go_ret
  exact ⟨rfl, rfl⟩
/-- How many bytes a crash leaves. -/
def kept (d k n : Nat) : Nat := d + min k (n - d)
theorem kept_le {d k n : Nat} (h : d ≤ n) : d ≤ kept d k n ∧ kept d k n ≤ n := by unfold kept; omega
/-- A row that is cut. -/
theorem cut_row {A : Option Addr} {m c r : Nat} (h : w.ownsRow B 5 1 (.slice A m c) m (vs l)) (hr : r ≤ m) : w.ownsRow B 5 1 (.slice A r c) r (vs (l.take r)) := by
  have hlen : l.length = m := by have := h.1; rw [length_vs] at this; omega
  refine ⟨by rw [length_vs, List.length_take]; omega, ?_⟩
  rcases h.2 with ⟨hv, h0⟩ | ⟨g, cap, cur, hv, hg, hh, hc, hm, hs, ht⟩
  · cases hv
    obtain rfl : r = 0 := by omega
    exact .inl ⟨rfl, rfl⟩
  · injection hv with e1 _ e3
    subst e1 e3
    refine .inr ⟨g, c, cur, rfl, hg, hh, by omega, hm, hs, ?_⟩
    rw [Nat.mul_one] at ht ⊢
    have e := congrArg (List.take r) ht
    rw [List.take_take, Nat.min_eq_left (by omega)] at e
    rw [e]
    simp [vs, List.map_take]
set_option maxHeartbeats 1000000 in
theorem crash_any (h : IOwn w B P sz d v l) (k : Nat) (hk : k < 9223372036854775808) : Calls Try.prog 17 #[.pointer (some ⟨P, 0, none⟩), .int .i64 (k : Nat)] w fun e w' => e = .returned (.int .i64 0) ∧ Left w B P sz (kept d k l.length) v (l.take (kept d k l.length)) w' := by
  obtain ⟨A, c, rfl, _, hc, hcm, _⟩ := owns_sl h.row
  have c0 := h.c0
  have c2 := h.c2
  have c3 := h.c3
  obtain ⟨m, hm⟩ : ∃ m, m = l.length := ⟨_, rfl⟩
  have gm := Lib.hid hm
  have hrow : w.ownsRow B 5 1 (.slice A m c) m (vs l) := by rw [hm]; exact h.row
  rw [← hm] at c3 hc
  have hd : d ≤ m := by have := h.dle; omega
  have hm2 : m ≤ 8192 := by have := h.le; have := h.sz_le; omega
  obtain ⟨u, hu⟩ : ∃ u, u = m - d := ⟨_, rfl⟩
  obtain ⟨r, hr⟩ : ∃ r, r = kept d k m := ⟨_, rfl⟩
  have hrm : r ≤ m := by rw [hr]; exact (kept_le hd).2
  have hdr : d ≤ r := by rw [hr]; exact (kept_le hd).1
  have gq := Lib.hid (show ((d : Int) + min (k : Int) ((m : Int) - (d : Int))).toNat = r by rw [hr]; unfold kept; omega)
  have elen : (l.take r).length = r := by rw [List.length_take]; omega
  have h1 : IOwn (w.setCell ⟨P, 3, none⟩ (.slice A r c)) B P sz d (.slice A r c) (l.take r) :=
    h.store3 rfl (by rw [elen]; exact cut_row hrow hrm) (by omega) (by have := h.le; omega) (fun e => h.ne (by cases A <;> exact e))
  have gE := Lib.hid (show Turn (Foot P (.slice A m c)) (Foot P (.slice A r c)) w (w.setCell ⟨P, 3, none⟩ (.slice A r c)) from by
    refine ⟨(But.refl _ w).setCell (.inl (.inl rfl)) _, fun b hb => .inl ?_⟩
    rcases hb with rfl | hb
    · exact .inl rfl
    · exact .inr (by cases A <;> exact hb))
  have g1 := Lib.hid h1
  have f3 := h.fz 3
  have ge := Lib.hid elen
  have gk := Lib.hid hr
  have i1 : (r : Int) ≤ (c : Int) := by omega
  have i2 : (0 : Int) ≤ (k : Int) := by omega
  have j1 : r ≤ c := by omega
  have hs2 : ∀ w' : World, (Instr.slice 23 (.slice A m c) none (some (.int .i64 (r : Int))) none).run Try.prog w' = .ok (.slice A r c) w' := by
    intro w'
    cases A <;> simp [Instr.slice, run_underlying Try.underlying23, Instr.sliceBounds, Instr.sliceBound, asIntOf, j1, Addr.add]
  clear h hm hrow h1 hu hr elen hd hm2
  go_enter Try.func17, Try.ntmps17
  go_wp2_with first
    | (go_at_call 34; refine (valid_any _ _ c0).mono ?_; rintro e w' ⟨rfl, rfl⟩)
  go_region
  go_wp2_with fail
  go_region
  go_wp2_with fail
  rw [gq.out]
  have g2 : IOwn (w.setCell ⟨P, 3, none⟩ (.slice A r c)).drew.drew B P sz d (.slice A r c) (l.take r) := g1.out.same fun _ _ => rfl
  refine (sync_any g2).mono ?_
  rintro e w' ⟨rfl, g3⟩
  have gF := Lib.hid (show Left w B P sz (kept d k l.length) (.slice A l.length c) (l.take (kept d k l.length)) w' from by
    rw [← gm.out, ← gk.out]
    refine ⟨_, by have := g3.out.1; rwa [ge.out] at this, gE.out.trans ⟨?_, g3.out.2.own⟩⟩
    exact ⟨g3.out.2.but.os, g3.out.2.but.tape, g3.out.2.but.output, g3.out.2.but.size, g3.out.2.but.block⟩)
  clear g2 g3
  go_wp2_with fail
  go_ret
  exact ⟨rfl, gF.out⟩
end
end Go.Proofs.Ytaohlblhfmlpbaa
