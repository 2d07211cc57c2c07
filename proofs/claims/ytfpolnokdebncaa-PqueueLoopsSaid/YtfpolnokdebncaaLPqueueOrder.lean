/- PqueueOrder: the walk. -/
import Derived.Test.YtfpolnokdebncaaCollect
namespace Go.Proofs.Ytfpolnokdebncaa
open Go.RowKit QT
attribute [local go_sem] Oper.semAt_some
theorem infoStr : (Try.prog.info? 9).map (fun i => (i.zero, i.size, i.bytes)) = some (some (.string ⟨#[]⟩), 1, 16) := by kernel_rfl
theorem row_form {W : World} {b e m : Nat} {v : Value} {xs : List Value} (h : W.ownsRow b e 1 v m xs) : ∃ A c, v = .slice A m c := by
  rcases h.2 with ⟨rfl, rfl⟩ | ⟨g, cap, cur, rfl, _⟩
  · exact ⟨_, _, rfl⟩
  · exact ⟨_, _, rfl⟩
theorem below_drewN {B : Nat} {a w : World} (h : Below B a w) (n : Nat) : Below B a (w.drewN n) := h.trans ⟨rfl, rfl, rfl, Nat.le_refl _, fun _ _ => rfl⟩
theorem aside_of {w w1 V : World} {P n Z : Nat} {want : List (Option Nat)} {T : List It} (h : Holding w w1 P n Z want) (hb : Below w1.heap.size w1 V) (hp : T.Perm (itemsFrom 0 want)) : Aside w V V w1.heap.size V.heap.size P n T Z (wishes want) := by
  obtain ⟨v, G, pl, h1, h2, h3, h4, h5, h6, h7⟩ := h.2.2
  exact ⟨v, G, pl, h1.below hb, h2.trans hp.symm, h3.trans (hb.mono h3.size), Ne.symm h5, h6, (hb.block Z (lt_of_heap h4)).trans h4, lt_of_heap h1.qs.blk, lt_of_heap h4, Nat.le_refl _, h7, fun g hg => .inl (h1.qs.row.lt g hg).2, fun _ _ _ => rfl⟩
/-- The id of the last item. -/
def lastOf (l : List It) : Int := match l.getLast? with | some y => (y.1 : Nat) | none => -1
theorem lastOf_snoc (l : List It) (y : It) : lastOf (l ++ [y]) = (y.1 : Nat) := by simp [lastOf]
theorem row_split {V : World} {b e m c : Nat} {A : Option Addr} {xs : List Value} (h : V.ownsRow b e 1 (.slice A m c) m xs) (hm : 0 < m) :
    ∃ g, A = some ⟨g, 0, none⟩ ∧ b ≤ g ∧ g < V.heap.size ∧ ∀ W : World, W.heap[g]? = V.heap[g]? → ∀ j u, xs[j]? = some u → W.cell? ⟨g, j, none⟩ = some u := by
  rcases h.2 with ⟨_, h0⟩ | ⟨g, cap, cur, hv, hb, hh, _, _, _, ht⟩
  · omega
  · obtain ⟨rfl, -⟩ : A = some ⟨g, 0, none⟩ ∧ c = cap := by injection hv with h1 _ h2; exact ⟨h1, h2⟩
    refine ⟨g, rfl, hb, lt_of_heap hh, fun W hW j u hj => ?_⟩
    rw [cell_of_row W g j cur e (0, 0) (hW.trans hh)]
    rw [← ht, List.getElem?_take] at hj
    split at hj
    · simpa using hj
    · cases hj
theorem order_at {pre : List It} {x : It} {t : List It} {y : It} (h : Rising lt ((pre ++ [y]) ++ x :: t)) : ltP x.2 y.2 = false ∧ (y.2 = x.2 → ¬ ((x.1 : Int) ≤ (y.1 : Int))) := by
  have h1 : lt y x = true := (List.pairwise_append.1 h).2.2 y (by simp) x (by simp)
  unfold lt at h1
  refine ⟨?_, fun e => ?_⟩
  · cases h2 : ltP y.2 x.2 with
    | true => exact ltP_asym h2
    | false => rw [h2] at h1; simp at h1; exact h1.1
  · rw [e, ltP_irrefl] at h1
    simp at h1
    omega
set_option maxRecDepth 1000000 in
set_option maxHeartbeats 16000000 in
theorem order_walk (s : Nat) (hs : s < 256) (A : Option Addr) (m cap : Nat) (ts : List Tu) (w : World) (h : TS w A m ts) (hcap : m ≤ cap ∧ cap ≤ 9223372036854775807) :
    Calls Try.prog 5 #[.int .u8 (s : Nat), .slice A m cap] w fun e w' => e = .returned (.bool true) ∧ Below w.heap.size w w' := by
  by_cases hm : 200 < m
  · have hm' : (200 : Int) < (m : Int) := by omega
    go_enter Try.func5, Try.ntmps5
    go_wp2_with (go_at_call 11; refine (works_any _).mono ?_; rintro e w' ⟨rfl, hB⟩)
    go_ret
    exact ⟨rfl, hB⟩
  have hm' : ¬ (200 : Int) < (m : Int) := by omega
  have hq := eq_none58
  have gT := Lib.hid h
  clear h hm
  refine (callsIn_wide (n := 6)).1 ?_
  refine callsIn_of_wp_marks Try.func5 rfl trivial ?_ rfl
  simp only [Try.ntmps5, List.size_toArray, List.length_cons, List.length_nil, Nat.reduceAdd, Nat.reduceSub, Array.replicate_succ, Array.replicate_zero, List.push_toArray, List.append_toArray, List.nil_append, List.cons_append]
  have t1 : Fence.wide.fn 31 := trivial
  have t2 : Fence.wide.fn 32 := trivial
  have t3 : Fence.wide.fn 33 := trivial
  have t4 : Fence.wide.fn 34 := trivial
  have t5 : Fence.wide.fn 35 := trivial
  have t6 : Fence.wide.fn 36 := trivial
  have t7 : Fence.wide.fn 11 := trivial
  gi_wp2_with fail
  refine (callsIn_wide.2 (made_any s hs A m cap ts _ gT.out hcap)).mono ?_
  rintro e w1 ⟨P, Z, n, hn, rfl, gM⟩
  obtain ⟨want, hl, hlt, hby⟩ := gM.out
  have gH := Lib.hid (show Holding w w1 P n Z want from ⟨hl, hlt, hby⟩)
  have hn50 : n ≤ 50 ∧ 1 ≤ n := by omega
  obtain ⟨T, hT, hpT⟩ := rising_of iord _ gH.out.nodup
  have gS := Lib.hid hT
  have gp := Lib.hid hpT
  have hT50 : T.length ≤ 50 := by
    rw [hpT.length_eq, items_len]
    exact Nat.le_trans List.countP_le_length (by rw [hl]; omega)
  clear gM hl hlt hby hn gT hT hpT
  gi_wp2_with fail
  refine (callsIn_wide.2 (h_len gH.out)).mono ?_
  rintro e w2 ⟨rfl, rfl⟩
  gi_wp2_with fail
  refine (callsIn_wide.2 (count_any gH.out hn50.1)).mono ?_
  rintro e w2 ⟨rfl, rfl⟩
  gi_wp2_with fail
  obtain ⟨lo, hlo⟩ : ∃ lo, lo = w1.heap.size := ⟨_, rfl⟩
  have b7 := (((Boxed.new w1 41 (.slice none 0 0)).alloc (.cells #[.slice none 0 0] 62)).alloc (.cells #[.pointer (some ⟨P, 0, none⟩)] 58))
  have b8 := (Boxed.new (w1.alloc (.cells #[.slice none 0 0] 41)) 62 (.slice none 0 0)).alloc (.cells #[.pointer (some ⟨P, 0, none⟩)] 58)
  have bM := Boxed.new ((w1.alloc (.cells #[.slice none 0 0] 41)).alloc (.cells #[.slice none 0 0] 62)) 58 (.pointer (some ⟨P, 0, none⟩))
  have hB4 : Below lo w1 (((w1.alloc (.cells #[.slice none 0 0] 41)).alloc (.cells #[.slice none 0 0] 62)).alloc (.cells #[.pointer (some ⟨P, 0, none⟩)] 58)) := by
    rw [hlo]; exact (((Below.refl _ w1).alloc (Nat.le_refl _) _).alloc (by simp) _).alloc (by simp; omega) _
  have hz4 : (((w1.alloc (.cells #[.slice none 0 0] 41)).alloc (.cells #[.slice none 0 0] 62)).alloc (.cells #[.pointer (some ⟨P, 0, none⟩)] 58)).heap.size = lo + 3 := by simp; omega
  refine (callsIn_wide.2 (all_any _ _)).mono ?_
  rintro e w4 ⟨rfl, hw4⟩
  simp only [World.size_alloc, ← hlo] at b8 bM
  rw [← hlo] at b7
  simp only [World.size_alloc, ← hlo]
  rw [← hw4] at b7 b8 bM hB4 hz4
  clear hw4
  have glo := Lib.hid hlo
  have gz4 := Lib.hid hz4
  have gb7 := Lib.hid b7
  have gb8 := Lib.hid b8
  have gB4 := Lib.hid hB4
  clear hlo hz4 b7 b8 hB4
  gi_wp2_with fail
  have hlo := glo.out
  have hz4 := gz4.out
  have hB4 := gB4.out
  have hseq := all_turns 5 (lo + 1 + 1) P n w w4 _ T bM.cell (gH.out.2.2.has.below (hlo ▸ hB4)) gS.out gp.out
  have q0 : lo ≤ w1.heap.size := by omega
  have q1 : lo ≤ w4.heap.size := by omega
  clear hlo hz4
  refine range_turns (by omega) (gf := 71) (lb := #[.pointer (some ⟨lo + 1 + 1, 0, none⟩)]) rfl (enters_of Try.func71 (by kernel_rfl) rfl) hseq (fun _ => rfl)
    (fun (pre : List It) V => ((∃ v, Boxed V lo 41 v ∧ V.ownsRow lo 3 1 v pre.length (pre.map fun x => Value.int .i64 (x.1 : Nat)) ∧ True) ∧ (∃ v, Boxed V (lo + 1) 62 v ∧ V.ownsRow lo 9 1 v pre.length (pre.map fun x => Value.string x.2) ∧ True)) ∧ Below lo w1 V)
    (fun _ _ _ => False)
    (((abid_row lo _ lo 41 3 1 (fun pre : List It => pre.length) (fun pre : List It => pre.map fun x => Value.int .i64 (x.1 : Nat)) (fun _ _ => True) (by decide) (by decide)).and (abid_row lo _ (lo + 1) 62 9 1 (fun pre : List It => pre.length) (fun pre : List It => pre.map fun x => Value.string x.2) (fun _ _ => True) (by decide) (by decide))).and (abid_below q0 q1))
    (fun _ => abid_false _)
    ⟨⟨⟨_, gb7.out, World.ownsRow_nil _ _ _ _, trivial⟩, ⟨_, gb8.out, World.ownsRow_nil _ _ _ _, trivial⟩⟩, hB4⟩
    ?a1 ?assign ?body ?done ?stop
  case assign =>
    intro l x V K hK
    unfold encs
    gi_wp2
    exact hK
  case stop =>
    rintro D c pre V _ _ h _
    exact h.elim
  case body =>
    rintro l' pre x V ⟨⟨⟨v7, hv7, hr7, _⟩, ⟨v8, hv8, hr8, _⟩⟩, hB⟩ hlt hVs
    obtain ⟨i0, hi, hz0, hz1, hz2⟩ := info_parts infoInt
    obtain ⟨i1, hi1, hz3, hz4', hz5⟩ := info_parts infoStr
    obtain ⟨F7, C7, rfl⟩ := row_form hr7
    obtain ⟨F8, C8, rfl⟩ := row_form hr8
    have c7 := hv7.cell
    have c8 := hv8.cell
    have gv7 := Lib.hid hv7
    have gr7 := Lib.hid hr7
    have gv8 := Lib.hid hv8
    have gr8 := Lib.hid hr8
    have gB := Lib.hid hB
    have hlen : pre.length < 50 := by omega
    have hVl : lo ≤ V.heap.size := by omega
    clear hv7 hr7 hv8 hr8 hB hlt hseq q0 q1 hB4 hVs
    gi_wp2_with (first
      | (gi_at_builtin; refine wpListIn_append_own _ rfl _ _ 41 rfl lo 3 i0 (.int .i64 0) 1 8 Try.underlying41 hi hz0 hz1 hz2 rfl (by decide) _ _ _ rfl (gr7.out.alloc _) ⟨V.heap.size, 0, none⟩ 1 1 [.int .i64 (x.1 : Nat)] rfl rfl (cell_one_new _ _ _) (by simp [Value.oneCell']) (by unfold maxLen; omega) (by omega) (by simp; omega) ?_; intro v'' w10 hown' hgrow _; obtain ⟨g', cap', rfl⟩ := ownsRow_succ hown'; obtain ⟨hv1, hv2, hr2, hk2, hb2⟩ := gv7.out.appended (by decide) gr7.out hVl (Nat.le_refl _) hown' hgrow; have hc1 := hv1.cell; have hf1 := hv1.frozen; have gs1 := Lib.hid (appended_spares (v' := .slice (some ⟨g', 0, none⟩) (pre.length + 1) cap') gv7.out (by decide) (by decide) (by decide) gr7.out hgrow); have gk := Lib.hid hk2; have gb := Lib.hid hb2; have g71 := Lib.hid hv2; have g72 := Lib.hid hr2; have g81 := Lib.hid (box_box (box_beside gv8.out gr7.out (by decide) hgrow) (show lo + 1 ≠ lo by omega) (.slice (some ⟨g', 0, none⟩) (pre.length + 1) cap')); have g82 := Lib.hid (row_box (row_beside gr8.out gr7.out (by decide) hgrow) hv1 (by decide) (.slice (some ⟨g', 0, none⟩) (pre.length + 1) cap')); have c82 := g81.out.cell; have gn := Lib.hid (show ∀ j u, [Value.string x.2][j]? = some u → ((w10.setCell ⟨lo, 0, none⟩ (.slice (some ⟨g', 0, none⟩) (pre.length + 1) cap')).alloc (.cells #[.string x.2] 9)).cell? ((⟨w10.heap.size, 0, none⟩ : Addr).add j) = some u from (by have h := cell_one_new (w10.setCell ⟨lo, 0, none⟩ (.slice (some ⟨g', 0, none⟩) (pre.length + 1) cap')) (.string x.2) 9; rwa [World.size_setCell] at h)); have hW10 : lo ≤ w10.heap.size := (by have h := hb2.size; rw [World.size_setCell] at h; omega); clear hv1 hv2 hr2 hk2 hb2 hown' hgrow)
      | (gi_at_builtin; refine wpListIn_append_own _ rfl _ _ 62 rfl lo 9 i1 (.string ⟨#[]⟩) 1 16 Try.underlying62 hi1 hz3 hz4' hz5 rfl (by decide) _ _ _ rfl (g82.out.alloc _) ⟨w10.heap.size, 0, none⟩ 1 1 [.string x.2] rfl rfl gn.out (by simp [Value.oneCell']) (by unfold maxLen; omega) (by omega) (by simp; omega) ?_; intro v''' w11 hown' hgrow _; obtain ⟨g'', cap'', rfl⟩ := ownsRow_succ hown'; obtain ⟨hv1, hv2, hr2, hk2, hb2⟩ := g81.out.appended (by decide) g82.out (by rw [World.size_setCell]; exact hW10) (Nat.le_succ lo) hown' hgrow; have hc2 := hv1.cell; have hf2 := hv1.frozen; have gs2 := Lib.hid (appended_spares (v' := .slice (some ⟨g'', 0, none⟩) (pre.length + 1) cap'') g81.out (by decide) (by decide) (by decide) g82.out hgrow); have gk2 := Lib.hid hk2; have gb2 := Lib.hid hb2; have h81 := Lib.hid hv2; have h82 := Lib.hid hr2; have h71 := Lib.hid (box_box (box_beside g71.out g82.out (by decide) hgrow) (show lo ≠ lo + 1 by omega) (.slice (some ⟨g'', 0, none⟩) (pre.length + 1) cap'')); have h72 := Lib.hid (row_box (row_beside g72.out g82.out (by decide) hgrow) hv1 (by decide) (.slice (some ⟨g'', 0, none⟩) (pre.length + 1) cap'')); clear hv1 hv2 hr2 hk2 hb2 hown' hgrow))
    exact ⟨⟨(gk.out.trans gk2.out).from _, gs1.out.trans gs2.out⟩, ⟨⟨_, h71.out, by simpa using h72.out, trivial⟩, ⟨_, h81.out, by simpa using h82.out, trivial⟩⟩, gB.out.trans (gb.out.trans gb2.out)⟩
  case done =>
    rintro D ys V hD rfl ⟨⟨⟨v7, hv7, hr7, _⟩, ⟨v8, hv8, hr8, _⟩⟩, hB⟩ hK
    have hbV : Below w1.heap.size w1 V := by rw [← glo.out]; exact hB
    have gV := Lib.hid (gH.out.below hbV)
    have gA := Lib.hid (aside_of gH.out hbV gp.out)
    have hlen := gV.out
    obtain ⟨F7, C7, rfl⟩ := row_form hr7
    obtain ⟨F8, C8, rfl⟩ := row_form hr8
    have c7 := hv7.cell
    rw [← glo.out] at gA
    have gv7 := Lib.hid hv7
    have gr7 := Lib.hid hr7
    have gv8 := Lib.hid hv8
    have gr8 := Lib.hid hr8
    have gK := Lib.hid hK
    have gD := Lib.hid hD
    have el : (itemsFrom 0 want).length = ys.length := gp.out.length_eq.symm
    have gel := Lib.hid el
    clear hv7 hr7 hv8 hr8 hB hseq q0 q1 hB4 hbV hK hD hlen el
    gi_wp2_with fail
    gi_quiet ((gi_at_call 32; exact CallsIn.quiet_of_same (callsIn_wide.2 ((h_len (gV.out.below (below_drewN (Below.refl _ _) _))).mono fun e w' h => ⟨h.1, h.2.symm⟩))))
    rw [gel.out]
    have gB2 := Lib.hid (below_drewN (Below.refl V.heap.size V) nq)
    generalize V.drewN nq = V2 at gB2 ⊢
    gi_wp2_with fail
    have gAV := Lib.hid (gA.out.below gB2.out)
    have gpp := Lib.hid (show (∀ p, some p ∈ want → p < 256) ∧ want.length = n from ⟨gH.out.2.1, gH.out.1⟩)
    have hVlo : lo + 2 ≤ V.heap.size := by
      have := (lt_of_heap (show V.heap[lo + 1]? = _ from gv8.out))
      omega
    clear gA c7
    simp only [bne_self_eq_false]
    gi_loopg [11, 12] ys.length (fun k a b wr => ∃ pre t want', ys = pre ++ t ∧ k = t.length ∧ b = .int .i64 (pre.length : Nat) ∧ a = .int .i64 (lastOf pre) ∧ Hid (Aside w V wr lo V.heap.size P n t Z (wishes want') ∧ t.Perm (itemsFrom 0 want') ∧ want'.length = n ∧ ∀ p, some p ∈ want' → p < 256))
    case atStart => exact ⟨[], ys, want, rfl, rfl, rfl, rfl, gAV.out, gp.out, gpp.out.2, gpp.out.1⟩
    case round =>
      obtain ⟨pre, t, want', he, hk, rfl, rfl, gI⟩ := hrel
      clear gAV gpp
      have c7 : wr.cell? ⟨lo, 0, none⟩ = some (.slice F7 ys.length C7) := Boxed.cell (show Boxed wr lo 41 _ from (gI.out.1.same (Nat.le_refl _) (by omega)).trans gv7.out)
      cases t with
      | nil =>
        rw [List.append_nil] at he
        subst he
        have hpn : (itemsFrom 0 want').length = 0 := by have h := gI.out.2.1.length_eq; simpa using h.symm
        have gcnt := Lib.hid (count_row gI.out.1.row gI.out.2.2.1 hn50.1)
        rw [hpn] at gcnt
        clear hk hpn
        gi_wp2_with fail
        refine (callsIn_wide.2 (has_pop_none gI.out.1.has)).mono ?_
        rintro e w9 ⟨rfl, rfl⟩
        gi_wp2_with fail
        refine (callsIn_wide.2 gcnt.out).mono ?_
        rintro e w9 ⟨rfl, rfl⟩
        gi_wp2_with fail
        refine (callsIn_wide.2 (works_any _)).mono ?_
        rintro e w9 ⟨rfl, hB9⟩
        have gwr := Lib.hid gI.out.1
        have gB9 := Lib.hid hB9
        clear hB9 gI
        gi_wp2_with fail
        have hDV : D < V.heap.size := (Array.getElem?_eq_some_iff.1 gK.out).1
        have hDl : lo ≤ D := by have := gD.out; have := gz4.out; omega
        have hbw := gwr.out.bel
        have hDw : w.heap.size ≤ D := by have := gH.out.2.2.has; obtain ⟨_, _, _, _, _, hb⟩ := this; have := hb.size; have := glo.out; omega
        have gK2 : w9.heap[D]? = some (.deferred (some [])) :=
          (gB9.out.block D (Nat.lt_of_lt_of_le hDV gwr.out.top.1)).trans ((gwr.out.same hDl hDV).trans gK.out)
        have hend : Below w.heap.size w (w9.putObj D (.deferred none)) :=
          (hbw.trans (gB9.out.mono hbw.size)).trans (belowK_b (w := w) (Nat.le_refl _) _ D _ _ hDw gK2 rfl rfl)
        refine ⟨by simp, .inl ⟨_, _, rfl, run_takeDeferred gK2, ?_⟩⟩
        refine ⟨.bool true, ?_, rfl, hend⟩
        clear hend gK2
        simp [results, Try.results5, go_sem]
      | cons x t =>
        have ge := Lib.hid he
        have gk := Lib.hid hk
        have gr := Lib.hid (show Rising lt (x :: t) by have := gS.out; rw [he] at this; exact (List.pairwise_append.1 this).2.1)
        have hlt : (pre.length : Int) < (ys.length : Int) := by rw [he]; simp; omega
        clear he hk
        gi_wp2_with fail
        refine (callsIn_wide.2 (aside_pop gI.out.1 gr.out (List.Perm.refl _))).mono ?_
        rintro e w9 ⟨rfl, g9⟩
        obtain ⟨i, q, hx, hi⟩ := items_get want' 0 x (gI.out.2.1.mem_iff.1 (List.mem_cons_self ..))
        rw [Nat.zero_add] at hx
        subst hx
        have rq : q < 256 := gI.out.2.2.2 q (List.mem_of_getElem? hi)
        have hin : i < n := by have := (List.getElem?_eq_some_iff.1 hi).1; rw [gI.out.2.2.1] at this; exact this
        have hin' : (i : Int) < (n : Int) := by omega
        have hi0 : (0 : Int) ≤ (i : Int) := by omega
        have r0 : (0 : Int) ≤ (q : Int) := by omega
        have r1 : (q : Int) % 256 = (q : Int) := by omega
        have hpos : 0 < ys.length := by omega
        have hk0 : pre.length < ys.length := by omega
        obtain ⟨b7, rfl, hb7, hl7, hg7⟩ := row_split gr7.out hpos
        obtain ⟨b8, rfl, hb8, hl8, hg8⟩ := row_split gr8.out hpos
        have d7 := hg7 w9 (g9.out.same hb7 hl7) pre.length (.int .i64 (i : Nat)) (by rw [ge.out]; simp)
        have d8 := hg8 w9 (g9.out.same hb8 hl8) pre.length (.string (lett q)) (by rw [ge.out]; simp)
        have e7 : w9.cell? ⟨lo, 0, none⟩ = some (.slice (some ⟨b7, 0, none⟩) ys.length C7) := Boxed.cell (show Boxed w9 lo 41 _ from (g9.out.same (Nat.le_refl _) (by omega)).trans gv7.out)
        have e8 : w9.cell? ⟨lo + 1, 0, none⟩ = some (.slice (some ⟨b8, 0, none⟩) ys.length C8) := Boxed.cell (show Boxed w9 (lo + 1) 62 _ from (g9.out.same (Nat.le_succ _) (by omega)).trans gv8.out)
        have eZ : w9.cell? ⟨Z, i, none⟩ = some (.int .i64 (q : Nat)) := (cell_of_row w9 Z i _ _ (0, 0) g9.out.row).trans (by simp [hi, wish])
        have gi' := Lib.hid hi
        have gb7 := Lib.hid (And.intro hb7 hl7)
        have gb8 := Lib.hid (And.intro hb8 hl8)
        have gg7 := Lib.hid hg7
        have gg8 := Lib.hid hg8
        clear hi hb7 hl7 hg7 hb8 hl8 hg8 c7
        gi_wp2_with fail
        refine (callsIn_wide.2 (letter_any q rq _)).mono ?_
        rintro e w10 ⟨rfl, hB10⟩
        have g10 := Lib.hid (g9.out.below hB10)
        have e8' : w10.cell? ⟨lo + 1, 0, none⟩ = some (.slice (some ⟨b8, 0, none⟩) ys.length C8) := Boxed.cell (show Boxed w10 (lo + 1) 62 _ from (g10.out.same (Nat.le_succ _) (by omega)).trans gv8.out)
        have fZ : w10.frozen? ⟨Z, i, none⟩ = false := frozen_of_row w10 Z i _ _ g10.out.row
        have eZ10 : w10.cell? ⟨Z, i, none⟩ = some (.int .i64 (q : Nat)) := (cell_of_row w10 Z i _ _ (0, 0) g10.out.row).trans (by simp [gi'.out, wish])
        have gZ := Lib.hid (aside_set g10.out i (.int .i64 (-1)))
        have hfin : Hid (Aside w V (w10.setCell ⟨Z, i, none⟩ (.int .i64 (-1))) lo V.heap.size P n t Z (wishes (want'.set i none)) ∧ t.Perm (itemsFrom 0 (want'.set i none)) ∧ (want'.set i none).length = n ∧ ∀ p, some p ∈ want'.set i none → p < 256) := by
          refine ⟨?_, ?_, by rw [List.length_set]; exact gI.out.2.2.1, fun p hp => ?_⟩
          · have h := gZ.out
            have e : (wishes (want'.set i none)) = .cells ((want'.map wish).toArray.setIfInBounds i (.int .i64 (-1))) 3 (0, 0) := by
              simp [wishes, wish, List.map_set]
            rw [e]
            exact h
          · have h := gI.out.2.1.trans (items_out q want' 0 i gi'.out)
            rw [Nat.zero_add] at h
            exact h.cons_inv
          · rcases List.mem_or_eq_of_mem_set hp with h | h
            · exact gI.out.2.2.2 p h
            · cases h
        clear hB10 d7 d8 e7 e8 eZ gZ g9 gI
        rcases List.eq_nil_or_concat pre with rfl | ⟨pre', y, hpe⟩
        · gi_wp2_with fail
          go_roundg t.length
          case measure => rw [gk.out]; simp
          case rel => exact ⟨[(i, lett q)], t, want'.set i none, by rw [ge.out]; simp, rfl, by simp, rfl, hfin.out⟩
        · rw [List.concat_eq_append] at hpe
          subst hpe
          have hj : (pre' ++ [y]).length = pre'.length + 1 := by simp
          have ho := order_at (by have h := gS.out; rw [ge.out] at h; exact h)
          have ho1 : Op.bytesLess (lett q).toList y.2.toList = false := ho.1
          have d9 := gg8.out w10 (g10.out.same gb8.out.1 gb8.out.2) pre'.length (.string y.2) (by rw [ge.out]; simp)
          rw [lastOf_snoc]
          rw [hj] at hlt hk0 ⊢
          have hj0 : (0 : Int) < (pre'.length : Int) + 1 := by omega
          have ek : ((pre'.length : Int) + 1) - 1 = pre'.length := by omega
          have hk1 : (pre'.length : Int) < (ys.length : Int) := by omega
          have gho := Lib.hid ho
          clear ho
          by_cases hy : y.2 = lett q
          · have hl := gho.out.2 hy
            rw [hy] at d9
            clear ho1
            gi_wp2_with fail
            go_roundg t.length
            case measure => rw [gk.out]; simp
            case rel => exact ⟨pre' ++ [y] ++ [(i, lett q)], t, want'.set i none, by rw [ge.out]; simp, rfl, by simp; omega, by rw [lastOf_snoc], hfin.out⟩
          · have ho2 : Op.bytesLess y.2.toList (lett q).toList = true := by
              cases h2 : ltP y.2 (lett q) with
              | true => exact h2
              | false => exact absurd (ltP_anti h2 gho.out.1) hy
            have hy2 : ¬ y.2.toList = (lett q).toList := fun e => hy (by rw [ByteArray.toList_eq, ByteArray.toList_eq] at e; exact ByteArray.ext (Array.toList_inj.1 e))
            gi_wp2_with fail
            go_roundg t.length
            case measure => rw [gk.out]; simp
            case rel => exact ⟨pre' ++ [y] ++ [(i, lett q)], t, want'.set i none, by rw [ge.out]; simp, rfl, by simp; omega, by rw [lastOf_snoc], hfin.out⟩
theorem pqueueOrder_walk (a0 : Int) (a1 : Option Addr) (len1 cap1 : Nat) (z1 : List Tu) (w : World) (w0 : (Lit.int .u8 a0).wf = true) (w1 : TS w a1 len1 z1) (c1 : len1 ≤ cap1 ∧ cap1 ≤ 9223372036854775807) :
    Calls Try.prog 5 #[.int .u8 a0, .slice a1 len1 cap1] w fun e w' => e = .returned (.bool true) ∧ Below w.heap.size w w' := by
  obtain ⟨s, rfl, hs⟩ := u8_nat w0
  exact order_walk s hs a1 len1 cap1 z1 w w1 c1
end Go.Proofs.Ytfpolnokdebncaa
