/- elements: what All yields. -/
import Derived.Test.YtidkdidlndfbfaaHICollect
namespace Go.Proofs.Ytidkdidlndfbfaa.HI
open Go.RowKit Go.Shelf
attribute [local go_sem] Oper.semAt_some
set_option maxRecDepth 100000 in
set_option maxHeartbeats 4000000 in
theorem elements_any {w : World} {B P lim mk : Nat} {v : Value} {l : List E} (h : HOwn w B P lim mk v l) (most : Nat) (hmost : l.length ≤ most) :
    Calls Try.prog 26 #[.pointer (some ⟨P, 0, none⟩), .int .i64 (most : Nat)] w fun e w' => ∃ v', e = .returned (.tuple #[v', .bool true]) ∧ Hid (w'.ownsRow w.heap.size 3 1 v' l.length (vs l) ∧ Below w.heap.size w w') := by
  obtain ⟨A, c, rfl, _, _, _, hS, hA, _⟩ := owns_sl h.row
  obtain ⟨i0, hinf, hz0, hz1, hz2⟩ := info_parts infoE
  have hlen : l.length ≤ 100000 := Nat.le_trans h.le h.lim_le
  have gG := Lib.hid (gives_own h)
  have gS := Lib.hid hS
  have hAlt : ∀ b, A = some ⟨b, 0, none⟩ → b < w.heap.size := fun b e => h.foot_lt b (.inr (by rw [e]; rfl))
  have gA := Lib.hid hAlt
  clear h hS hA hAlt
  refine (callsIn_wide (n := 6)).1 ?_
  refine callsIn_of_wp_marks Try.func26 rfl trivial ?_ rfl
  simp only [Try.ntmps26, List.size_toArray, List.length_cons, List.length_nil, Nat.reduceAdd, Nat.reduceSub, Array.replicate_succ, Array.replicate_zero, List.push_toArray, List.append_toArray, List.nil_append, List.cons_append]
  have t1 : Fence.wide.fn 55 := trivial
  gi_wp2_with fail
  refine (callsIn_wide.2 (all_any _ _)).mono ?_
  rintro e w' ⟨rfl, rfl⟩
  gi_wp2_with fail
  obtain ⟨z, hz⟩ : ∃ z, z = w.heap.size := ⟨_, rfl⟩
  obtain ⟨V, hV⟩ : ∃ V, V = ((((w.alloc (.cells #[.int .i64 (most : Nat)] 3)).alloc (.cells #[.slice none 0 0] 48)).alloc (.cells #[.bool false] 4)).alloc (.cells #[.slice none 0 0] 48)).alloc (.cells #[.pointer (some ⟨P, 0, none⟩)] 45) := ⟨_, rfl⟩
  have hVz : V.heap.size = z + 5 := by rw [hV, hz]; simp
  have hwV : Below w.heap.size w V := by rw [hV]; exact (((((Below.refl _ w).alloc (Nat.le_refl _) _).alloc (by simp) _).alloc (by simp; omega) _).alloc (by simp; omega) _).alloc (by simp; omega) _
  have b0 : Boxed V z 3 (.int .i64 (most : Nat)) := by
    rw [hV, hz]
    exact ((((Boxed.new w 3 _).alloc _).alloc _).alloc _).alloc _
  have b1 : Boxed V (z + 1) 48 (.slice none 0 0) := by
    rw [hV, hz]
    have h := (((Boxed.new (w.alloc (.cells #[.int .i64 (most : Nat)] 3)) 48 (.slice none 0 0)).alloc (.cells #[.bool false] 4)).alloc (.cells #[.slice none 0 0] 48)).alloc (.cells #[.pointer (some ⟨P, 0, none⟩)] 45)
    rwa [World.size_alloc] at h
  have b2 : Boxed V (z + 2) 4 (.bool false) := by
    rw [hV, hz]
    have h := ((Boxed.new ((w.alloc (.cells #[.int .i64 (most : Nat)] 3)).alloc (.cells #[.slice none 0 0] 48)) 4 (.bool false)).alloc (.cells #[.slice none 0 0] 48)).alloc (.cells #[.pointer (some ⟨P, 0, none⟩)] 45)
    rwa [World.size_alloc, World.size_alloc] at h
  have b3 : Boxed V (z + 3) 48 (.slice none 0 0) := by
    rw [hV, hz]
    have h := (Boxed.new (((w.alloc (.cells #[.int .i64 (most : Nat)] 3)).alloc (.cells #[.slice none 0 0] 48)).alloc (.cells #[.bool false] 4)) 48 (.slice none 0 0)).alloc (.cells #[.pointer (some ⟨P, 0, none⟩)] 45)
    rwa [World.size_alloc, World.size_alloc, World.size_alloc] at h
  have b4 : Boxed V (z + 4) 45 (.pointer (some ⟨P, 0, none⟩)) := by
    rw [hV, hz]
    have h := Boxed.new ((((w.alloc (.cells #[.int .i64 (most : Nat)] 3)).alloc (.cells #[.slice none 0 0] 48)).alloc (.cells #[.bool false] 4)).alloc (.cells #[.slice none 0 0] 48)) 45 (.pointer (some ⟨P, 0, none⟩))
    rwa [World.size_alloc, World.size_alloc, World.size_alloc, World.size_alloc] at h
  have hseq := all_foot 5 (z + 4) (some ⟨P, 0, none⟩) A c z l V b4.cell (gG.out.below hwV) (gS.out.below hwV) (by rw [hz]; exact gA.out) (by rw [hVz]; omega) hlen
  rw [← hV]
  have gb0 := Lib.hid b0
  have gb1 := Lib.hid b1
  have gb2 := Lib.hid b2
  have gw := Lib.hid hwV
  have gz := Lib.hid hz
  rw [← hz]
  clear hV hwV hz gG gS gA b0 b1 b2 b4
  refine range_foot (by omega) (gf := 65) (lb := #[.pointer (some ⟨z + 4, 0, none⟩)]) rfl (enters_of Try.func65 (by kernel_rfl) rfl) hseq (Below.refl _ _) (by rw [hVz]; omega) (fun _ _ => rfl)
    (fun pre F U => Grows (z + 5) (z + 3) pre F U ∧ But (fun b => b = z + 3) V U)
    (fun _ _ _ _ => False)
    (grows_steady.and (but_steady (Nat.le_refl _)))
    (fun _ _ _ _ _ h _ => h) (Foot (z + 3) (.slice none 0 0)) (fun b hb => by rw [hVz]; rcases hb with rfl | hb; exact ⟨by omega, by omega⟩; simp [Value.ownBlock] at hb) ⟨grows_nil b3 (by rw [hVz]; exact Nat.le_refl _), But.refl _ _⟩
    ?a1 ?assigned ?round ?done ?stop
  case assigned =>
    intro lr pre x U K hK
    unfold encA
    gi_wp2
    exact hK
  case stop =>
    rintro D cc pre F U _ _ _ _ h _
    exact h.elim
  case round =>
    rintro lr pre x F U ⟨⟨v, rfl, hb, hr, hs⟩, hVU⟩ hF hp _
    have hpl : pre.length < l.length := by have := hp.length_le; rw [List.length_append] at this; simp at this; omega
    obtain ⟨A1, c1, rfl, _⟩ := owns_sl hr
    have k3 := hb.cell
    have f3 := hb.frozen
    have k0 := Boxed.cell (show Boxed U z 3 (.int .i64 (most : Nat)) from (hVU.block z (by rw [hVz]; omega) (by omega)).trans gb0.out)
    have gb := Lib.hid hb
    have gr := Lib.hid hr
    have gs := Lib.hid hs
    have gVU := Lib.hid hVU
    have i1 : (pre.length : Int) < (most : Int) := by omega
    have i2 : pre.length < most := by omega
    have e1 : decide ((most : Int) ≤ (pre.length : Int)) = false := by simp; omega
    have e2 : decide (most ≤ pre.length) = false := by simp; omega
    have hl2 : pre.length < 100000 := by omega
    clear hb hr hs hVU hF hp b3 hseq
    gi_wp2_with (gi_at_builtin; refine wpListIn_append_own_at _ rfl _ _ 48 rfl (z + 5) 3 i0 _ 1 8 Try.underlying48 hinf hz0 hz1 hz2 rfl (by decide) _ _ _ rfl (gr.out.alloc _) ⟨U.heap.size, 0, none⟩ 1 1 (vs [x]) rfl rfl (src_box U x) (vs_one _) (by unfold maxLen; omega) (by omega) (by have := gs.out; simp; omega) ?_
                 intro v2 w2 hr2 hg2 _ hat2
                 have gE := Lib.hid (grows_add gb.out gr.out gs.out gVU.out (by rw [hVz]; exact Nat.le_refl _) hr2 hg2 hat2)
                 have hb1 : Boxed w2 (z + 3) 48 _ := (gb.out.alloc _).kept hg2 (gb.out.not_row (by decide) gr.out)
                 have k4 := hb1.cell
                 have f4 := hb1.frozen
                 obtain ⟨g2, cap2, rfl⟩ := ownsRow_succ hr2
                 clear hr2 hg2 hat2 hb1)
    exact ⟨_, gE.out⟩
  case done =>
    rintro D F U hD hFD hF ⟨⟨v, rfl, hb, hr, hs⟩, hVU⟩ hK
    obtain ⟨A1, c1, rfl, _⟩ := owns_sl hr
    have k3 := hb.cell
    have hb1 : Boxed U (z + 1) 48 (.slice none 0 0) := (hVU.block (z + 1) (by rw [hVz]; omega) (by omega)).trans gb1.out
    have hb2 : Boxed U (z + 2) 4 (.bool false) := (hVU.block (z + 2) (by rw [hVz]; omega) (by omega)).trans gb2.out
    have f1 := hb1.frozen
    have k1 := hb1.cell
    have hb3 : Boxed (U.setCell ⟨z + 1, 0, none⟩ (.slice A1 l.length c1)) (z + 2) 4 (.bool false) := (Below.heap_setCell _ _ _ (z + 2) (by simp)).trans hb2
    have f2 := hb3.frozen
    have k2 := hb3.cell
    obtain ⟨U2, hU2⟩ : ∃ U2, U2 = ((U.setCell ⟨z + 1, 0, none⟩ (.slice A1 l.length c1)).setCell ⟨z + 2, 0, none⟩ (.bool true)) := ⟨_, rfl⟩
    have hB2 : But (fun b => b = z + 1 ∨ b = z + 2) U U2 := by rw [hU2]; exact ((But.refl _ U).setCell (.inl (.inl rfl)) _).setCell (.inl (.inr rfl)) _
    have c1' : Boxed U2 (z + 1) 48 (.slice A1 l.length c1) := by rw [hU2]; exact (Below.heap_setCell _ _ _ (z + 1) (by simp)).trans (hb1.set _)
    have c2' : Boxed U2 (z + 2) 4 (.bool true) := by rw [hU2]; exact hb3.set _
    have hK2 : U2.heap[D]? = some (.deferred (some [])) := (hB2.block D (lt_of_heap hK) (by rw [hVz] at hD; omega)).trans hK
    have hB3 : But (fun b => b = z + 1 ∨ b = z + 2 ∨ b = D) U (U2.putObj D (.deferred none)) := (hB2.mono' fun b h => by rcases h with h | h; exact .inl h; exact .inr (.inl h)).trans (but_put U2 D _ (.inr (.inr rfl)))
    have hrow := owns_of_block hr fun g hg => hB3.block g (hr.lt g hg).2 (fun h => by
      have h2 := (hr.lt g hg).1
      rcases h with h | h | h
      · omega
      · omega
      · exact hFD (.inr (h ▸ hg)))
    have gEnd := Lib.hid (show (U2.putObj D (.deferred none)).ownsRow w.heap.size 3 1 (.slice A1 l.length c1) l.length (vs l) ∧ Below w.heap.size w (U2.putObj D (.deferred none)) from by
      refine ⟨owns_le hrow (by have := gz.out; omega), gw.out.trans ?_⟩
      rw [hVz] at hD
      have h1 := gz.out
      exact (hVU.below (by rw [hVz]; omega) (fun b hb => by omega)).trans (hB3.below (by have := hVU.size; omega) (fun b hb => by omega))
      )
    have cF1 := Boxed.cell (show Boxed (U2.putObj D (.deferred none)) (z + 1) 48 (.slice A1 l.length c1) from (World.putObj_heap_other (by rw [hVz] at hD; omega)).trans c1')
    have cF2 := Boxed.cell (show Boxed (U2.putObj D (.deferred none)) (z + 2) 4 (.bool true) from (World.putObj_heap_other (by rw [hVz] at hD; omega)).trans c2')
    have gK2 := Lib.hid hK2
    have gU2 := Lib.hid hU2
    clear hb hr hs hVU hF hFD hD hK hb1 hb2 hb3 hB2 c1' c2' hK2 hB3 hrow hU2 b3 hseq
    gi_wp2_with fail
    rw [← gU2.out]
    refine ⟨by simp, .inl ⟨_, _, rfl, run_takeDeferred gK2.out, ?_⟩⟩
    refine ⟨.tuple #[.slice A1 l.length c1, .bool true], ?_, _, rfl, gEnd.out⟩
    clear gEnd
    simp [results, Try.results26, go_sem, cF1, cF2]
end Go.Proofs.Ytidkdidlndfbfaa.HI
