/- since, all: what the iterators of a list of strings yield. -/
import Derived.Test.YtidkdidlndfbfaaHSCollect
namespace Go.Proofs.Ytidkdidlndfbfaa.HS
open Go.RowKit Go.Shelf
attribute [local go_sem] Oper.semAt_some
/-- What a pointer to a list shows: elements and mark. -/
def Reads (w : World) (p : Option Addr) (mk : Nat) (l : List E) : Prop := ∃ A c, Gives w p (.slice A l.length c) ∧ Marks w p mk ∧ SL w A l.length l ∧ ∀ b, A = some ⟨b, 0, none⟩ → b < w.heap.size
theorem reads_own {w : World} {B P lim mk : Nat} {v : Value} {l : List E} (h : HOwn w B P lim mk v l) : Reads w (some ⟨P, 0, none⟩) mk l := by
  obtain ⟨A, c, rfl, _, _, _, hS, _⟩ := owns_sl h.row
  exact ⟨A, c, gives_own h, marks_own h, hS, fun b e => h.foot_lt b (.inr (by rw [e]; rfl))⟩
theorem reads_bad {w : World} {p : Option Addr} (h : Bad w p) : Reads w p 0 [] := ⟨none, 0, gives_bad h, marks_bad h, SL.nil _ _, fun _ h => nomatch h⟩
theorem Marks.below {w w' : World} {p : Option Addr} {mk : Nat} (h : Marks w p mk) (hb : Below w.heap.size w w') : Marks w' p mk := fun W hW => h W (hb.trans (hW.mono hb.size))
theorem eql_func1 (g : Nat) (lb : Array Value) (w : World) : (binOp .eql 97 (.func (.func g) #[] lb) .nilFunc).run Try.prog w = .ok (.bool false) w := by
  have h : ∀ d : Nat, (Op.equalIn (d + 1) 97 (.func (.func g) #[] lb) .nilFunc).run Try.prog w = .ok false w := fun d => by
    simp [Op.equalIn, run_underlying Try.underlying97]
  simp only [binOp]
  simp [Op.equal, Op.maxDepth, h 9999]
theorem eql_func2 (g : Nat) (lb : Array Value) (w : World) : (binOp .eql 101 (.func (.func g) #[] lb) .nilFunc).run Try.prog w = .ok (.bool false) w := by
  have h : ∀ d : Nat, (Op.equalIn (d + 1) 101 (.func (.func g) #[] lb) .nilFunc).run Try.prog w = .ok false w := fun d => by
    simp [Op.equalIn, run_underlying Try.underlying101]
  simp only [binOp]
  simp [Op.equal, Op.maxDepth, h 9999]
theorem yields_any (g : Nat) (lb : Array Value) (w : World) : Calls Try.prog 61 #[.func (.func g) #[] lb] w fun e w' => e = .returned (.func (.func g) #[] lb) ∧ w = w' := by
  have hq := eql_func1 g lb
  go_enter Try.func61, Try.ntmps61
  go_wp2
  go_ret
  exact ⟨rfl, rfl⟩
theorem yieldsTwo_any (g : Nat) (lb : Array Value) (w : World) : Calls Try.prog 63 #[.func (.func g) #[] lb] w fun e w' => e = .returned (.func (.func g) #[] lb) ∧ w = w' := by
  have hq := eql_func2 g lb
  go_enter Try.func63, Try.ntmps63
  go_wp2
  go_ret
  exact ⟨rfl, rfl⟩
set_option maxRecDepth 100000 in
set_option maxHeartbeats 4000000 in
theorem since_is {w : World} {p : Option Addr} {mk : Nat} {l : List E} (h : Reads w p mk l) (hlen : l.length ≤ 1000) :
    Calls Try.prog 43 #[.pointer p] w fun e w' => ∃ v', e = .returned v' ∧ Hid (w'.ownsRow w.heap.size 9 1 v' (l.drop mk).length (vs (l.drop mk)) ∧ Below w.heap.size w w') := by
  obtain ⟨A, c, hG, hM, hS, hA⟩ := h
  obtain ⟨i0, hinf, hz0, hz1, hz2⟩ := info_parts infoE
  have gG := Lib.hid hG
  have gM := Lib.hid hM
  have gS := Lib.hid hS
  have gA := Lib.hid hA
  clear hG hM hS hA
  refine (callsIn_wide (n := 6)).1 ?_
  refine callsIn_of_wp_marks Try.func43 rfl trivial ?_ rfl
  simp only [Try.ntmps43, List.size_toArray, List.length_cons, List.length_nil, Nat.reduceAdd, Nat.reduceSub, Array.replicate_succ, Array.replicate_zero, List.push_toArray, List.append_toArray, List.nil_append, List.cons_append]
  have t1 : Fence.wide.fn 62 := trivial
  have t2 : Fence.wide.fn 61 := trivial
  gi_wp2_with fail
  refine (callsIn_wide.2 (since_any _ _)).mono ?_
  rintro e w' ⟨rfl, rfl⟩
  gi_wp2_with fail
  refine (callsIn_wide.2 (yields_any _ _ _)).mono ?_
  rintro e w' ⟨rfl, rfl⟩
  gi_wp2_with fail
  obtain ⟨z, hz⟩ : ∃ z, z = w.heap.size := ⟨_, rfl⟩
  obtain ⟨V, hV⟩ : ∃ V, V = (w.alloc (.cells #[.slice none 0 0] 39)).alloc (.cells #[.pointer p] 24) := ⟨_, rfl⟩
  have hVz : V.heap.size = z + 2 := by rw [hV, hz]; simp
  have hwV : Below w.heap.size w V := by rw [hV]; exact ((Below.refl _ w).alloc (Nat.le_refl _) _).alloc (by simp) _
  have b0 : Boxed V z 39 (.slice none 0 0) := by
    rw [hV, hz]
    exact (Boxed.new w 39 _).alloc _
  have b1 : Boxed V (z + 1) 24 (.pointer p) := by
    rw [hV, hz]
    have h := Boxed.new (w.alloc (.cells #[.slice none 0 0] 39)) 24 (.pointer p)
    rwa [World.size_alloc] at h
  have hseq := since_foot 5 (z + 1) p A c z mk l V b1.cell (gG.out.below hwV) (gM.out.below hwV) (gS.out.below hwV) (by rw [hz]; exact gA.out) (by rw [hVz]; omega) (by omega)
  rw [← hV]
  have gw := Lib.hid hwV
  have gz := Lib.hid hz
  rw [← hz]
  clear hV hwV hz gG gS gA gM b1
  refine range_foot (by omega) (gf := 67) (lb := #[.pointer (some ⟨z + 1, 0, none⟩)]) rfl (enters_of Try.func67 (by kernel_rfl) rfl) hseq (Below.refl _ _) (by rw [hVz]; omega) (fun _ _ => rfl)
    (fun pre F U => Grows (z + 2) z pre F U ∧ But (fun b => b = z) V U)
    (fun _ _ _ _ => False)
    (grows_steady.and (but_steady (Nat.le_refl _)))
    (fun _ _ _ _ _ h _ => h) (Foot z (.slice none 0 0)) (fun b hb => by rw [hVz]; rcases hb with rfl | hb; exact ⟨by omega, by omega⟩; simp [Value.ownBlock] at hb) ⟨grows_nil b0 (by rw [hVz]; exact Nat.le_refl _), But.refl _ _⟩
    ?a1 ?assigned ?round ?done ?stop
  case assigned =>
    intro lr pre x U K hK
    unfold encS
    gi_wp2
    exact hK
  case stop =>
    rintro D cc pre F U _ _ _ _ h _
    exact h.elim
  case round =>
    rintro lr pre x F U ⟨⟨v, rfl, hb, hr, hs⟩, hVU⟩ hF hp _
    have hpl : pre.length < 1000 := by have := hp.length_le; rw [List.length_append, List.length_drop] at this; simp at this; omega
    obtain ⟨A1, c1, rfl, _⟩ := owns_sl hr
    have k3 := hb.cell
    have f3 := hb.frozen
    have gb := Lib.hid hb
    have gr := Lib.hid hr
    have gs := Lib.hid hs
    have gVU := Lib.hid hVU
    have e1 : ((pre.length : Int) == 1000) = false := by simp; omega
    clear hb hr hs hVU hF hp b0 hseq
    gi_wp2_with (gi_at_builtin; refine wpListIn_append_own_at _ rfl _ _ 39 rfl (z + 2) 9 i0 _ 1 16 Try.underlying39 hinf hz0 hz1 hz2 rfl (by decide) _ _ _ rfl (gr.out.alloc _) ⟨U.heap.size, 0, none⟩ 1 1 (vs [x]) rfl rfl (src_box U x) (vs_one _) (by unfold maxLen; omega) (by omega) (by have := gs.out; simp; omega) ?_
                 intro v2 w2 hr2 hg2 _ hat2
                 have gE := Lib.hid (grows_add gb.out gr.out gs.out gVU.out (by rw [hVz]; exact Nat.le_refl _) hr2 hg2 hat2)
                 have hb1 : Boxed w2 z 39 _ := (gb.out.alloc _).kept hg2 (gb.out.not_row (by decide) gr.out)
                 have k4 := hb1.cell
                 have f4 := hb1.frozen
                 obtain ⟨g2, cap2, rfl⟩ := ownsRow_succ hr2
                 clear hr2 hg2 hat2 hb1)
    exact ⟨_, gE.out⟩
  case done =>
    rintro D F U hD hFD hF ⟨⟨v, rfl, hb, hr, hs⟩, hVU⟩ hK
    obtain ⟨A1, c1, rfl, _⟩ := owns_sl hr
    have k3 := hb.cell
    have hB3 : But (fun b => b = D) U (U.putObj D (.deferred none)) := but_put U D _ rfl
    have hrow := owns_of_block hr fun g hg => hB3.block g (hr.lt g hg).2 (fun h => hFD (.inr (h ▸ hg)))
    have gEnd := Lib.hid (show (U.putObj D (.deferred none)).ownsRow w.heap.size 9 1 (.slice A1 (l.drop mk).length c1) (l.drop mk).length (vs (l.drop mk)) ∧ Below w.heap.size w (U.putObj D (.deferred none)) from by
      refine ⟨owns_le hrow (by have := gz.out; omega), gw.out.trans ?_⟩
      rw [hVz] at hD
      have h1 := gz.out
      exact (hVU.below (by rw [hVz]; omega) (fun b hb => by omega)).trans (hB3.below (by have := hVU.size; omega) (fun b hb => by omega)))
    have gK2 := Lib.hid hK
    obtain ⟨nn, hnn⟩ : ∃ nn, nn = (l.drop mk).length := ⟨_, rfl⟩
    rw [← hnn] at k3
    have gnn := Lib.hid hnn
    clear hb hr hs hVU hF hFD hD hK hB3 hrow b0 hseq hnn
    gi_wp2_with fail
    refine ⟨by simp, .inl ⟨_, _, rfl, run_takeDeferred gK2.out, ?_⟩⟩
    refine ⟨_, results_tmp rfl _ _ _, _, rfl, ?_⟩
    have := gnn.out
    subst this
    exact gEnd.out
set_option maxRecDepth 100000 in
set_option maxHeartbeats 4000000 in
theorem all_is {w : World} {p : Option Addr} {mk : Nat} {l : List E} (h : Reads w p mk l) (hlen : l.length ≤ 1000) :
    Calls Try.prog 49 #[.pointer p] w fun e w' => ∃ v', e = .returned (.tuple #[v', .bool true]) ∧ Hid (w'.ownsRow w.heap.size 9 1 v' l.length (vs l) ∧ Below w.heap.size w w') := by
  obtain ⟨A, c, hG, _, hS, hA⟩ := h
  obtain ⟨i0, hinf, hz0, hz1, hz2⟩ := info_parts infoE
  have gG := Lib.hid hG
  have gS := Lib.hid hS
  have gA := Lib.hid hA
  clear hG hS hA
  refine (callsIn_wide (n := 6)).1 ?_
  refine callsIn_of_wp_marks Try.func49 rfl trivial ?_ rfl
  simp only [Try.ntmps49, List.size_toArray, List.length_cons, List.length_nil, Nat.reduceAdd, Nat.reduceSub, Array.replicate_succ, Array.replicate_zero, List.push_toArray, List.append_toArray, List.nil_append, List.cons_append]
  have t1 : Fence.wide.fn 64 := trivial
  have t2 : Fence.wide.fn 63 := trivial
  gi_wp2_with fail
  refine (callsIn_wide.2 (all_any _ _)).mono ?_
  rintro e w' ⟨rfl, rfl⟩
  gi_wp2_with fail
  refine (callsIn_wide.2 (yieldsTwo_any _ _ _)).mono ?_
  rintro e w' ⟨rfl, rfl⟩
  gi_wp2_with fail
  obtain ⟨z, hz⟩ : ∃ z, z = w.heap.size := ⟨_, rfl⟩
  obtain ⟨V, hV⟩ : ∃ V, V = (((w.alloc (.cells #[.slice none 0 0] 39)).alloc (.cells #[.bool false] 4)).alloc (.cells #[.slice none 0 0] 39)).alloc (.cells #[.pointer p] 24) := ⟨_, rfl⟩
  have hVz : V.heap.size = z + 4 := by rw [hV, hz]; simp
  have hwV : Below w.heap.size w V := by rw [hV]; exact ((((Below.refl _ w).alloc (Nat.le_refl _) _).alloc (by simp) _).alloc (by simp; omega) _).alloc (by simp; omega) _
  have b0 : Boxed V z 39 (.slice none 0 0) := by
    rw [hV, hz]
    exact (((Boxed.new w 39 _).alloc _).alloc _).alloc _
  have b1 : Boxed V (z + 1) 4 (.bool false) := by
    rw [hV, hz]
    have h := ((Boxed.new (w.alloc (.cells #[.slice none 0 0] 39)) 4 (.bool false)).alloc (.cells #[.slice none 0 0] 39)).alloc (.cells #[.pointer p] 24)
    rwa [World.size_alloc] at h
  have b3 : Boxed V (z + 2) 39 (.slice none 0 0) := by
    rw [hV, hz]
    have h := (Boxed.new ((w.alloc (.cells #[.slice none 0 0] 39)).alloc (.cells #[.bool false] 4)) 39 (.slice none 0 0)).alloc (.cells #[.pointer p] 24)
    rwa [World.size_alloc, World.size_alloc] at h
  have b4 : Boxed V (z + 3) 24 (.pointer p) := by
    rw [hV, hz]
    have h := Boxed.new (((w.alloc (.cells #[.slice none 0 0] 39)).alloc (.cells #[.bool false] 4)).alloc (.cells #[.slice none 0 0] 39)) 24 (.pointer p)
    rwa [World.size_alloc, World.size_alloc, World.size_alloc] at h
  have hseq := all_foot 5 (z + 3) p A c z l V b4.cell (gG.out.below hwV) (gS.out.below hwV) (by rw [hz]; exact gA.out) (by rw [hVz]; omega) (by omega)
  rw [← hV]
  have gb1 := Lib.hid b0
  have gb2 := Lib.hid b1
  have gw := Lib.hid hwV
  have gz := Lib.hid hz
  rw [← hz]
  clear hV hwV hz gG gS gA b0 b1 b4
  refine range_foot (by omega) (gf := 69) (lb := #[.pointer (some ⟨z + 3, 0, none⟩)]) rfl (enters_of Try.func69 (by kernel_rfl) rfl) hseq (Below.refl _ _) (by rw [hVz]; omega) (fun _ _ => rfl)
    (fun pre F U => Grows (z + 4) (z + 2) pre F U ∧ But (fun b => b = z + 2) V U)
    (fun _ _ _ _ => False)
    (grows_steady.and (but_steady (Nat.le_refl _)))
    (fun _ _ _ _ _ h _ => h) (Foot (z + 2) (.slice none 0 0)) (fun b hb => by rw [hVz]; rcases hb with rfl | hb; exact ⟨by omega, by omega⟩; simp [Value.ownBlock] at hb) ⟨grows_nil b3 (by rw [hVz]; exact Nat.le_refl _), But.refl _ _⟩
    ?a1 ?assigned ?round ?done ?stop
  case assigned =>
    intro lr pre x U K hK
    unfold encA
    gi_wp2
    exact hK
  case stop =>
    rintro D cc pre F U _ _ _ _ h _
    exact h.elim
  case round =>
    rintro lr pre x F U ⟨⟨v, rfl, hb, hr, hs⟩, hVU⟩ hF hp _
    have hpl : pre.length < 1000 := by have := hp.length_le; rw [List.length_append] at this; simp at this; omega
    obtain ⟨A1, c1, rfl, _⟩ := owns_sl hr
    have k3 := hb.cell
    have f3 := hb.frozen
    have gb := Lib.hid hb
    have gr := Lib.hid hr
    have gs := Lib.hid hs
    have gVU := Lib.hid hVU
    have e1 : ((pre.length : Int) == 1000) = false := by simp; omega
    clear hb hr hs hVU hF hp b3 hseq
    gi_wp2_with (gi_at_builtin; refine wpListIn_append_own_at _ rfl _ _ 39 rfl (z + 4) 9 i0 _ 1 16 Try.underlying39 hinf hz0 hz1 hz2 rfl (by decide) _ _ _ rfl (gr.out.alloc _) ⟨U.heap.size, 0, none⟩ 1 1 (vs [x]) rfl rfl (src_box U x) (vs_one _) (by unfold maxLen; omega) (by omega) (by have := gs.out; simp; omega) ?_
                 intro v2 w2 hr2 hg2 _ hat2
                 have gE := Lib.hid (grows_add gb.out gr.out gs.out gVU.out (by rw [hVz]; exact Nat.le_refl _) hr2 hg2 hat2)
                 have hb1 : Boxed w2 (z + 2) 39 _ := (gb.out.alloc _).kept hg2 (gb.out.not_row (by decide) gr.out)
                 have k4 := hb1.cell
                 have f4 := hb1.frozen
                 obtain ⟨g2, cap2, rfl⟩ := ownsRow_succ hr2
                 clear hr2 hg2 hat2 hb1)
    exact ⟨_, gE.out⟩
  case done =>
    rintro D F U hD hFD hF ⟨⟨v, rfl, hb, hr, hs⟩, hVU⟩ hK
    obtain ⟨A1, c1, rfl, _⟩ := owns_sl hr
    have k3 := hb.cell
    have hb1 : Boxed U z 39 (.slice none 0 0) := (hVU.block z (by rw [hVz]; omega) (by omega)).trans gb1.out
    have hb2 : Boxed U (z + 1) 4 (.bool false) := (hVU.block (z + 1) (by rw [hVz]; omega) (by omega)).trans gb2.out
    have f1 := hb1.frozen
    have k1 := hb1.cell
    have hb3 : Boxed (U.setCell ⟨z, 0, none⟩ (.slice A1 l.length c1)) (z + 1) 4 (.bool false) := (Below.heap_setCell _ _ _ (z + 1) (by simp)).trans hb2
    have f2 := hb3.frozen
    have k2 := hb3.cell
    obtain ⟨U2, hU2⟩ : ∃ U2, U2 = ((U.setCell ⟨z, 0, none⟩ (.slice A1 l.length c1)).setCell ⟨z + 1, 0, none⟩ (.bool true)) := ⟨_, rfl⟩
    have hB2 : But (fun b => b = z ∨ b = z + 1) U U2 := by rw [hU2]; exact ((But.refl _ U).setCell (.inl (.inl rfl)) _).setCell (.inl (.inr rfl)) _
    have c1' : Boxed U2 z 39 (.slice A1 l.length c1) := by rw [hU2]; exact (Below.heap_setCell _ _ _ z (by simp)).trans (hb1.set _)
    have c2' : Boxed U2 (z + 1) 4 (.bool true) := by rw [hU2]; exact hb3.set _
    have hK2 : U2.heap[D]? = some (.deferred (some [])) := (hB2.block D (lt_of_heap hK) (by rw [hVz] at hD; omega)).trans hK
    have hB3 : But (fun b => b = z ∨ b = z + 1 ∨ b = D) U (U2.putObj D (.deferred none)) := (hB2.mono' fun b h => by rcases h with h | h; exact .inl h; exact .inr (.inl h)).trans (but_put U2 D _ (.inr (.inr rfl)))
    have hrow := owns_of_block hr fun g hg => hB3.block g (hr.lt g hg).2 (fun h => by
      have h2 := (hr.lt g hg).1
      rcases h with h | h | h
      · omega
      · omega
      · exact hFD (.inr (h ▸ hg)))
    have gEnd := Lib.hid (show (U2.putObj D (.deferred none)).ownsRow w.heap.size 9 1 (.slice A1 l.length c1) l.length (vs l) ∧ Below w.heap.size w (U2.putObj D (.deferred none)) from by
      refine ⟨owns_le hrow (by have := gz.out; omega), gw.out.trans ?_⟩
      rw [hVz] at hD
      have h1 := gz.out
      exact (hVU.below (by rw [hVz]; omega) (fun b hb => by omega)).trans (hB3.below (by have := hVU.size; omega) (fun b hb => by omega)))
    have cF1 := Boxed.cell (show Boxed (U2.putObj D (.deferred none)) z 39 (.slice A1 l.length c1) from (World.putObj_heap_other (by rw [hVz] at hD; omega)).trans c1')
    have cF2 := Boxed.cell (show Boxed (U2.putObj D (.deferred none)) (z + 1) 4 (.bool true) from (World.putObj_heap_other (by rw [hVz] at hD; omega)).trans c2')
    have gK2 := Lib.hid hK2
    have gU2 := Lib.hid hU2
    clear hb hr hs hVU hF hFD hD hK hb1 hb2 hb3 hB2 c1' c2' hK2 hB3 hrow hU2 b3 hseq
    gi_wp2_with fail
    rw [← gU2.out]
    refine ⟨by simp, .inl ⟨_, _, rfl, run_takeDeferred gK2.out, ?_⟩⟩
    refine ⟨.tuple #[.slice A1 l.length c1, .bool true], ?_, _, rfl, gEnd.out⟩
    clear gEnd
    simp [results, Try.results49, go_sem, cF1, cF2]
end Go.Proofs.Ytidkdidlndfbfaa.HS
