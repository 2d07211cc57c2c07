/- PqueueLoops: the walk. -/
import Derived.Test.YtfpolnokdebncaaLPqueueOrder
import Derived.StillTailTactics
namespace Go.Proofs.Ytfpolnokdebncaa
open Go.RowKit QT
attribute [local go_sem] Oper.semAt_some
theorem exit_on {F : Fence} {n : Nat} {P : Program} {id : Nat} {Q : Exit → Act → World → Prop} {a : Act} {w : World} (h : Exit.inBlock id Q .normal a w) : (Code.exit id).wpIn F n P (Exit.inBlock id Q) a w := by
  refine wpIn_exit ?_
  simpa [Exit.inBlock] using h
/-- What follows a loop that may end in two ways, said once. -/
theorem two_ways {F : Fence} {n : Nat} {P : Program} {c : Code} {Q : Exit → Act → World → Prop} {a : Act} {w : World} (R : Nat → World → Prop)
    (hR : ∀ D W, R D W → Q .normal { a with defers := { target := .collected D, args := #[] } :: a.defers } W)
    (hL : (∀ D W, R D W → Q .normal { a with defers := { target := .collected D, args := #[] } :: a.defers } W) → c.wpIn F n P Q a w) : c.wpIn F n P Q a w := hL hR
theorem put_beside {w : World} {a b : Nat} {o o' : Obj} (h : w.heap[b]? = some o) (hne : a ≠ b) : (w.putObj a o').heap[b]? = some o := (World.putObj_heap_other hne.symm).trans h
theorem leaves_two {F : Fence} {n : Nat} {P : Program} {fn : Func} {tmps : Array Value} {R : Ending → World → Prop} {w w12 : World} {B D2 D1 : Nat} (h2 : w12.heap[D2]? = some (.deferred (some []))) (h1 : w12.heap[D1]? = some (.deferred (some [])))
    (d12 : D1 < D2) (hb : B ≤ D1) (hw : w.heap.size ≤ B) (hB : Below w.heap.size w w12) (hend : ∀ WF, Below w.heap.size w WF → (∀ k, k < B → WF.heap[k]? = w12.heap[k]?) → LeavesInM F n P fn tmps R [] .returning WF) :
    LeavesInM F n P fn tmps R [{ target := .collected D2, args := #[] }, { target := .collected D1, args := #[] }] .returning w12 := by
  have b2 : Below w.heap.size w12 (w12.putObj D2 (.deferred none)) := belowK_b (w := w) (Nat.le_refl _) _ _ _ _ (by omega) h2 rfl rfl
  have h1' := put_beside (o' := .deferred none) h1 (show D2 ≠ D1 by omega)
  have b1 : Below w.heap.size (w12.putObj D2 (.deferred none)) ((w12.putObj D2 (.deferred none)).putObj D1 (.deferred none)) := belowK_b (w := w) (Nat.le_refl _) _ _ _ _ (by omega) h1' rfl rfl
  refine ⟨by simp, .inl ⟨_, _, rfl, run_takeDeferred h2, ?_⟩⟩
  refine ⟨by simp, .inl ⟨_, _, rfl, run_takeDeferred h1', ?_⟩⟩
  exact hend _ ((hB.trans b2).trans b1) fun k hk => (World.putObj_heap_other (by omega)).trans (World.putObj_heap_other (by omega))
theorem still_tail_at {P : Program} {id : Nat} {Q : Exit → Act → World → Prop} {a : Act} {w : World} {l : List Oper} (n : Nat) (hm : P.follows .mixedOrders = true) (hB : Region.lexTailB .any l.toArray n = true)
    (h : ∀ Wd, Wd = w.drew → wpStill P l.toArray Wd (fun a' => wpList P l.toArray Q (l.drop n) a' Wd) (l.take n) a) : (Code.region id l.toArray true).wp P Q a w :=
  wp_region_still_tail n hm hB (h _ rfl)
theorem has_peek_none {w0 w : World} {P n : Nat} (h : QHas w0 w P n []) : Calls Try.prog 42 #[.pointer (some ⟨P, 0, none⟩)] w fun e w' => e = .returned (.tuple #[.int .i64 0, .string ⟨#[]⟩, .bool false]) ∧ w = w' := by
  obtain ⟨v, pl, hO⟩ := has_none h
  exact peek_none hO.qs
theorem has_peek_at {w0 w : World} {P n : Nat} {S : List It} (h : QHas w0 w P n S) {x : It} {t : List It} (hs : Rising lt (x :: t)) (hp : (x :: t).Perm S) : Calls Try.prog 42 #[.pointer (some ⟨P, 0, none⟩)] w fun e w' => e = .returned (.tuple #[.int .i64 (x.1 : Nat), .string x.2, .bool true]) ∧ Below w.heap.size w w' := by
  obtain ⟨v, G, pl, hO, _, _, hx⟩ := has_first h hs hp
  exact peek_any hO.qs x hx
theorem peek_both {w0 w : World} {P n : Nat} {S ys : List It} (h : QHas w0 w P n S) (hs : Rising lt ys) (hp : ys.Perm S) :
    Calls Try.prog 42 #[.pointer (some ⟨P, 0, none⟩)] w fun e w' => (∃ (iv : Nat) (pv : ByteArray) (b : Bool), e = .returned (.tuple #[.int .i64 (iv : Nat), .string pv, .bool b]) ∧ b = decide ((0 : Int) < (ys.length : Int)) ∧ ∀ x, ys[0]? = some x → iv = x.1) ∧ Below w.heap.size w w' := by
  cases ys with
  | nil =>
    obtain rfl : S = [] := List.nil_perm.1 hp
    refine (has_peek_none h).mono ?_
    rintro e w' ⟨rfl, rfl⟩
    exact ⟨⟨0, ⟨#[]⟩, false, rfl, by simp, fun x hx => by simp at hx⟩, Below.refl _ _⟩
  | cons x t =>
    refine (has_peek_at h hs hp).mono ?_
    rintro e w' ⟨rfl, hB⟩
    exact ⟨⟨x.1, x.2, true, rfl, by simp, fun y hy => by simp at hy; rw [hy]⟩, hB⟩
theorem abid_prop {β : Type} (B : Nat) (p : β → Prop) : Abid B (fun (s : β) _ => p s) := ⟨fun _ _ _ _ h _ _ => h, fun _ _ _ h _ => h⟩
theorem spares_box {U : World} {k : Nat} {t : TypeId} {v : Value} (h : Boxed U k t v) (ht : t ≠ 112 ∧ t ≠ 115) (u : Value) : Spares U (U.setCell ⟨k, 0, none⟩ u) :=
  Spares.of_grownBy (grownBy_setCell' U k u) (fun j ej => by cases ej; exact not_mine_cells h ht)
theorem not_prefix {T pre : List It} {x y : It} (hy : T[pre.length]? = some y) (hne : y ≠ x) : ¬ (pre ++ [x]) <+: T := by
  rintro ⟨r, rfl⟩
  rw [List.append_assoc, List.getElem?_append_right (Nat.le_refl _), Nat.sub_self] at hy
  exact hne (by simpa using hy.symm)
set_option maxRecDepth 1000000 in
set_option maxHeartbeats 16000000 in
theorem loops_walk (s : Nat) (hs : s < 256) (A : Option Addr) (m cap : Nat) (ts : List Tu) (f : Nat) (hf : f < 256) (w : World) (h : TS w A m ts) (hcap : m ≤ cap ∧ cap ≤ 9223372036854775807) :
    Calls Try.prog 8 #[.int .u8 (s : Nat), .slice A m cap, .int .u8 (f : Nat)] w fun e w' => e = .returned (.bool true) ∧ Below w.heap.size w w' := by
  have hq := eq_none58
  have gT := Lib.hid h
  clear h
  refine (callsIn_wide (n := 6)).1 ?_
  refine callsIn_of_wp_marks Try.func8 rfl trivial ?_ rfl
  simp only [Try.ntmps8, List.size_toArray, List.length_cons, List.length_nil, Nat.reduceAdd, Nat.reduceSub, Array.replicate_succ, Array.replicate_zero, List.push_toArray, List.append_toArray, List.nil_append, List.cons_append]
  have t1 : Fence.wide.fn 31 := trivial
  have t2 : Fence.wide.fn 32 := trivial
  have t3 : Fence.wide.fn 33 := trivial
  have t4 : Fence.wide.fn 34 := trivial
  have t5 : Fence.wide.fn 42 := trivial
  have t7 : Fence.wide.fn 11 := trivial
  by_cases hm : 150 < m
  · have hm' : (150 : Int) < (m : Int) := by omega
    gi_wp2_with fail
    refine (callsIn_wide.2 (works_any _)).mono ?_
    rintro e w2 ⟨rfl, hB2⟩
    have hR := (Boxed.new (w.alloc (.cells #[.int .u8 (f : Nat)] 5)) 4 (.bool false))
    rw [World.size_alloc] at hR
    have hRW : Boxed w2 (w.heap.size + 1) 4 (.bool false) := (hB2.block _ (by simp)).trans hR
    have r1 := hRW.cell
    have r2 := hRW.frozen
    have hBw : Below w.heap.size w w2 := (((Below.refl _ w).alloc (Nat.le_refl _) _).alloc (by simp) _).trans (hB2.mono (by simp; omega))
    have gR := Lib.hid (hRW.set (.bool true))
    have gB := Lib.hid hBw
    clear hR hRW hB2 hBw
    gi_wp2_with fail
    have gF := gR.out.cell
    refine ⟨.bool true, ?_, rfl, gB.out.setCell (by simp) _⟩
    simp [results, Try.results8, go_sem, gF]
  have hm' : ¬ (150 : Int) < (m : Int) := by omega
  clear hm
  gi_wp2_with fail
  obtain ⟨W2, hW2⟩ : ∃ W2, W2 = (w.alloc (.cells #[.int .u8 (f : Nat)] 5)).alloc (.cells #[.bool false] 4) := ⟨_, rfl⟩
  have hz2 : W2.heap.size = w.heap.size + 2 := by rw [hW2]; simp
  have hBw : Below w.heap.size w W2 := by rw [hW2]; exact ((Below.refl _ w).alloc (Nat.le_refl _) _).alloc (by simp) _
  have bF : Boxed W2 w.heap.size 5 (.int .u8 (f : Nat)) := by rw [hW2]; exact (Boxed.new w 5 (.int .u8 (f : Nat))).alloc _
  have bR : Boxed W2 (w.heap.size + 1) 4 (.bool false) := by
    rw [hW2]
    have h := Boxed.new (w.alloc (.cells #[.int .u8 (f : Nat)] 5)) 4 (.bool false)
    rwa [World.size_alloc] at h
  rw [← hW2]
  have gbF := Lib.hid bF
  have gbR := Lib.hid bR
  have gz2 := Lib.hid hz2
  have gBw := Lib.hid hBw
  clear hW2 bF bR hz2 hBw
  refine (callsIn_wide.2 (made_any s hs A m cap ts _ (gT.out.below (gBw.out.mono (Nat.le_refl _))) hcap)).mono ?_
  rintro e w1 ⟨P, Z, n, hn, rfl, gM⟩
  obtain ⟨want, hl, hlt, hby⟩ := gM.out
  have gH := Lib.hid (show Holding W2 w1 P n Z want from ⟨hl, hlt, hby⟩)
  have hn50 : n ≤ 50 ∧ 1 ≤ n := by omega
  obtain ⟨T, hT, hpT⟩ := rising_of iord _ gH.out.nodup
  have gS := Lib.hid hT
  have gp := Lib.hid hpT
  have hT50 : T.length ≤ 50 := by
    rw [hpT.length_eq, items_len]
    exact Nat.le_trans List.countP_le_length (by rw [hl]; omega)
  clear gM hl hlt hby hn gT hT hpT
  gi_wp2_with fail
  refine (callsIn_wide.2 (all_any _ _)).mono ?_
  rintro e w4 ⟨rfl, hw4⟩
  obtain ⟨lo, hlo⟩ : ∃ lo, lo = w1.heap.size := ⟨_, rfl⟩
  have hz4 : w4.heap.size = lo + 1 := by rw [hw4, hlo]; simp
  have bM : Boxed w4 lo 58 (.pointer (some ⟨P, 0, none⟩)) := by rw [hw4, hlo]; exact Boxed.new w1 58 _
  have hB4 : Below lo w1 w4 := by rw [hw4, hlo]; exact (Below.refl _ w1).alloc (Nat.le_refl _) _
  rw [← hlo]
  have glo := Lib.hid hlo
  have gz4 := Lib.hid hz4
  have gbM := Lib.hid bM
  have gB4 := Lib.hid hB4
  clear hw4 hlo hz4 bM hB4
  gi_wp2_with fail
  rename_i K1 hK1
  obtain ⟨zF, hzF⟩ : ∃ zF, zF = w4.heap.size := ⟨_, rfl⟩
  obtain ⟨w5, hw5⟩ : ∃ w5, w5 = w4.alloc (.cells #[.slice none 0 0] 41) := ⟨_, rfl⟩
  have bN : Boxed w5 zF 41 (.slice none 0 0) := by rw [hw5, hzF]; exact Boxed.new w4 41 _
  have hB5 : Below zF w4 w5 := by rw [hw5, hzF]; exact (Below.refl _ w4).alloc (Nat.le_refl _) _
  have hz5 : w5.heap.size = zF + 1 := by rw [hw5, hzF]; simp
  rw [← hw5, ← hzF]
  have bM5 : Boxed w5 lo 58 (.pointer (some ⟨P, 0, none⟩)) := (hB5.block _ (by have := gz4.out; omega)).trans gbM.out
  have hB15 : Below w1.heap.size w1 w5 := by have h1 := gB4.out.trans (hB5.mono (by have := gz4.out; omega)); rwa [glo.out] at h1
  have qf : IntKind.i64.wrap (f : Int) = f := IntWalk.i64_in _ ⟨by omega, by omega⟩
  have hL4 : Below W2.heap.size W2 w4 := by
    have h1 := gH.out.2.2.has
    obtain ⟨_, _, _, _, _, h2⟩ := h1
    exact h2.trans (gB4.out.mono (by have := h2.size; have := glo.out; omega))
  have gbF4 := Lib.hid (show Boxed w4 w.heap.size 5 (.int .u8 (f : Nat)) from (hL4.block _ (by have := gz2.out; omega)).trans gbF.out)
  have gbR4 := Lib.hid (show Boxed w4 (w.heap.size + 1) 4 (.bool false) from (hL4.block _ (by have := gz2.out; omega)).trans gbR.out)
  have gL4 := Lib.hid hL4
  have gB5 := Lib.hid hB5
  have gB15 := Lib.hid hB15
  have hwz : w.heap.size + 1 < zF := by have := hL4.size; have := gz2.out; omega
  have hseq := all_turns 5 lo P n W2 w5 _ T bM5.cell (gH.out.2.2.has.below hB15) gS.out gp.out
  have q0 : zF ≤ w4.heap.size := by omega
  have q1 : zF ≤ w5.heap.size := by omega
  have gzF := Lib.hid hzF
  have gz5 := Lib.hid hz5
  clear hw5 hzF hz5 hB5 hB15 hL4
  refine two_ways (fun D V => ∃ L v, L ≤ T.length ∧ Boxed V zF 41 v ∧ V.ownsRow zF 3 1 v L ((T.take L).map fun x => Value.int .i64 (x.1 : Nat)) ∧ Below zF w4 V ∧ zF ≤ D ∧ V.heap[D]? = some (.deferred (some []))) ?rest1 (fun hGo => ?loop1)
  case loop1 =>
    refine range_turns (by omega) (gf := 71) (lb := #[.pointer (some ⟨lo, 0, none⟩)]) rfl (enters_of Try.func71 (by kernel_rfl) rfl) hseq (fun _ => rfl)
      (fun (pre : List It) V => (∃ v, Boxed V zF 41 v ∧ V.ownsRow zF 3 1 v pre.length (pre.map fun x => Value.int .i64 (x.1 : Nat)) ∧ pre.length ≤ f) ∧ Below zF w4 V)
      (fun c (pre : List It) V => (∃ v, Boxed V zF 41 v ∧ V.ownsRow zF 3 1 v f ((pre.take f).map fun x => Value.int .i64 (x.1 : Nat)) ∧ pre.length = f + 1 ∧ c = .exit 0) ∧ Below zF w4 V)
      ((abid_row zF _ zF 41 3 1 (fun pre : List It => pre.length) (fun pre : List It => pre.map fun x => Value.int .i64 (x.1 : Nat)) (fun pre _ => pre.length ≤ f) (by decide) (by decide)).and (abid_below q0 q1))
      (fun c => (abid_row zF _ zF 41 3 1 (fun _ : List It => f) (fun pre : List It => (pre.take f).map fun x => Value.int .i64 (x.1 : Nat)) (fun pre _ => pre.length = f + 1 ∧ c = .exit 0) (by decide) (by decide)).and (abid_below q0 q1))
      ⟨⟨_, bN, World.ownsRow_nil _ _ _ _, Nat.zero_le _⟩, gB5.out⟩
      ?a1 ?assign ?body ?done ?stop
    case assign =>
      intro l x V K hK
      unfold encs
      gi_wp2
      exact hK
    case stop =>
      rintro D c pre V hD hp ⟨⟨v', hv, hrow, he, rfl⟩, hB⟩ hK
      have hle := hp.length_le
      refine exit_on (hGo D V ⟨f, v', by omega, hv, ?_, hB, Nat.le_trans q1 hD, hK⟩)
      obtain ⟨r, rfl⟩ := hp
      rw [List.take_append_of_le_length (by omega)]
      exact hrow
    case done =>
      rintro D ys V hD rfl ⟨⟨v', hv, hrow, he⟩, hB⟩ hK
      exact hGo D V ⟨ys.length, v', Nat.le_refl _, hv, by rw [List.take_length]; exact hrow, hB, Nat.le_trans q1 hD, hK⟩
    case body =>
      rintro l' pre x V ⟨⟨v, hv, hr, hle⟩, hB⟩ hlt hVs
      obtain ⟨i0, hi, hz0, hz1, hz2⟩ := info_parts infoInt
      obtain ⟨F7, C7, rfl⟩ := row_form hr
      have c7 := hv.cell
      have cF := (show Boxed V w.heap.size 5 (.int .u8 (f : Nat)) from (hB.block _ (by omega)).trans gbF4.out).cell
      have gv7 := Lib.hid hv
      have gr7 := Lib.hid hr
      have gB := Lib.hid hB
      have hlen : pre.length < 50 := by omega
      have hVl : zF ≤ V.heap.size := by omega
      clear hv hr hB hlt hseq q0 q1 hVs hGo bM5 bN
      by_cases hst : pre.length = f
      · subst hst
        gi_wp2_with fail
        exact ⟨KeepsFrom.refl _ _, ⟨_, gv7.out, by simpa using gr7.out, by simp, rfl⟩, gB.out⟩
      · have hst' : ¬ ((pre.length : Int) = (f : Int)) := by omega
        have hlt2 : pre.length < f := by omega
        clear hst
        gi_wp2_with (gi_at_builtin; refine wpListIn_append_own _ rfl _ _ 41 rfl zF 3 i0 (.int .i64 0) 1 8 Try.underlying41 hi hz0 hz1 hz2 rfl (by decide) _ _ _ rfl (gr7.out.alloc _) ⟨V.heap.size, 0, none⟩ 1 1 [.int .i64 (x.1 : Nat)] rfl rfl (cell_one_new _ _ _) (by simp [Value.oneCell']) (by unfold maxLen; omega) (by omega) (by simp; omega) ?_; intro v'' w10 hown' hgrow _; obtain ⟨g', cap', rfl⟩ := ownsRow_succ hown'; obtain ⟨hv1, hv2, hr2, hk2, hb2⟩ := gv7.out.appended (by decide) gr7.out hVl (Nat.le_refl _) hown' hgrow; have hc1 := hv1.cell; have hf1 := hv1.frozen; have gs1 := Lib.hid (appended_spares (v' := .slice (some ⟨g', 0, none⟩) (pre.length + 1) cap') gv7.out (by decide) (by decide) (by decide) gr7.out hgrow); have gk := Lib.hid hk2; have gb := Lib.hid hb2; have g71 := Lib.hid hv2; have g72 := Lib.hid hr2; clear hv1 hv2 hr2 hk2 hb2 hown' hgrow)
        exact ⟨⟨gk.out.from _, gs1.out⟩, ⟨_, g71.out, by simpa using g72.out, by simp; omega⟩, gB.out.trans gb.out⟩
  case rest1 =>
    rintro D V ⟨L, v, hL, hv, hr, hB, hD, hK⟩
    obtain ⟨F7, C7, rfl⟩ := row_form hr
    have gv7 := Lib.hid hv
    have gr7 := Lib.hid hr
    have gB := Lib.hid hB
    have gK := Lib.hid hK
    have gD := Lib.hid hD
    clear hv hr hB hK hD hseq q0 q1 bM5 bN
    refine hK1 _ _ ?_
    clear hK1 K1
    gi_wp2_with fail
    rename_i K2 hK2
    obtain ⟨zI, hzI⟩ : ∃ zI, zI = V.heap.size := ⟨_, rfl⟩
    obtain ⟨w6, hw6⟩ : ∃ w6, w6 = V.alloc (.cells #[.int .i64 0] 3) := ⟨_, rfl⟩
    have bI : Boxed w6 zI 3 (.int .i64 ((([] : List It).length : Nat) : Int)) := by rw [hw6, hzI]; exact Boxed.new V 3 _
    have hB6 : Below zI V w6 := by rw [hw6, hzI]; exact (Below.refl _ V).alloc (Nat.le_refl _) _
    have hz6 : w6.heap.size = zI + 1 := by rw [hw6, hzI]; simp
    rw [← hw6, ← hzI]
    have hFI : zF ≤ zI := by have := gB.out.size; have := gzF.out; omega
    have hB46 : Below zF w4 w6 := gB.out.trans (hB6.mono hFI)
    have bM6 : Boxed w6 lo 58 (.pointer (some ⟨P, 0, none⟩)) := (hB46.block _ (by have := gz4.out; have := gzF.out; omega)).trans gbM.out
    have hB16 : Below w1.heap.size w1 w6 := by have h1 := gB4.out.trans (hB46.mono (by have := gz4.out; have := gzF.out; omega)); rwa [glo.out] at h1
    have hseq := all_turns 5 lo P n W2 w6 _ T bM6.cell (gH.out.2.2.has.below hB16) gS.out gp.out
    have q0 : zI ≤ V.heap.size := by omega
    have q1 : zI ≤ w6.heap.size := by omega
    have gbRV := Lib.hid (show Boxed V (w.heap.size + 1) 4 (.bool false) from (gB.out.block _ (by omega)).trans gbR4.out)
    have gHV := Lib.hid (gH.out.below (show Below w1.heap.size w1 V by have h1 := gB4.out.trans (gB.out.mono (by have := gz4.out; have := gzF.out; omega)); rwa [glo.out] at h1))
    have gzI := Lib.hid hzI
    have gB6 := Lib.hid hB6
    have gz6 := Lib.hid hz6
    clear hw6 hzI hz6 hB6 hB46 bM6 hB16
    refine range_turns (by omega) (gf := 71) (lb := #[.pointer (some ⟨lo, 0, none⟩)]) rfl (enters_of Try.func71 (by kernel_rfl) rfl) hseq (fun _ => rfl)
      (fun (pre : List It) U => Boxed U zI 3 (.int .i64 (pre.length : Nat)) ∧ Below zI V U)
      (fun _ (pre : List It) _ => ¬ pre <+: T)
      ((abid_box _ zI 3 (fun pre : List It => .int .i64 (pre.length : Nat)) (by decide)).and (abid_below q0 q1))
      (fun _ => abid_prop _ _)
      ⟨bI, gB6.out⟩
      ?b1 ?assign2 ?body2 ?done2 ?stop2
    case assign2 =>
      intro l x U K hK
      unfold encs
      gi_wp2
      exact hK
    case stop2 =>
      intro D2 c pre U _ hp hn _
      exact absurd hp hn
    case body2 =>
      rintro l' pre x U ⟨hi, hBU⟩ hlt hUs
      have c7 := (show Boxed U zF 41 (.slice F7 L C7) from (hBU.block _ (by have h1 := QT.lt_of_heap (show V.heap[zF]? = _ from gv7.out); have := gzI.out; omega)).trans gv7.out).cell
      have hR : Boxed U (w.heap.size + 1) 4 (.bool false) := (hBU.block _ (by omega)).trans gbRV.out
      have r1 := hR.cell
      have r2 := hR.frozen
      have k1 := hi.cell
      have k2 := hi.frozen
      have gi := Lib.hid hi
      have gBU := Lib.hid hBU
      have hlen : pre.length < 50 := by omega
      clear hi hBU hR hseq q0 q1 hUs bI
      by_cases hk : pre.length < L
      · obtain ⟨b7, rfl, hb7, hl7, hg7⟩ := row_split gr7.out (by omega)
        obtain ⟨y, hy⟩ : ∃ y, T[pre.length]? = some y := ⟨_, List.getElem?_eq_getElem hlt⟩
        have d7 := hg7 U (gBU.out.block _ (by have := gzI.out; omega)) pre.length (.int .i64 (y.1 : Nat)) (by rw [List.getElem?_map, List.getElem?_take, if_pos hk, hy]; rfl)
        have gy := Lib.hid hy
        have hk' : (pre.length : Int) < (L : Int) := by omega
        clear hg7 hy hlt hk
        by_cases e1 : y.1 = x.1
        · have hne : (((y.1 : Nat) : Int) != ((x.1 : Nat) : Int)) = false := by rw [e1]; simp
          rw [e1] at d7
          clear e1
          gi_wp2_with fail
          exact ⟨⟨(KeepsOthers.setCell _ _ _).from _, spares_box gi.out (by decide) _⟩, by simpa using gi.out.set (.int .i64 ((pre.length : Int) + 1)), gBU.out.setCell (Nat.le_refl _) _⟩
        · have e2 : ¬ ((y.1 : Nat) : Int) = ((x.1 : Nat) : Int) := by omega
          have gn := Lib.hid (not_prefix gy.out (fun e => e1 (by rw [e])))
          clear e1
          gi_wp2_with fail
          exact ⟨(KeepsOthers.setCell _ _ _).from _, gn.out⟩
      · have hk' : ¬ ((pre.length : Int) < (L : Int)) := by omega
        clear hk
        gi_wp2_with fail
        exact ⟨⟨(KeepsOthers.setCell _ _ _).from _, spares_box gi.out (by decide) _⟩, by simpa using gi.out.set (.int .i64 ((pre.length : Int) + 1)), gBU.out.setCell (Nat.le_refl _) _⟩
    case done2 =>
      rintro D2 ys U hD2 rfl ⟨hi, hBU⟩ hKU
      refine hK2 _ _ ?_
      clear hK2 K2
      have gi := Lib.hid hi
      have gBU := Lib.hid hBU
      have gKU := Lib.hid hKU
      have gD2 := Lib.hid hD2
      have k1 := hi.cell
      clear hi hBU hKU hD2 hseq q0 q1 bI
      have gHU := Lib.hid (gHV.out.below (show Below V.heap.size V U by have h := gBU.out; rwa [gzI.out] at h))
      have gRU := Lib.hid (show Boxed U (w.heap.size + 1) 4 (.bool false) from (gBU.out.block _ (by omega)).trans gbRV.out)
      have hzFV : zF < zI := by have h1 := QT.lt_of_heap (show V.heap[zF]? = _ from gv7.out); have := gzI.out; omega
      have hDV : D < zI := by have h1 := QT.lt_of_heap gK.out; have := gzI.out; omega
      have gFU := Lib.hid (show Boxed U zF 41 (.slice F7 L C7) from (gBU.out.block _ hzFV).trans gv7.out)
      have gKD := Lib.hid ((gBU.out.block _ hDV).trans gK.out)
      have gDD := Lib.hid (show D < D2 by have := gD2.out; have := gz6.out; omega)
      have gbel := Lib.hid (show Below w.heap.size w U by
        have h1 := gBw.out.trans (gL4.out.mono gBw.out.size)
        exact (h1.trans (gB.out.mono (by omega))).trans (gBU.out.mono (by omega)))
      have el : (itemsFrom 0 want).length = ys.length := gp.out.length_eq.symm
      have gel := Lib.hid el
      clear el k1
      gi_wp2_with fail
      refine (callsIn_wide.2 (peek_both gHU.out.2.2.has gS.out gp.out)).mono ?_
      rintro e w7 ⟨⟨iv, pv, bv, rfl, hbv, hiv⟩, hB7⟩
      obtain ⟨M, hM⟩ : ∃ M, M = ys.length := ⟨_, rfl⟩
      have gM := Lib.hid hM
      have giv := Lib.hid hiv
      have gB7 := Lib.hid hB7
      have gbv := Lib.hid hbv
      clear hB7 hiv hM hbv
      gi_wp2_with fail
      refine wpIn_wide.2 ?_
      by_cases hL0 : L = 0
      · subst hL0
        refine still_tail_at 29 (by kernel_rfl) (by kernel_rfl) fun Ud hUd => ?_
        simp only [List.take_succ_cons, List.take_zero, List.drop_succ_cons, List.drop_zero]
        have hdr : Below U.heap.size U Ud := hUd ▸ (gB7.out.trans ((Below.refl _ w7).drew.mono gB7.out.size))
        have gdr := Lib.hid hdr
        have gHd := Lib.hid (gHU.out.below hdr)
        have gcnt := Lib.hid (show Calls Try.prog 33 #[.slice (some ⟨Z, 0, none⟩) n n] Ud fun e w' => e = .returned (.int .i64 (M : Nat)) ∧ w' = Ud from (count_any gHd.out hn50.1).mono (by
          rintro e w' ⟨rfl, rfl⟩
          rw [gel.out, gM.out]
          exact ⟨rfl, rfl⟩))
        have glen := Lib.hid (show Calls Try.prog 32 #[.pointer (some ⟨P, 0, none⟩)] Ud fun e w' => e = .returned (.int .i64 (M : Nat)) ∧ w' = Ud from (h_len gHd.out).mono (by
          rintro e w' ⟨rfl, rfl⟩
          rw [gel.out, gM.out]
          exact ⟨rfl, rfl⟩))
        have k1 := (show Boxed Ud zI 3 (.int .i64 (M : Nat)) from (gdr.out.block _ (QT.lt_of_heap gi.out)).trans (gM.out ▸ gi.out)).cell
        have c7 := (show Boxed Ud zF 41 (.slice F7 0 C7) from (gdr.out.block _ (QT.lt_of_heap gFU.out)).trans gFU.out).cell
        have hbv := gbv.out
        rw [← gM.out] at hbv
        have hbv' : decide ((0 : Int) < (M : Int)) = bv := hbv.symm
        have hbv2 : decide (0 < M) = bv := by rw [← hbv']; simp
        clear hdr hUd hbv
        repeat still_step
        still_call gcnt.out
        repeat still_step
        still_call glen.out
        repeat still_step
        refine wpStill_nil ?_
        clear c7 k1 hbv' hbv2
        go_wp2_with fail
        refine (works_any _).mono ?_
        rintro e w12 ⟨rfl, hB12⟩
        have gB12 := Lib.hid (gdr.out.trans (hB12.mono gdr.out.size))
        have hRW : Boxed w12 (w.heap.size + 1) 4 (.bool false) := (gB12.out.block _ (QT.lt_of_heap gRU.out)).trans gRU.out
        have r1 := hRW.cell
        have r2 := hRW.frozen
        have gRW := Lib.hid hRW
        clear hRW hB12
        go_wp2_with fail
        gi_wp2_with fail
        have hDne : D ≠ w.heap.size + 1 := by have := gD.out; omega
        have hDne2 : D2 ≠ w.heap.size + 1 := by have := gDD.out; have := gD.out; omega
        have s2 : (w12.setCell ⟨w.heap.size + 1, 0, none⟩ (.bool true)).heap[D2]? = some (.deferred (some [])) := (Below.heap_setCell _ _ _ D2 hDne2).trans ((gB12.out.block _ (QT.lt_of_heap gKU.out)).trans gKU.out)
        have s1 : (w12.setCell ⟨w.heap.size + 1, 0, none⟩ (.bool true)).heap[D]? = some (.deferred (some [])) := (Below.heap_setCell _ _ _ D hDne).trans ((gB12.out.block _ (QT.lt_of_heap gKD.out)).trans gKD.out)
        refine leaves_two (B := zF) s2 s1 gDD.out gD.out (by omega) ((gbel.out.trans (gB12.out.mono gbel.out.size)).setCell (Nat.le_succ _) _) ?_
        intro WF hb hsame
        have gRF := Boxed.cell (show Boxed WF (w.heap.size + 1) 4 (.bool true) from (hsame _ hwz).trans (gRW.out.set _))
        refine ⟨.bool true, ?_, rfl, hb⟩
        clear hb hsame s1 s2
        simp [results, Try.results8, go_sem, gRF]
      · obtain ⟨x, hx⟩ : ∃ x, ys[0]? = some x := ⟨_, List.getElem?_eq_getElem (by omega)⟩
        have hiv := giv.out x hx
        have hL1 : ¬ ((L : Int) = 0) := by omega
        have hL2 : (0 : Int) < (L : Int) := by omega
        obtain ⟨b7, rfl, hb7, hl7, hg7⟩ := row_split gr7.out (by omega)
        refine still_tail_at 29 (by kernel_rfl) (by kernel_rfl) fun Ud hUd => ?_
        simp only [List.take_succ_cons, List.take_zero, List.drop_succ_cons, List.drop_zero]
        have hdr : Below U.heap.size U Ud := hUd ▸ (gB7.out.trans ((Below.refl _ w7).drew.mono gB7.out.size))
        have gdr := Lib.hid hdr
        have gHd := Lib.hid (gHU.out.below hdr)
        have gcnt := Lib.hid (show Calls Try.prog 33 #[.slice (some ⟨Z, 0, none⟩) n n] Ud fun e w' => e = .returned (.int .i64 (M : Nat)) ∧ w' = Ud from (count_any gHd.out hn50.1).mono (by
          rintro e w' ⟨rfl, rfl⟩
          rw [gel.out, gM.out]
          exact ⟨rfl, rfl⟩))
        have glen := Lib.hid (show Calls Try.prog 32 #[.pointer (some ⟨P, 0, none⟩)] Ud fun e w' => e = .returned (.int .i64 (M : Nat)) ∧ w' = Ud from (h_len gHd.out).mono (by
          rintro e w' ⟨rfl, rfl⟩
          rw [gel.out, gM.out]
          exact ⟨rfl, rfl⟩))
        have k1 := (show Boxed Ud zI 3 (.int .i64 (M : Nat)) from (gdr.out.block _ (QT.lt_of_heap gi.out)).trans (gM.out ▸ gi.out)).cell
        have c7 := (show Boxed Ud zF 41 (.slice (some ⟨b7, 0, none⟩) L C7) from (gdr.out.block _ (QT.lt_of_heap gFU.out)).trans gFU.out).cell
        have d7 : Ud.cell? ⟨b7, 0, none⟩ = some (.int .i64 (iv : Nat)) := hg7 Ud ((gdr.out.block _ (by have := gBU.out.size; omega)).trans (gBU.out.block _ (by have := gzI.out; omega))) 0 (.int .i64 (iv : Nat)) (by rw [List.getElem?_map, List.getElem?_take, if_pos (by omega), hx, hiv]; rfl)
        have hbv := gbv.out
        rw [← gM.out] at hbv
        have hbv' : decide ((0 : Int) < (M : Int)) = bv := hbv.symm
        have hbv2 : decide (0 < M) = bv := by rw [← hbv']; simp
        have hLb : decide ((L : Int) = 0) = false := by simpa using hL0
        have hL3 : 0 < L := by omega
        clear hdr hUd hbv hx hiv hg7
        repeat still_step
        still_call gcnt.out
        repeat still_step
        still_call glen.out
        repeat still_step
        refine wpStill_nil ?_
        clear c7 k1 d7 hbv' hbv2 hL0 hL1 hL2 hL3 hLb
        go_wp2_with fail
        refine (works_any _).mono ?_
        rintro e w12 ⟨rfl, hB12⟩
        have gB12 := Lib.hid (gdr.out.trans (hB12.mono gdr.out.size))
        have hRW : Boxed w12 (w.heap.size + 1) 4 (.bool false) := (gB12.out.block _ (QT.lt_of_heap gRU.out)).trans gRU.out
        have r1 := hRW.cell
        have r2 := hRW.frozen
        have gRW := Lib.hid hRW
        clear hRW hB12
        go_wp2_with fail
        gi_wp2_with fail
        have hDne : D ≠ w.heap.size + 1 := by have := gD.out; omega
        have hDne2 : D2 ≠ w.heap.size + 1 := by have := gDD.out; have := gD.out; omega
        have s2 : (w12.setCell ⟨w.heap.size + 1, 0, none⟩ (.bool true)).heap[D2]? = some (.deferred (some [])) := (Below.heap_setCell _ _ _ D2 hDne2).trans ((gB12.out.block _ (QT.lt_of_heap gKU.out)).trans gKU.out)
        have s1 : (w12.setCell ⟨w.heap.size + 1, 0, none⟩ (.bool true)).heap[D]? = some (.deferred (some [])) := (Below.heap_setCell _ _ _ D hDne).trans ((gB12.out.block _ (QT.lt_of_heap gKD.out)).trans gKD.out)
        refine leaves_two (B := zF) s2 s1 gDD.out gD.out (by omega) ((gbel.out.trans (gB12.out.mono gbel.out.size)).setCell (Nat.le_succ _) _) ?_
        intro WF hb hsame
        have gRF := Boxed.cell (show Boxed WF (w.heap.size + 1) 4 (.bool true) from (hsame _ hwz).trans (gRW.out.set _))
        refine ⟨.bool true, ?_, rfl, hb⟩
        clear hb hsame s1 s2
        simp [results, Try.results8, go_sem, gRF]
theorem pqueueLoops_walk (a0 : Int) (a1 : Option Addr) (len1 cap1 : Nat) (z1 : List Tu) (a2 : Int) (w : World) (w0 : (Lit.int .u8 a0).wf = true) (w1 : TS w a1 len1 z1) (c1 : len1 ≤ cap1 ∧ cap1 ≤ 9223372036854775807) (w2 : (Lit.int .u8 a2).wf = true) :
    Calls Try.prog 8 #[.int .u8 a0, .slice a1 len1 cap1, .int .u8 a2] w fun e w' => e = .returned (.bool true) ∧ Below w.heap.size w w' := by
  obtain ⟨s, rfl, hs⟩ := u8_nat w0
  obtain ⟨p, rfl, hp⟩ := u8_nat w2
  exact loops_walk s hs a1 len1 cap1 z1 p hp w w1 c1
end Go.Proofs.Ytfpolnokdebncaa
