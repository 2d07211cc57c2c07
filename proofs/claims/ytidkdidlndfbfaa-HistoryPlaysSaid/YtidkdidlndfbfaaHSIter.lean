/- The iterators: All, Since. -/
import Derived.Test.YtidkdidlndfbfaaHSList
import Derived.Test.YtidkdidlndfbfaaFull
import Derived.Shelf.RegionOpen
import Derived.OwnWalkIn
import Derived.TacticsInMore
import Derived.LoopNIn
import Derived.LoopIn
import Derived.WalkHide
namespace Go.Proofs.Ytidkdidlndfbfaa.HS
open Go.RowKit Go.Shelf
attribute [local go_sem] Oper.semAt_some

theorem room_of_none {F : Fence} (hd : F.depth = none) (k : Nat) : F.room k := fun d h => by rw [hd] at h; cases h
theorem yield_any {m : Nat} (m' : Nat) {P : Program} {l : Nat} {args : Array Value} {W : World} {R : Ending → World → Prop} (h : YieldAt Fence.wide m P l args W R) : YieldAt Fence.wide m' P l args W R := by
  obtain ⟨fn, tmps, assign, body, hy, hR⟩ := h
  exact ⟨fn, tmps, assign, body, hy, ⟨hR.1, fun c cs _ => hR.2 c cs (room_of_none rfl _)⟩⟩
def encA (pre : List E) (x : E) : Array Value := #[.int .i64 (pre.length : Nat), (.string (x))]
def encS (_ : List E) (x : E) : Array Value := #[(.string (x))]
theorem take_snoc {l : List E} {k : Nat} {x : E} (h : l[k]? = some x) : l.take k ++ [x] = l.take (k + 1) := by
  rw [List.take_add_one, h]
  rfl
theorem all_any (p : Option Addr) (w : World) : Calls Try.prog 64 #[.pointer p] w fun e w' => e = .returned (.func (.func 69) #[] #[.pointer (some ⟨w.heap.size, 0, none⟩)]) ∧ w' = w.alloc (.cells #[.pointer p] 24) := by
  go_enter Try.func64, Try.ntmps64
  go_wp2
  go_ret
  exact ⟨rfl, rfl⟩
theorem since_any (p : Option Addr) (w : World) : Calls Try.prog 62 #[.pointer p] w fun e w' => e = .returned (.func (.func 67) #[] #[.pointer (some ⟨w.heap.size, 0, none⟩)]) ∧ w' = w.alloc (.cells #[.pointer p] 24) := by
  go_enter Try.func62, Try.ntmps62
  go_wp2
  go_ret
  exact ⟨rfl, rfl⟩
/-- What held gives: the elements of a valid list, or none. -/
def Gives (w : World) (p : Option Addr) (v : Value) : Prop := ∀ W, Below w.heap.size w W → Calls Try.prog 60 #[.pointer p] W fun e W' => e = .returned v ∧ W = W'
theorem gives_own {w : World} {B P lim mk : Nat} {v : Value} {l : List E} (h : HOwn w B P lim mk v l) : Gives w (some ⟨P, 0, none⟩) v := fun _ hb => held_any (h.below hb)
theorem gives_bad {w : World} {p : Option Addr} (h : Bad w p) : Gives w p (.slice none 0 0) := fun W hb => held_bad p W (h.below hb)
/-- How a walk over l ends. -/
def Walked (l : List E) (J Jx : List E → (Nat → Prop) → World → Prop) (e : Ending) (W' : World) : Prop := (∃ v, e = .returned v) ∧ ∃ F, (J l F W' ∨ ∃ pre, pre <+: l ∧ Jx pre F W')
set_option maxRecDepth 100000 in
set_option maxHeartbeats 2000000 in
/-- All's iterator: the elements in their order. -/
theorem all_foot (n Bm : Nat) (p A : Option Addr) (c n₀ : Nat) (l : List E) (w : World) (hm : w.cell? ⟨Bm, 0, none⟩ = some (.pointer p)) (hG : Gives w p (.slice A l.length c)) (hS : SL w A l.length l) (hA : ∀ b, A = some ⟨b, 0, none⟩ → b < n₀) (hn₀ : n₀ ≤ w.heap.size) (hlen : l.length ≤ 100000) :
    SeqFoot n 69 #[.pointer (some ⟨Bm, 0, none⟩)] encA n₀ l w := by
  intro lp J Jx W F₀ hb hF _ _ hY h0
  show CallsIn Fence.wide n Try.prog 69 #[.func (.yield lp) #[] #[], .pointer (some ⟨Bm, 0, none⟩)] W (Walked l J Jx)
  have hm2 := (hb.cell (lt_of_cell hm)).trans hm
  have gG := Lib.hid (hG W hb)
  have gS := Lib.hid (hS.below hb)
  have gY := Lib.hid hY
  have g0 := Lib.hid h0
  have gF := Lib.hid hF
  have hW := Nat.le_trans hn₀ hb.size
  obtain ⟨m, hmm⟩ : ∃ m, m = l.length := ⟨_, rfl⟩
  have gm := Lib.hid hmm
  rw [← hmm] at gG gS hlen
  have t1 : Fence.wide.fn 60 := trivial
  clear hm hG hS hY h0 hb hmm hF
  refine callsIn_of_wp Try.func69 rfl trivial ?_ rfl
  simp only [Try.ntmps69, List.size_toArray, List.length_cons, List.length_nil, Nat.reduceAdd, Nat.reduceSub, Array.replicate_succ, Array.replicate_zero, List.push_toArray, List.append_toArray, List.nil_append, List.cons_append]
  gi_wp2_with fail
  refine ⟨(fun h => by cases h), (callsIn_wide.2 gG.out).mono ?_⟩
  rintro e w' ⟨rfl, rfl⟩
  gi_wp2_with fail
  gi_loopw [8] (fun i wr => ∃ k : Nat, k ≤ m ∧ i = .int .i64 (k : Nat) ∧ Hid (∃ F, J (l.take k) F wr ∧ Below n₀ W wr ∧ W.heap.size ≤ wr.heap.size ∧ ∀ b, F b → n₀ ≤ b))
    (fun i _ => m - (intOf i).toNat)
  case atStart => exact ⟨0, Nat.zero_le _, rfl, _, by simpa using g0.out, Below.refl _ _, Nat.le_refl _, fun b hb => (gF.out b hb).1⟩
  case round =>
    obtain ⟨k, hk, rfl, gR⟩ := hrel
    by_cases hlt : k < m
    · obtain ⟨b, x, rfl, hx, hc⟩ := gS.out.at hlt
      obtain ⟨F, r1, r2, r3, r4⟩ := gR.out
      have hc1 := (r2.cell (p := ⟨b, k, none⟩) (hA b rfl)).trans hc
      unfold ev at hc1
      have hpx : l.take k ++ [x] <+: l := by rw [take_snoc hx]; exact List.take_prefix _ _
      obtain ⟨fn, tmps, assign, body, hy, hR⟩ := yield_any (n - 1) (gY.out _ x _ _ r1 hpx r3)
      have hkl : (l.take k).length = k := by rw [List.length_take, ← gm.out]; omega
      unfold encA at hy
      rw [hkl] at hy
      rw [take_snoc hx] at hR
      have gRR := Lib.hid hR
      have q2 := Lib.hid r2
      have q4 := Lib.hid r4
      clear hc hpx hx hkl hR r1 r2 r4
      gi_wp2_with fail
      refine ⟨fun h => (by cases h), gRR.out.mono ?_⟩
      rintro e W3 ⟨F3, hT3, ⟨rfl, hJ3⟩ | ⟨rfl, hJx3⟩⟩
      · have hb3 := hT3.below (Nat.le_trans hW r3) q4.out
        have g3 := Lib.hid (show ∃ F, J (l.take (k + 1)) F W3 ∧ Below n₀ W W3 ∧ W.heap.size ≤ W3.heap.size ∧ ∀ b, F b → n₀ ≤ b from ⟨F3, hJ3, q2.out.trans hb3.1, Nat.le_trans r3 hb3.1.size, hb3.2⟩)
        clear hJ3 hb3 hT3
        gi_wp2_with fail
        go_roundw
        case rel => exact ⟨k + 1, by omega, by simp, g3.out⟩
        case measure => simp [intOf]; omega
      · have g3 := Lib.hid (show ∃ F, (J l F W3 ∨ ∃ pre, pre <+: l ∧ Jx pre F W3) from ⟨F3, .inr ⟨_, List.take_prefix _ _, hJx3⟩⟩)
        clear hJx3 hT3
        gi_wp2_with fail
        refine bodyPost_ret (results_none rfl _ _ _) rfl ?_
        exact ⟨⟨_, rfl⟩, g3.out⟩
    · obtain rfl : k = m := by omega
      have g3 := Lib.hid (show ∃ F, (J l F wr ∨ ∃ pre, pre <+: l ∧ Jx pre F wr) from by
        obtain ⟨F, h, _⟩ := gR.out
        exact ⟨F, .inl (by rwa [gm.out, List.take_length] at h)⟩)
      gi_wp2_with fail
      go_end0
      exact ⟨⟨_, rfl⟩, g3.out⟩
/-- What Marked gives. -/
def Marks (w : World) (p : Option Addr) (mk : Nat) : Prop := ∀ W, Below w.heap.size w W → Calls Try.prog 40 #[.pointer p] W fun e W' => e = .returned (.int .i64 (mk : Nat)) ∧ W = W'
theorem marks_own {w : World} {B P lim mk : Nat} {v : Value} {l : List E} (h : HOwn w B P lim mk v l) : Marks w (some ⟨P, 0, none⟩) mk := fun _ hb => marked_any (h.below hb)
theorem marks_bad {w : World} {p : Option Addr} (h : Bad w p) : Marks w p 0 := fun W hb => marked_bad p W (h.below hb)
theorem Gives.below {w w' : World} {p : Option Addr} {v : Value} (h : Gives w p v) (hb : Below w.heap.size w w') : Gives w' p v := fun W hW => h W (hb.trans (hW.mono hb.size))
theorem boxed_steady {β : Type} {B k : Nat} {t : TypeId} (f : β → Value) (h : k < B) : Steady B (fun s _ W => Boxed W k t (f s)) := fun _ _ _ _ hs hc => (hc.block k (lt_of_heap hs) (fun h2 => by have := h2.1; omega)).trans hs
theorem below_steady {β : Type} {B n₀ : Nat} {w : World} (hn : n₀ ≤ B) (hs : B ≤ w.heap.size) : Steady B (fun (_ : β) _ W => Below n₀ w W) := fun _ _ _ _ h hc => h.trans (hc.below (Nat.le_trans hn (Nat.le_trans hs h.size)) (fun _ hb => Nat.le_trans hn hb.1))
/-- Since's inner loop: what stands of the outer one. -/
def Inner (mk z : Nat) (J : List E → (Nat → Prop) → World → Prop) (pre : List E) (F : Nat → Prop) (V : World) : Prop := J (pre.drop mk) F V ∧ (∀ b, F b → b < z ∨ z + 3 ≤ b)
theorem inner_steady {mk z : Nat} {J : List E → (Nat → Prop) → World → Prop} (hJ : Steady z J) : Steady (z + 3) (Inner mk z J) := fun _ _ _ _ hs hc =>
  ⟨hJ _ _ _ _ hs.1 (hc.mono' fun b hb => ⟨by omega, hb.2⟩), hs.2⟩
def Stopped (L : List E) (Jx : List E → (Nat → Prop) → World → Prop) (F : Nat → Prop) (V : World) : Prop := ∃ pre, pre <+: L ∧ Jx pre F V
theorem stopped_steady {L : List E} {z : Nat} {Jx : List E → (Nat → Prop) → World → Prop} (hJ : Steady z Jx) : Steady (z + 3) (fun (_ : List E) => Stopped L Jx) := fun _ _ _ _ hs hc => by
  obtain ⟨pre, h1, h2⟩ := hs
  exact ⟨pre, h1, hJ _ _ _ _ h2 (hc.mono' fun b hb => ⟨by omega, hb.2⟩)⟩
theorem drop_prefix {l pre : List E} {x : E} {mk : Nat} (h : pre ++ [x] <+: l) (hm : mk ≤ pre.length) : pre.drop mk ++ [x] <+: l.drop mk := by
  obtain ⟨t, rfl⟩ := h
  exact ⟨t, by simp [List.drop_append, List.append_assoc, Nat.sub_eq_zero_of_le hm]⟩
set_option maxRecDepth 100000 in
set_option maxHeartbeats 2000000 in
/-- Since's iterator: the elements that are not marked. -/
theorem since_foot (n Bm : Nat) (p A : Option Addr) (c n₀ mk : Nat) (l : List E) (w : World) (hm : w.cell? ⟨Bm, 0, none⟩ = some (.pointer p)) (hG : Gives w p (.slice A l.length c)) (hM : Marks w p mk) (hS : SL w A l.length l) (hA : ∀ b, A = some ⟨b, 0, none⟩ → b < n₀) (hn₀ : n₀ ≤ w.heap.size) (hlen : l.length ≤ 100000) :
    SeqFoot n 67 #[.pointer (some ⟨Bm, 0, none⟩)] encS n₀ (l.drop mk) w := by
  intro lp J Jx W F₀ hb hF hJ hJx hY h0
  show CallsIn Fence.wide n Try.prog 67 #[.func (.yield lp) #[] #[], .pointer (some ⟨Bm, 0, none⟩)] W (Walked (l.drop mk) J Jx)
  have hm2 := (hb.cell (lt_of_cell hm)).trans hm
  have gb := Lib.hid hb
  have gG := Lib.hid hG
  have gM := Lib.hid hM
  have gS := Lib.hid hS
  have gY := Lib.hid hY
  have g0 := Lib.hid h0
  have gF := Lib.hid hF
  have gJ := Lib.hid hJ
  have gJx := Lib.hid hJx
  have hW := Nat.le_trans hn₀ hb.size
  have t1 : Fence.wide.fn 40 := trivial
  have t2 : Fence.wide.fn 64 := trivial
  have hBmw := lt_of_cell hm2
  clear hm hG hM hS hY h0 hb hF hJ hJx
  refine callsIn_wide.2 ((callsIn_wide (n := 6)).1 ?_)
  refine callsIn_of_wp_marks Try.func67 rfl trivial ?_ rfl
  simp only [Try.ntmps67, List.size_toArray, List.length_cons, List.length_nil, Nat.reduceAdd, Nat.reduceSub, Array.replicate_succ, Array.replicate_zero, List.push_toArray, List.append_toArray, List.nil_append, List.cons_append]
  gi_wp2_with fail
  have gb1 := Lib.hid (gb.out.trans (((Below.refl W.heap.size W).alloc (Nat.le_refl _) (.cells #[.func (.yield lp) #[] #[]] 106)).mono gb.out.size))
  refine (callsIn_wide.2 (gM.out _ gb1.out)).mono ?_
  rintro e w' ⟨rfl, rfl⟩
  gi_wp2_with fail
  refine (callsIn_wide.2 (all_any _ _)).mono ?_
  rintro e w' ⟨rfl, rfl⟩
  gi_wp2_with fail
  obtain ⟨z, hz⟩ : ∃ z, z = W.heap.size := ⟨_, rfl⟩
  obtain ⟨V, hV⟩ : ∃ V, V = ((W.alloc (.cells #[.func (.yield lp) #[] #[]] 106)).alloc (.cells #[.int .i64 (mk : Nat)] 3)).alloc (.cells #[.pointer p] 24) := ⟨_, rfl⟩
  have hVz : V.heap.size = z + 3 := by rw [hV, hz]; simp
  have bY : Boxed V z 106 (.func (.yield lp) #[] #[]) := by
    rw [hV, hz]
    exact ((Boxed.new W 106 _).alloc _).alloc _
  have bM : Boxed V (z + 1) 3 (.int .i64 (mk : Nat)) := by
    rw [hV, hz]
    have h := (Boxed.new (W.alloc (.cells #[.func (.yield lp) #[] #[]] 106)) 3 (.int .i64 (mk : Nat))).alloc (.cells #[.pointer p] 24)
    rwa [World.size_alloc] at h
  have bP : Boxed V (z + 2) 24 (.pointer p) := by
    rw [hV, hz]
    have h := Boxed.new ((W.alloc (.cells #[.func (.yield lp) #[] #[]] 106)).alloc (.cells #[.int .i64 (mk : Nat)] 3)) 24 (.pointer p)
    rwa [World.size_alloc, World.size_alloc] at h
  have hWV : Below W.heap.size W V := by rw [hV]; exact (((Below.refl _ W).alloc (Nat.le_refl _) _).alloc (by simp) _).alloc (by simp; omega) _
  have hwV := gb.out.trans (hWV.mono gb.out.size)
  have hseq := all_foot 5 (z + 2) p A c n₀ l V bP.cell (gG.out.below hwV) (gS.out.below hwV) hA (by rw [hVz]; omega) hlen
  have hIn0 : Inner mk z J [] F₀ V := ⟨by rw [List.drop_nil]; exact gJ.out _ _ _ _ g0.out (.of_below hWV), fun b hb => .inl (by have := (gF.out b hb).2; omega)⟩
  have gIJ := Lib.hid (inner_steady (mk := mk) (hz ▸ gJ.out))
  have gIx := Lib.hid (stopped_steady (L := l.drop mk) (hz ▸ gJx.out))
  have gY2 := Lib.hid (hz ▸ gY.out)
  have gJ2 := Lib.hid (hz ▸ gJ.out)
  have gJx2 := Lib.hid (hz ▸ gJx.out)
  rw [← hV, ← hz]
  have gF2 := Lib.hid (hz ▸ gF.out)
  have hWz : n₀ ≤ z := by omega
  clear hV hWV hwV gb1 gb gF gY g0 gJ gJx hW hm2 hBmw hz
  refine range_foot (by omega) (gf := 69) (lb := #[.pointer (some ⟨z + 2, 0, none⟩)]) rfl (enters_of Try.func69 (by kernel_rfl) rfl) hseq (Below.refl _ _) (by rw [hVz]; omega) (fun _ _ => rfl)
    (fun pre F U => (Inner mk z J pre F U ∧ Boxed U z 106 (.func (.yield lp) #[] #[])) ∧ Boxed U (z + 1) 3 (.int .i64 (mk : Nat)))
    (fun cc _ F U => cc = .ret ∧ Stopped (l.drop mk) Jx F U)
    (by rw [hVz]; exact (gIJ.out.and (boxed_steady (fun _ => .func (.yield lp) #[] #[]) (by omega))).and (boxed_steady (fun _ => .int .i64 (mk : Nat)) (by omega)))
    (fun cc => by rw [hVz]; exact fun _ _ _ _ hs hc => ⟨hs.1, gIx.out [] _ _ _ hs.2 hc⟩) F₀ (fun b hb => ⟨(gF2.out b hb).1, by rw [hVz]; have := (gF2.out b hb).2; omega⟩) ⟨⟨hIn0, bY⟩, bM⟩
    ?a1 ?assigned ?round ?done ?stop
  case assigned =>
    intro lr pre x U K hK
    unfold encA
    gi_wp2
    exact hK
  case round =>
    rintro lr pre x F U ⟨⟨hi, hy⟩, hk⟩ hF hp hs
    rw [hVz] at hs
    have cy := hy.cell
    have ck := hk.cell
    have hpl : pre.length < 100000 := by have := hp.length_le; rw [List.length_append] at this; simp at this; omega
    have gi := Lib.hid hi
    have gy := Lib.hid hy
    have gk := Lib.hid hk
    have gF := Lib.hid hF
    have gp := Lib.hid hp
    clear hi hy hk hF hp hIn0 bY bM bP hseq gF2 gG gM gS
    rcases Nat.lt_or_ge pre.length mk with hlt | hge
    · have i1 : (pre.length : Int) < (mk : Int) := by omega
      have e1 : decide ((mk : Int) ≤ (pre.length : Int)) = false := by simp; omega
      have e2 : decide (mk ≤ pre.length) = false := by simp; omega
      gi_wp2_with fail
      refine ⟨(fun _ h => by cases h), ?_⟩
      gi_wp2_with fail
      refine ⟨F, Turn.refl F _, ⟨⟨?_, gi.out.2⟩, gy.out⟩, gk.out⟩
      have h1 := gi.out.1
      rw [List.drop_of_length_le (by omega)] at h1
      rw [List.drop_of_length_le (by simp; omega)]
      exact h1
    · have i1 : (mk : Int) ≤ (pre.length : Int) := by omega
      have e2 : decide (mk ≤ pre.length) = true := by simp; omega
      obtain ⟨fn, tmps, assign, body, hyl, hR⟩ := yield_any 3 (gY2.out _ x _ _ gi.out.1 (drop_prefix gp.out hge) (by omega))
      unfold encS at hyl
      gi_wp2_with fail
      refine RoundIn.mono (F := Fence.wide.inRound lr) hR ?_
      rintro e U3 ⟨F3, hT, ⟨rfl, hJ3⟩ | ⟨rfl, hJx3⟩⟩
      · have hy3 := hT.but.block z (by omega) (fun h => by have := gi.out.2 _ h; omega)
        have hk3 := hT.but.block (z + 1) (by omega) (fun h => by have := gi.out.2 _ h; omega)
        have hF3 : ∀ b, F3 b → b < z ∨ z + 3 ≤ b := fun b hb => (hT.own b hb).elim (gi.out.2 b) (fun h => .inr (by omega))
        have g3 := Lib.hid (show EndedT (fun pre F U => (Inner mk z J pre F U ∧ Boxed U z 106 (.func (.yield lp) #[] #[])) ∧ Boxed U (z + 1) 3 (.int .i64 (mk : Nat))) (fun cc _ F U => cc = .ret ∧ Stopped (l.drop mk) Jx F U) (pre ++ [x]) F U .normal { tmps := #[], defers := [] } U3 from
          ⟨F3, hT, ⟨⟨by rw [List.drop_append_of_le_length hge]; exact hJ3, hF3⟩, hy3.trans gy.out⟩, hk3.trans gk.out⟩)
        clear hT hJ3 hy3 hk3 hF3
        gi_wp2_with fail
        exact g3.out
      · have g3 := Lib.hid (show ∃ F', Turn F F' U U3 ∧ Code.ret = Code.ret ∧ Stopped (l.drop mk) Jx F' U3 from ⟨F3, hT, rfl, _, drop_prefix gp.out hge, hJx3⟩)
        clear hT hJx3
        gi_wp2_with fail
        obtain ⟨F4, q1, _, q3⟩ := g3.out
        exact ⟨F4, q1, rfl, q3⟩
  case done =>
    rintro D F U hD hFD hF ⟨⟨hi, hy⟩, hk⟩ hK
    have g3 := Lib.hid (show Walked (l.drop mk) J Jx (.returned (.tuple #[])) (U.putObj D (.deferred none)) from ⟨⟨_, rfl⟩, F, .inl (gJ2.out _ _ _ _ hi.1 (but_put U D _ ⟨by omega, hFD⟩))⟩)
    clear hi hy hk hIn0 bY bM bP hseq
    gi_wp2_with fail
    exact ⟨by simp, .inl ⟨_, _, rfl, run_takeDeferred hK, .tuple #[], results_none rfl _ _ _, g3.out⟩⟩
  case stop =>
    rintro D cc pre F U hD hFD hF hp ⟨rfl, hi⟩ hK
    have g3 := Lib.hid (show Walked (l.drop mk) J Jx (.returned (.tuple #[])) (U.putObj D (.deferred none)) from by
      obtain ⟨pre', h1, h2⟩ := hi
      exact ⟨⟨_, rfl⟩, F, .inr ⟨pre', h1, gJx2.out _ _ _ _ h2 (but_put U D _ ⟨by omega, hFD⟩)⟩⟩)
    clear hIn0 bY bM bP hseq
    gi_wp2_with fail
    exact ⟨by simp, .inl ⟨_, _, rfl, run_takeDeferred hK, .tuple #[], results_none rfl _ _ _, g3.out⟩⟩
end Go.Proofs.Ytidkdidlndfbfaa.HS
