/- HistoryStops: the walk. -/
import Derived.Test.YtidkdidlndfbfaaBeside
import Derived.Test.YtidkdidlndfbfaaHICollect
import Derived.Test.YtidkdidlndfbfaaHISub
import Derived.StillTailTactics
import Derived.Sort.QuietTacIn
namespace Go.Proofs.Ytidkdidlndfbfaa
open Go.RowKit HI Go.Shelf
attribute [local go_sem] Oper.semAt_some
theorem slice_moves (A : Option Addr) (n c r : Nat) (h : r ≤ c) (w' : World) : (Instr.slice 44 (.slice A n c) none (some (.int .i64 (r : Int))) none).run Try.prog w' = .ok (.slice A r c) w' := by
  cases A <;> simp [Instr.slice, run_underlying Try.underlying44, Instr.sliceBounds, Instr.sliceBound, asIntOf, h, Addr.add]
/-- What a pointer to a list shows: elements and mark. -/
def Reads (w : World) (p : Option Addr) (mk : Nat) (l : List E) : Prop := ∃ A c, Gives w p (.slice A l.length c) ∧ Marks w p mk ∧ SL w A l.length l ∧ ∀ b, A = some ⟨b, 0, none⟩ → b < w.heap.size
theorem has_reads_int {w0 w : World} {P lim mk : Nat} {l : List E} (h : Has w0 P lim mk l w) : Reads w (some ⟨P, 0, none⟩) mk l := by
  obtain ⟨v, h, _⟩ := h
  obtain ⟨A, c, rfl, _, _, _, hS, _⟩ := owns_sl h.row
  exact ⟨A, c, gives_own h, marks_own h, hS, fun b e => h.foot_lt b (.inr (by rw [e]; rfl))⟩
theorem HI.Marks.below {w w' : World} {p : Option Addr} {mk : Nat} (h : Marks w p mk) (hb : Below w.heap.size w w') : Marks w' p mk := fun W hW => h W (hb.trans (hW.mono hb.size))
theorem put_beside {w : World} {a b : Nat} {o o' : Obj} (h : w.heap[b]? = some o) (hne : a ≠ b) : (w.putObj a o').heap[b]? = some o := (World.putObj_heap_other hne.symm).trans h
theorem leaves_two {F : Fence} {n : Nat} {P : Program} {fn : Func} {tmps : Array Value} {R : Ending → World → Prop} {w w12 : World} {B D2 D1 : Nat} (h2 : w12.heap[D2]? = some (.deferred (some []))) (h1 : w12.heap[D1]? = some (.deferred (some [])))
    (d12 : D1 < D2) (hb : B ≤ D1) (hw : w.heap.size ≤ B) (hB : Below w.heap.size w w12) (hend : ∀ WF, Below w.heap.size w WF → (∀ k, k < B → WF.heap[k]? = w12.heap[k]?) → LeavesInM F n P fn tmps R [] .returning WF) :
    LeavesInM F n P fn tmps R [{ target := .collected D2, args := #[] }, { target := .collected D1, args := #[] }] .returning w12 := by
  have b2 : Below w.heap.size w12 (w12.putObj D2 (.deferred none)) := belowK_b (w := w) (Nat.le_refl _) _ _ _ _ (by omega) h2 rfl rfl
  have h1' := put_beside (o' := .deferred none) h1 (show D2 ≠ D1 by omega)
  have b1 : Below w.heap.size (w12.putObj D2 (.deferred none)) ((w12.putObj D2 (.deferred none)).putObj D1 (.deferred none)) := belowK_b (w := w) (Nat.le_refl _) _ _ _ _ (by omega) h1' rfl rfl
  refine ⟨by simp, .inl ⟨_, _, rfl, run_takeDeferred h2, ?_⟩⟩
  refine ⟨by simp, .inl ⟨_, _, rfl, run_takeDeferred h1', ?_⟩⟩
  exact hend _ ((hB.trans b2).trans b1) fun k hk => (World.putObj_heap_other (by omega)).trans (World.putObj_heap_other (by omega))
theorem wrap_ok {x : Int} (h0 : -4611686018427387904 ≤ x) (h1 : x ≤ 4611686018427387904) : wrap64 x = x := by unfold wrap64; omega
theorem min_ok {a b n : Nat} (h : n = min a (b + 1)) : min (a : Int) ((b : Int) + 1) = (n : Nat) := by omega
theorem equal_true {w : World} {A C : Option Addr} {n m c d : Nat} {xs : List E} (hx : SL w A n xs) (hy : SL w C m xs) (hn : n ≤ 9223372036854775807) (hm : m ≤ 9223372036854775807) : Calls Try.prog 29 #[.slice A n c, .slice C m d] w fun e w' => e = .returned (.bool true) ∧ Below w.heap.size w w' :=
  (lists_equal hx hy hn hm).mono fun e w' h => by
    obtain ⟨rfl, h2⟩ := h
    exact ⟨by simp, h2⟩
theorem sub_ok {l m d : Nat} (h : d = l - m) (hm : m ≤ l) : (l : Int) - (m : Int) = (d : Nat) := by omega
theorem wrap_sub {l m d : Nat} (h : d = l - m) (hl : l ≤ 100000) : wrap64 (d : Int) = (d : Nat) := wrap_ok (by omega) (by omega)
theorem wrap_nat {n : Nat} (h : n ≤ 100000) : wrap64 (n : Int) = (n : Nat) := wrap_ok (by omega) (by omega)
theorem wrap_suc {n : Nat} (h : n ≤ 100000) : wrap64 ((n : Int) + 1) = (n : Int) + 1 := wrap_ok (by omega) (by omega)
theorem wrap_pred {n : Nat} (h : n ≤ 100000) : wrap64 ((n : Int) - 1) = (n : Int) - 1 := wrap_ok (by omega) (by omega)
theorem wrap_low {n f : Nat} (h : n ≤ 100000) (hf : f < 65536) : wrap64 ((n : Int) - 1 - (f : Int)) = (n : Int) - 1 - (f : Int) := wrap_ok (by omega) (by omega)
theorem wrap_high {n f : Nat} (h : n ≤ 100000) (hf : f < 65536) : wrap64 ((n : Int) + 1 + (f : Int)) = (n : Int) + 1 + (f : Int) := wrap_ok (by omega) (by omega)
theorem low_lt (n f : Nat) : (n : Int) - 1 - (f : Int) < (n : Int) := by omega
theorem high_lt (n f : Nat) : (n : Int) < (n : Int) + 1 + (f : Int) := by omega
theorem exit_on {F : Fence} {n : Nat} {P : Program} {id : Nat} {Q : Exit → Act → World → Prop} {a : Act} {w : World} (h : Exit.inBlock id Q .normal a w) : (Code.exit id).wpIn F n P (Exit.inBlock id Q) a w := by
  refine wpIn_exit ?_
  simpa [Exit.inBlock] using h
/-- What follows a loop that may end in two ways, said once. -/
theorem two_ways {F : Fence} {n : Nat} {P : Program} {c : Code} {Q : Exit → Act → World → Prop} {a : Act} {w : World} (R : Nat → World → Prop)
    (hR : ∀ D W, R D W → Q .normal { a with defers := { target := .collected D, args := #[] } :: a.defers } W)
    (hL : (∀ D W, R D W → Q .normal { a with defers := { target := .collected D, args := #[] } :: a.defers } W) → c.wpIn F n P Q a w) : c.wpIn F n P Q a w := hL hR
/-- Between two rounds: the counter, what has not turned. -/
def Cnt (st zx : Nat) (X : World) (pre : List E) (F : Nat → Prop) (U : World) : Prop := F = (fun b => b = zx) ∧ Boxed U zx 3 (.int .i64 (pre.length : Nat)) ∧ But (fun b => b = zx) X U ∧ pre.length ≤ st
def Brk (st zx : Nat) (X : World) (cc : Code) (pre : List E) (F : Nat → Prop) (U : World) : Prop := cc = .exit 4 ∧ F = (fun b => b = zx) ∧ Boxed U zx 3 (.int .i64 (pre.length : Nat)) ∧ But (fun b => b = zx) X U ∧ pre.length = st + 1
theorem cnt_steady {st zx : Nat} {X : World} : Steady X.heap.size (Cnt st zx X) := fun pre F A C hs hc => by
  obtain ⟨rfl, h2, h3, h4⟩ := hs
  exact ⟨rfl, (hc.block zx (lt_of_heap h2) (fun h => h.2 rfl)).trans h2, but_steady (β := Unit) (Nat.le_refl _) () (fun b => b = zx) A C h3 hc, h4⟩
theorem brk_steady {st zx : Nat} {X : World} (cc : Code) : Steady X.heap.size (Brk st zx X cc) := fun pre F A C hs hc => by
  obtain ⟨h0, rfl, h2, h3, h4⟩ := hs
  exact ⟨h0, rfl, (hc.block zx (lt_of_heap h2) (fun h => h.2 rfl)).trans h2, but_steady (β := Unit) (Nat.le_refl _) () (fun b => b = zx) A C h3 hc, h4⟩
theorem cnt_next {zx : Nat} {X U : World} {pre : List E} (x : E) (h2 : Boxed U zx 3 (.int .i64 (pre.length : Nat))) (h3 : But (fun b => b = zx) X U) :
    Turn (fun b => b = zx) (fun b => b = zx) U (U.setCell ⟨zx, 0, none⟩ (.int .i64 ((pre.length : Int) + 1))) ∧ Boxed (U.setCell ⟨zx, 0, none⟩ (.int .i64 ((pre.length : Int) + 1))) zx 3 (.int .i64 ((pre ++ [x]).length : Nat)) ∧ But (fun b => b = zx) X (U.setCell ⟨zx, 0, none⟩ (.int .i64 ((pre.length : Int) + 1))) := by
  refine ⟨⟨(But.refl (fun b => b = zx) U).setCell (p := ⟨zx, 0, none⟩) (.inl rfl) _, fun _ h => .inl h⟩, ?_, h3.setCell (p := ⟨zx, 0, none⟩) (.inl rfl) _⟩
  have := h2.set (.int .i64 ((pre.length : Int) + 1))
  simpa using this
set_option maxRecDepth 1000000 in
set_option maxHeartbeats 16000000 in
theorem historyStops_walk (a0 : Int) (a1 : Option Addr) (len1 cap1 : Nat) (z1 : List Mv) (a2 : Int) (a3 : Int) (w : World) (w0 : (Lit.int .u8 a0).wf = true) (w1 : MS w a1 len1 z1) (c1 : len1 ≤ cap1 ∧ cap1 ≤ 9223372036854775807) (w2 : (Lit.int .u8 a2).wf = true) (w3 : (Lit.int .u16 a3).wf = true) :
    Calls Try.prog 7 #[.int .u8 a0, .slice a1 len1 cap1, .int .u8 a2, .int .u16 a3] w fun e w' => e = .returned (.bool true) ∧ Below w.heap.size w w' := by
  refine (callsIn_wide (n := 6)).1 ?_
  refine callsIn_of_wp_marks Try.func7 rfl trivial ?_ rfl
  simp only [Try.ntmps7, List.size_toArray, List.length_cons, List.length_nil, Nat.reduceAdd, Nat.reduceSub, Array.replicate_succ, Array.replicate_zero, List.push_toArray, List.append_toArray, List.nil_append, List.cons_append]
  have t1 : Fence.wide.fn 24 := trivial
  have t2 : Fence.wide.fn 25 := trivial
  have t3 : Fence.wide.fn 26 := trivial
  have t4 : Fence.wide.fn 28 := trivial
  have t5 : Fence.wide.fn 33 := trivial
  have t6 : Fence.wide.fn 31 := trivial
  have t7 : Fence.wide.fn 29 := trivial
  have t9 : Fence.wide.fn 10 := trivial
  obtain ⟨a, rfl, ha⟩ := u8_nat w0
  obtain ⟨st, rfl, hst⟩ := u8_nat w2
  obtain ⟨far, rfl, hfar⟩ := u16_nat w3
  obtain ⟨q, hq⟩ : ∃ q, q = 1 + a % 64 := ⟨_, rfl⟩
  have hq1 : (1 : Int) + (a : Int) % 64 = (q : Nat) := by omega
  have hq2 : q ≤ 100000 := by omega
  have ha2 : ((a : Nat) : Int) < 256 := by omega
  obtain ⟨m, hm⟩ : ∃ m, m = min len1 150 := ⟨_, rfl⟩
  have hmi : (min (len1 : Int) 150) = (m : Nat) := by omega
  have hmn : m ≤ len1 := by omega
  have hsl := slice_moves a1 len1 cap1 m (by omega)
  have gM := Lib.hid w1
  have gst := Lib.hid hst
  have gfar := Lib.hid hfar
  clear w0 w1 w2 w3 hm hq ha hst hfar
  gi_wp2_with fail
  obtain ⟨z, hz⟩ : ∃ z, z = w.heap.size := ⟨_, rfl⟩
  obtain ⟨W0, hW0⟩ : ∃ W0, W0 = (w.alloc (.cells #[.int .u8 (st : Nat)] 5)).alloc (.cells #[.bool false] 4) := ⟨_, rfl⟩
  have gz0 := Lib.hid (show W0.heap.size = z + 2 by rw [hW0, hz]; simp)
  have gB0 := Lib.hid (show Below w.heap.size w W0 by rw [hW0]; exact ((Below.refl _ w).alloc (Nat.le_refl _) _).alloc (by simp) _)
  have gQ0 := Lib.hid (show Boxed W0 z 5 (.int .u8 (st : Nat)) by rw [hW0, hz]; exact (Boxed.new w 5 _).alloc _)
  have gR0 := Lib.hid (show Boxed W0 (z + 1) 4 (.bool false) by
    rw [hW0, hz]
    have h := Boxed.new (w.alloc (.cells #[.int .u8 (st : Nat)] 5)) 4 (.bool false)
    rwa [World.size_alloc] at h)
  rw [← hz, ← hW0]
  have gz := Lib.hid hz
  clear hW0 hz
  refine (callsIn_wide.2 (h_new (w0 := W0) q hq2 (Below.refl _ _))).mono ?_
  rintro e w1 ⟨rfl, g1, _⟩
  obtain ⟨P, hP⟩ : ∃ P, P = W0.heap.size := ⟨_, rfl⟩
  rw [← hP] at g1 ⊢
  have gP := Lib.hid hP
  clear hP hq1
  gi_wp2_with fail
  gi_loopw [44] (fun i wr => ∃ k : Nat, k ≤ m ∧ i = .int .i64 (k : Nat) ∧ Hid (∃ mk l, Has W0 P q mk l wr)) (fun i _ => m - (intOf i).toNat)
  case atStart => exact ⟨0, Nat.zero_le _, rfl, _, _, g1⟩
  case round =>
    obtain ⟨k, hk, rfl, gR⟩ := hrel
    obtain ⟨mk, l, hH⟩ := gR.out
    have gH := Lib.hid hH
    clear hH gR g1
    by_cases hlt : k < m
    · obtain ⟨b, o, ⟨t1, t2⟩, rfl, ht, hk1, hk2, e0, e1⟩ := gM.out.at (gB0.out.trans (gH.out.low.mono gB0.out.size)) (show k < len1 by omega)
      dsimp only at hk1 hk2 e0 e1
      have gH1 := Lib.hid (gH.out.below (boxM_below wr t1 t2))
      clear hsl hmi ht
      gi_wp2_with fail
      refine (callsIn_wide.2 (h_moved gH1.out t1 t2 hk1 hk2)).mono ?_
      rintro e W2 ⟨rfl, g2⟩
      have g3 := Lib.hid (show ∃ mk l, Has W0 P q mk l W2 from ⟨_, _, g2⟩)
      clear g2 gH gH1 e0 e1 gM
      gi_wp2_with fail
      exact ⟨⟨k + 1, by omega, by simp, g3.out⟩, by simp [intOf]; omega⟩
    · obtain rfl : k = m := by omega
      clear hsl hmi gM hk
      gi_wp2_with fail
      refine (callsIn_wide.2 (h_elements gH.out)).mono ?_
      rintro e W3 ⟨vn, rfl, gE⟩
      obtain ⟨An, cn, rfl, _, hcn, hcmn, hSn, hAn, _⟩ := owns_sl gE.out.1
      have gH3 := Lib.hid (gH.out.below gE.out.2)
      have gSn := Lib.hid hSn
      have gbd := Lib.hid gH.out.bounds
      clear hSn hAn hcmn gE gH hcn
      have gbx := Lib.hid ((Below.refl W3.heap.size W3).alloc (Nat.le_refl _) (.cells #[.slice An l.length cn] 48))
      gi_wp2_with fail
      refine (callsIn_wide.2 (h_marked (gH3.out.below gbx.out))).mono ?_
      rintro e _ ⟨rfl, rfl⟩
      gi_wp2_with fail
      refine (callsIn_wide.2 (since_any _ _)).mono ?_
      rintro e w' ⟨rfl, rfl⟩
      gi_wp2_with fail
      obtain ⟨y, hy⟩ : ∃ y, y = W3.heap.size := ⟨_, rfl⟩
      obtain ⟨V, hV⟩ : ∃ V, V = ((W3.alloc (.cells #[.slice An l.length cn] 48)).alloc (.cells #[.int .i64 (mk : Nat)] 3)).alloc (.cells #[.pointer (some ⟨P, 0, none⟩)] 45) := ⟨_, rfl⟩
      rw [← hV, ← hy]
      have h3V : Below W3.heap.size W3 V := by rw [hV]; exact (((Below.refl _ W3).alloc (Nat.le_refl _) _).alloc (by simp) _).alloc (by simp; omega) _
      have gVy := Lib.hid (show V.heap.size = y + 3 by rw [hV, hy]; simp)
      have gb14 := Lib.hid (show Boxed V y 48 (.slice An l.length cn) by rw [hV, hy]; exact ((Boxed.new W3 48 _).alloc _).alloc _)
      have gb16 := Lib.hid (show Boxed V (y + 1) 3 (.int .i64 (mk : Nat)) by
        rw [hV, hy]
        have h := (Boxed.new (W3.alloc (.cells #[.slice An l.length cn] 48)) 3 (.int .i64 (mk : Nat))).alloc (.cells #[.pointer (some ⟨P, 0, none⟩)] 45)
        rwa [World.size_alloc] at h)
      have gbP := Lib.hid (show Boxed V (y + 2) 45 (.pointer (some ⟨P, 0, none⟩)) by
        rw [hV, hy]
        have h := Boxed.new ((W3.alloc (.cells #[.slice An l.length cn] 48)).alloc (.cells #[.int .i64 (mk : Nat)] 3)) 45 (.pointer (some ⟨P, 0, none⟩))
        rwa [World.size_alloc, World.size_alloc] at h)
      have hzy : z + 2 ≤ y := by have := gH3.out.low.size; have := gz0.out; omega
      have h0V : Below W0.heap.size W0 V := gH3.out.low.trans (h3V.mono gH3.out.low.size)
      have gbR := Lib.hid (show Boxed V (z + 1) 4 (.bool false) from (h0V.block _ (by rw [gz0.out]; omega)).trans gR0.out)
      have gbQ := Lib.hid (show Boxed V z 5 (.int .u8 (st : Nat)) from (h0V.block _ (by rw [gz0.out]; omega)).trans gQ0.out)
      have gHV := Lib.hid (gH3.out.below h3V)
      have gSV := Lib.hid (gSn.out.below h3V)
      have gLow := Lib.hid (gB0.out.trans (h0V.mono gB0.out.size))
      clear hV hy h3V h0V gH3 gSn gbx gR0 gQ0
      refine wpIn_loop_rounds 3 ?_
      rw [roundsIn_succ]
      gi_wp2_with fail
      have gVV := Lib.hid (Below.refl V.heap.size V)
      obtain ⟨N, hN⟩ : ∃ N, N = min (l.length - mk) (st + 1) := ⟨_, rfl⟩
      have gN := Lib.hid hN
      clear hN
      have gll := Lib.hid (show l.length ≤ 100000 from Nat.le_trans gbd.out.2.1 gbd.out.2.2)
      have gmk1 := Lib.hid (show mk ≤ 100000 from Nat.le_trans gbd.out.1 gll.out)
      have gst1 := Lib.hid (show st ≤ 100000 from by have := gst.out; omega)
      have gfar1 := Lib.hid (show far ≤ 100000 from by have := gfar.out; omega)
      obtain ⟨zn1, hz1⟩ : ∃ z, z = V.heap.size := ⟨_, rfl⟩
      obtain ⟨X1, hX1⟩ : ∃ X', X' = V.alloc (.cells #[.int .i64 0] 3) := ⟨_, rfl⟩
      have gXs1 := Lib.hid (show X1.heap.size = zn1 + 1 by rw [hX1, hz1]; simp)
      have hVX1 : Below V.heap.size V X1 := by rw [hX1]; exact gVV.out.alloc gVV.out.size _
      have gXX1 := Lib.hid (show Below V.heap.size V X1 by rw [hX1]; exact (Below.refl _ _).alloc (Nat.le_refl _) _)
      have hbn1 : Boxed X1 zn1 3 (.int .i64 ((([] : List E).length : Nat) : Int)) := by rw [hX1, hz1]; exact Boxed.new V 3 _
      have gVz1 := Lib.hid (show V.heap.size ≤ zn1 by rw [hz1]; exact gVV.out.size)
      rw [← hX1, ← hz1]
      obtain ⟨Al1, cl1, hGl, hMl, hSl, hAl⟩ := has_reads_int gHV.out
      have hseq1 := since_foot 5 (y + 2) (some ⟨P, 0, none⟩) Al1 cl1 V.heap.size mk l X1 (Boxed.cell ((hVX1.block _ (lt_of_heap gbP.out)).trans gbP.out)) (hGl.below hVX1) (hMl.below hVX1) (hSl.below hVX1) hAl hVX1.size (by have := gbd.out; omega)
      have gVX1 := Lib.hid hVX1
      clear hz1 hX1 hVX1 hGl hMl hSl hAl
      refine two_ways (fun D U => Boxed U zn1 3 (.int .i64 (N : Nat)) ∧ But (fun b => b = zn1) X1 U ∧ X1.heap.size ≤ D ∧ U.heap[D]? = some (.deferred (some []))) ?rest1 (fun hGo => ?loop1)
      case loop1 =>
        refine range_foot (by omega) (gf := 58) (lb := #[.pointer (some ⟨y + 2, 0, none⟩)]) rfl (enters_of Try.func58 (by kernel_rfl) rfl) hseq1 (Below.refl _ _) (by have := gXs1.out; have := gVz1.out; omega) (fun _ _ => rfl)
          (Cnt st zn1 X1) (Brk st zn1 X1) cnt_steady brk_steady (fun b => b = zn1) (fun b hb => ⟨by have := gVz1.out; omega, by have := gXs1.out; omega⟩) ⟨rfl, hbn1, But.refl _ _, Nat.zero_le _⟩
          ?a1 ?assigned1 ?round1 ?done1 ?stop1
        case assigned1 =>
          intro lr pre x U K hK
          unfold encS
          gi_wp2
          exact hK
        case done1 =>
          rintro D F U hD _ _ ⟨_, h2, h3, h4⟩ hK
          refine hGo D U ⟨?_, h3, hD, hK⟩
          have e : (l.drop mk).length = N := by rw [List.length_drop] at h4 ⊢; have := gN.out; omega
          rwa [e] at h2
        case stop1 =>
          rintro D cc pre F U hD _ _ hp ⟨rfl, _, h2, h3, h4⟩ hK
          refine exit_on (hGo D U ⟨?_, h3, hD, hK⟩)
          have e : pre.length = N := by have := hp.length_le; rw [List.length_drop] at this; have := gN.out; omega
          rwa [e] at h2
        case round1 =>
          rintro lr pre x F U ⟨rfl, h2, h3, h4⟩ _ hp _
          have hpl : mk + pre.length < l.length := by
            have := hp.length_le
            rw [List.length_append, List.length_drop] at this
            simp at this
            omega
          have hx : l[mk + pre.length]? = some x := by
            obtain ⟨t, ht⟩ := hp
            have h5 : (l.drop mk)[pre.length]? = some x := by rw [← ht]; simp
            rwa [List.getElem?_drop] at h5
          have hVU : Below V.heap.size V U := gVX1.out.trans (h3.below gVX1.out.size (fun b hb => by have := gVz1.out; omega))
          have k18 := h2.cell
          have f18 := h2.frozen
          have k16 := Boxed.cell ((hVU.block _ (lt_of_heap gb16.out)).trans gb16.out)
          have k14 := Boxed.cell ((hVU.block _ (lt_of_heap gb14.out)).trans gb14.out)
          have kst := Boxed.cell ((hVU.block _ (lt_of_heap gbQ.out)).trans gbQ.out)
          obtain ⟨bA, x', hA, hx', hc⟩ := (gSV.out.below hVU).at hpl
          obtain rfl : x' = x := by rw [hx] at hx'; exact (Option.some.inj hx').symm
          unfold ev at hc
          subst hA
          have gnx := Lib.hid (cnt_next x' h2 h3)
          have h14 : pre.length ≤ 1000 := by have := gst.out; omega
          have hmk2 : mk ≤ 100000 := by have := gbd.out; omega
          have hne : ¬ z = zn1 := by have := gVz1.out; have := gVy.out; omega
          have p0 : (0 : Int) ≤ (mk : Int) + (pre.length : Int) := by omega
          have p1 : (mk : Int) + (pre.length : Int) < (l.length : Int) := by omega
          have wst : wrap64 (st : Int) = (st : Nat) := by have := gst.out; unfold wrap64; omega
          have gh4 := Lib.hid h4
          clear hseq1 hGo h2 h3 hp hx hVU hx' hpl hbn1 h4
          by_cases hlast : pre.length = st
          · have d3 : decide ((st : Int) < (pre.length : Int) + 1) = true := by simp; omega
            have d4 : decide (st < pre.length + 1) = true := by simp; omega
            have d5 : decide (st ≤ pre.length) = true := by simp; omega
            have d6 : decide ((st : Int) ≤ (pre.length : Int)) = true := by simp; omega
            have gl := Lib.hid hlast
            clear hlast
            gi_wp2_with fail
            exact ⟨_, gnx.out.1, rfl, rfl, gnx.out.2.1, gnx.out.2.2, by rw [List.length_append, gl.out]; rfl⟩
          · have d3 : decide ((st : Int) < (pre.length : Int) + 1) = false := by have := gh4.out; simp; omega
            have d4 : decide (st < pre.length + 1) = false := by have := gh4.out; simp; omega
            have d5 : decide (st ≤ pre.length) = false := by have := gh4.out; simp; omega
            have d6 : decide ((st : Int) ≤ (pre.length : Int)) = false := by have := gh4.out; simp; omega
            have gl := Lib.hid hlast
            clear hlast
            gi_wp2_with fail
            exact ⟨_, gnx.out.1, rfl, gnx.out.2.1, gnx.out.2.2, by rw [List.length_append]; have := gl.out; have := gh4.out; simp; omega⟩
      case rest1 =>
        rintro D1 U1 ⟨h2, h3, hD1, hK1⟩
        have gVU1 := Lib.hid (show Below V.heap.size V U1 from gVX1.out.trans (h3.below gVX1.out.size (fun b hb => by have := gVz1.out; omega)))
        have gD1 := Lib.hid (show V.heap.size ≤ D1 from Nat.le_trans gVX1.out.size hD1)
        have gK1 := Lib.hid hK1
        have k18 := h2.cell
        have k16 := Boxed.cell ((gVU1.out.block _ (lt_of_heap gb16.out)).trans gb16.out)
        have k14 := Boxed.cell ((gVU1.out.block _ (lt_of_heap gb14.out)).trans gb14.out)
        have kst := Boxed.cell ((gVU1.out.block _ (lt_of_heap gbQ.out)).trans gbQ.out)
        obtain ⟨dd, hdd⟩ : ∃ dd, dd = l.length - mk := ⟨_, rfl⟩
        have e2 := min_ok (a := dd) (b := st) (n := N) (by rw [hdd]; exact gN.out)
        have e1 := sub_ok hdd gbd.out.1
        have e1w := wrap_sub hdd gll.out
        have wst := wrap_nat gst1.out
        have wst1 := wrap_suc gst1.out
        have gdd := Lib.hid hdd
        clear h2 h3 hD1 hK1 hdd hseq1 hbn1
        gi_wp2_with fail
        rw [roundsIn_succ]
        clear e1 e1w wst wst1 e2 k18 k16 k14 kst
        gi_wp2_with fail
        obtain ⟨zn2, hz2⟩ : ∃ z, z = U1.heap.size := ⟨_, rfl⟩
        obtain ⟨X2, hX2⟩ : ∃ X', X' = U1.alloc (.cells #[.int .i64 0] 3) := ⟨_, rfl⟩
        have gXs2 := Lib.hid (show X2.heap.size = zn2 + 1 by rw [hX2, hz2]; simp)
        have hVX2 : Below V.heap.size V X2 := by rw [hX2]; exact gVU1.out.alloc gVU1.out.size _
        have gXX2 := Lib.hid (show Below U1.heap.size U1 X2 by rw [hX2]; exact (Below.refl _ _).alloc (Nat.le_refl _) _)
        have hbn2 : Boxed X2 zn2 3 (.int .i64 ((([] : List E).length : Nat) : Int)) := by rw [hX2, hz2]; exact Boxed.new U1 3 _
        have gVz2 := Lib.hid (show V.heap.size ≤ zn2 by rw [hz2]; exact gVU1.out.size)
        have gzU2 := Lib.hid hz2
        rw [← hX2, ← hz2]
        obtain ⟨Al2, cl2, hGl, hMl, hSl, hAl⟩ := has_reads_int gHV.out
        have hseq2 := since_foot 5 (y + 2) (some ⟨P, 0, none⟩) Al2 cl2 V.heap.size mk l X2 (Boxed.cell ((hVX2.block _ (lt_of_heap gbP.out)).trans gbP.out)) (hGl.below hVX2) (hMl.below hVX2) (hSl.below hVX2) hAl hVX2.size (by have := gbd.out; omega)
        have gVX2 := Lib.hid hVX2
        clear hz2 hX2 hVX2 hGl hMl hSl hAl
        refine two_ways (fun D U => Boxed U zn2 3 (.int .i64 (N : Nat)) ∧ But (fun b => b = zn2) X2 U ∧ X2.heap.size ≤ D ∧ U.heap[D]? = some (.deferred (some []))) ?rest2 (fun hGo => ?loop2)
        case loop2 =>
          refine range_foot (by omega) (gf := 58) (lb := #[.pointer (some ⟨y + 2, 0, none⟩)]) rfl (enters_of Try.func58 (by kernel_rfl) rfl) hseq2 (Below.refl _ _) (by have := gXs2.out; have := gVz2.out; omega) (fun _ _ => rfl)
            (Cnt st zn2 X2) (Brk st zn2 X2) cnt_steady brk_steady (fun b => b = zn2) (fun b hb => ⟨by have := gVz2.out; omega, by have := gXs2.out; omega⟩) ⟨rfl, hbn2, But.refl _ _, Nat.zero_le _⟩
            ?ab2 ?assigned2 ?round2 ?done2 ?stop2
          case assigned2 =>
            intro lr pre x U K hK
            unfold encS
            gi_wp2
            exact hK
          case done2 =>
            rintro D F U hD _ _ ⟨_, h2, h3, h4⟩ hK
            refine hGo D U ⟨?_, h3, hD, hK⟩
            have e : (l.drop mk).length = N := by rw [List.length_drop] at h4 ⊢; have := gN.out; omega
            rwa [e] at h2
          case stop2 =>
            rintro D cc pre F U hD _ _ hp ⟨rfl, _, h2, h3, h4⟩ hK
            refine exit_on (hGo D U ⟨?_, h3, hD, hK⟩)
            have e : pre.length = N := by have := hp.length_le; rw [List.length_drop] at this; have := gN.out; omega
            rwa [e] at h2
          case round2 =>
            rintro lr pre x F U ⟨rfl, h2, h3, h4⟩ _ hp _
            have hpl : mk + pre.length < l.length := by
              have := hp.length_le
              rw [List.length_append, List.length_drop] at this
              simp at this
              omega
            have hx : l[mk + pre.length]? = some x := by
              obtain ⟨t, ht⟩ := hp
              have h5 : (l.drop mk)[pre.length]? = some x := by rw [← ht]; simp
              rwa [List.getElem?_drop] at h5
            have hVU : Below V.heap.size V U := gVX2.out.trans (h3.below gVX2.out.size (fun b hb => by have := gVz2.out; omega))
            have k18 := h2.cell
            have f18 := h2.frozen
            have k16 := Boxed.cell ((hVU.block _ (lt_of_heap gb16.out)).trans gb16.out)
            have k14 := Boxed.cell ((hVU.block _ (lt_of_heap gb14.out)).trans gb14.out)
            have kst := Boxed.cell ((hVU.block _ (lt_of_heap gbQ.out)).trans gbQ.out)
            obtain ⟨bA, x', hA, hx', hc⟩ := (gSV.out.below hVU).at hpl
            obtain rfl : x' = x := by rw [hx] at hx'; exact (Option.some.inj hx').symm
            unfold ev at hc
            subst hA
            have gnx := Lib.hid (cnt_next x' h2 h3)
            have h14 : pre.length ≤ 1000 := by have := gst.out; omega
            have hmk2 : mk ≤ 100000 := by have := gbd.out; omega
            have hne : ¬ z = zn2 := by have := gVz2.out; have := gVy.out; omega
            have p0 : (0 : Int) ≤ (mk : Int) + (pre.length : Int) := by omega
            have p1 : (mk : Int) + (pre.length : Int) < (l.length : Int) := by omega
            have wst : wrap64 (st : Int) = (st : Nat) := by have := gst.out; unfold wrap64; omega
            have gh4 := Lib.hid h4
            clear hseq2 hGo h2 h3 hp hx hVU hx' hpl hbn2 h4
            by_cases hlast : pre.length = st
            · have d3 : decide ((st : Int) < (pre.length : Int) + 1) = true := by simp; omega
              have d4 : decide (st < pre.length + 1) = true := by simp; omega
              have d5 : decide (st ≤ pre.length) = true := by simp; omega
              have d6 : decide ((st : Int) ≤ (pre.length : Int)) = true := by simp; omega
              have gl := Lib.hid hlast
              clear hlast
              gi_wp2_with fail
              exact ⟨_, gnx.out.1, rfl, rfl, gnx.out.2.1, gnx.out.2.2, by rw [List.length_append, gl.out]; rfl⟩
            · have d3 : decide ((st : Int) < (pre.length : Int) + 1) = false := by have := gh4.out; simp; omega
              have d4 : decide (st < pre.length + 1) = false := by have := gh4.out; simp; omega
              have d5 : decide (st ≤ pre.length) = false := by have := gh4.out; simp; omega
              have d6 : decide ((st : Int) ≤ (pre.length : Int)) = false := by have := gh4.out; simp; omega
              have gl := Lib.hid hlast
              clear hlast
              gi_wp2_with fail
              exact ⟨_, gnx.out.1, rfl, gnx.out.2.1, gnx.out.2.2, by rw [List.length_append]; have := gl.out; have := gh4.out; simp; omega⟩
        case rest2 =>
          rintro D2 U2 ⟨h2, h3, hD2, hK2⟩
          have gVU2 := Lib.hid (show Below V.heap.size V U2 from gVX2.out.trans (h3.below gVX2.out.size (fun b hb => by have := gVz2.out; omega)))
          have gK2 := Lib.hid hK2
          have gD12 := Lib.hid (show D1 < D2 from by have h := lt_of_heap gK1.out; have := gXX2.out.size; omega)
          have gK12 := Lib.hid (show U2.heap[D1]? = some (.deferred (some [])) from (h3.block D1 (Nat.lt_of_lt_of_le (lt_of_heap gK1.out) gXX2.out.size) (by have := lt_of_heap gK1.out; have h5 := gXs2.out; have h6 := gzU2.out; omega)).trans ((gXX2.out.block D1 (lt_of_heap gK1.out)).trans gK1.out))
          have k18 := h2.cell
          have k16 := Boxed.cell ((gVU2.out.block _ (lt_of_heap gb16.out)).trans gb16.out)
          have k14 := Boxed.cell ((gVU2.out.block _ (lt_of_heap gb14.out)).trans gb14.out)
          have kst := Boxed.cell ((gVU2.out.block _ (lt_of_heap gbQ.out)).trans gbQ.out)
          have e2 := min_ok (a := dd) (b := st) (n := N) (by rw [gdd.out]; exact gN.out)
          have e1 := sub_ok gdd.out gbd.out.1
          have e1w := wrap_sub gdd.out gll.out
          have wst := wrap_nat gst1.out
          have wst1 := wrap_suc gst1.out
          have wf1 := wrap_pred gmk1.out
          have wf2 := wrap_nat gfar1.out
          have wf3 := wrap_low gmk1.out gfar.out
          have gHU := Lib.hid (gHV.out.below gVU2.out)
          clear h2 h3 hD2 hK2 hseq2 hbn2
          gi_wp2_with fail
          rw [roundsIn_succ]
          gi_wp2_with fail
          refine (callsIn_wide.2 (h_cut_out gHU.out _ (.inl (low_lt mk far)))).mono ?_
          rintro e _ ⟨rfl, rfl⟩
          clear e1 e2 e1w wst wst1 wf1 wf3
          have wf4 := wrap_suc gll.out
          have wf5 := wrap_high gll.out gfar.out
          gi_wp2_with fail
          refine (callsIn_wide.2 (h_cut_out gHU.out _ (.inr (high_lt l.length far)))).mono ?_
          rintro e _ ⟨rfl, rfl⟩
          clear wf2 wf4 wf5 k18 k16 k14 kst
          gi_wp2_with fail
          refine (callsIn_wide.2 (h_elements gHU.out)).mono ?_
          rintro e U3 ⟨vn3, rfl, gE⟩
          obtain ⟨A3, c3, rfl, _, _, _, hS3, _⟩ := owns_sl gE.out.1
          have gS3 := Lib.hid hS3
          have gU23 := Lib.hid gE.out.2
          clear hS3 gE
          gi_wp2_with fail
          have gVU3 := Lib.hid (gVU2.out.trans (gU23.out.mono gVU2.out.size))
          have k16 := Boxed.cell ((gVU3.out.block _ (lt_of_heap gb16.out)).trans gb16.out)
          have k14 := Boxed.cell ((gVU3.out.block _ (lt_of_heap gb14.out)).trans gb14.out)
          have gdr := Lib.hid ((Below.refl U3.heap.size U3).drew)
          have gl9 : l.length ≤ 9223372036854775807 := Nat.le_trans gll.out (by decide)
          have gS14 := Lib.hid (gSV.out.below (gVU3.out.trans (gdr.out.mono gVU3.out.size)))
          have gS3d := Lib.hid (gS3.out.below gdr.out)
          have gHd := Lib.hid (gHV.out.below (gVU3.out.trans (gdr.out.mono gVU3.out.size)))
          have gl9' := Lib.hid gl9
          clear gl9
          refine wpIn_wide.2 ?_
          have hne1 : ¬ y = z + 1 := by omega
          have hne3 : ¬ y + 1 = z + 1 := by omega
          go_region_held3 (fun w' => w'.cell? ⟨y, 0, none⟩ = some (.slice An l.length cn) ∧ w'.cell? ⟨y + 1, 0, none⟩ = some (.int .i64 (mk : Nat)))
            (first | go_keep | exact ⟨k14, k16⟩ | exact ⟨(World.cell?_of_block (Below.heap_setCell _ _ _ y hne1)).trans k14'', (World.cell?_of_block (Below.heap_setCell _ _ _ (y + 1) hne3)).trans k16''⟩)
            (first
            | (go_at_call 29; (with_reducible refine (equal_true gS14.out gS3d.out gl9'.out gl9'.out).mono ?_); rintro e U4 ⟨rfl, hB4⟩; have k14' := (hB4.cell (p := ⟨y, 0, none⟩) (Nat.lt_of_lt_of_le (lt_of_heap gb14.out) (Nat.le_trans gVU3.out.size gdr.out.size))).trans (show U3.drew.cell? ⟨y, 0, none⟩ = _ from k14); have k16' := (hB4.cell (p := ⟨y + 1, 0, none⟩) (Nat.lt_of_lt_of_le (lt_of_heap gb16.out) (Nat.le_trans gVU3.out.size gdr.out.size))).trans (show U3.drew.cell? ⟨y + 1, 0, none⟩ = _ from k16); have gB4 := Lib.hid hB4; clear hB4)
            | (go_at_call 28; (with_reducible refine (h_marked (gHd.out.below gB4.out)).mono ?_); rintro e _ ⟨rfl, rfl⟩)
            | (go_at_call 10; (with_reducible refine (works_any _).mono ?_); rintro e U5 ⟨rfl, hB5⟩; have hVU5 : Below V.heap.size V U5 := (gVU3.out.trans (gdr.out.mono gVU3.out.size)).trans ((gB4.out.mono (Nat.le_trans gVU3.out.size gdr.out.size)).trans (hB5.mono (Nat.le_trans (Nat.le_trans gVU3.out.size gdr.out.size) gB4.out.size))); have hR5 : Boxed U5 (z + 1) 4 (.bool false) := (hVU5.block _ (lt_of_heap gbR.out)).trans gbR.out; have k14'' := Boxed.cell ((hVU5.block _ (lt_of_heap gb14.out)).trans gb14.out); have k16'' := Boxed.cell ((hVU5.block _ (lt_of_heap gb16.out)).trans gb16.out); have r1 := hR5.cell; have r2 := hR5.frozen; have gB5 := Lib.hid hB5; have gR5 := Lib.hid hR5; clear hB5 hR5 hVU5))
          clear k14'' k16'' k14' k16' k14 k16 hne1 hne3
          gi_wp2_with fail
          have hVU5 : Below V.heap.size V U5 := (gVU3.out.trans (gdr.out.mono gVU3.out.size)).trans ((gB4.out.mono (Nat.le_trans gVU3.out.size gdr.out.size)).trans (gB5.out.mono (Nat.le_trans (Nat.le_trans gVU3.out.size gdr.out.size) gB4.out.size)))
          have hU25 : Below U2.heap.size U2 U5 := gU23.out.trans ((gdr.out.trans ((gB4.out.mono gdr.out.size).trans (gB5.out.mono (Nat.le_trans gdr.out.size gB4.out.size)))).mono gU23.out.size)
          have hz0 := gz.out
          have hlowV := gLow.out.size
          have s2 : (U5.setCell ⟨z + 1, 0, none⟩ (.bool true)).heap[D2]? = some (.deferred (some [])) := (Below.heap_setCell _ _ _ D2 (by have := gD12.out; have := gD1.out; have := gVy.out; show D2 ≠ z + 1; omega)).trans ((hU25.block _ (lt_of_heap gK2.out)).trans gK2.out)
          have s1 : (U5.setCell ⟨z + 1, 0, none⟩ (.bool true)).heap[D1]? = some (.deferred (some [])) := (Below.heap_setCell _ _ _ D1 (by have := gD1.out; have := gVy.out; show D1 ≠ z + 1; omega)).trans ((hU25.block _ (lt_of_heap gK12.out)).trans gK12.out)
          refine leaves_two (B := V.heap.size) s2 s1 gD12.out gD1.out hlowV ((gLow.out.trans (hVU5.mono hlowV)).setCell (by show w.heap.size ≤ z + 1; omega) _) ?_
          intro WF hb hsame
          have gRF := Boxed.cell (show Boxed WF (z + 1) 4 (.bool true) from (hsame _ (by have := gVy.out; omega)).trans (gR5.out.set _))
          refine ⟨.bool true, ?_, rfl, hb⟩
          clear hb hsame s1 s2 hVU5 hU25
          simp [results, Try.results7, go_sem, gRF]
end Go.Proofs.Ytidkdidlndfbfaa
