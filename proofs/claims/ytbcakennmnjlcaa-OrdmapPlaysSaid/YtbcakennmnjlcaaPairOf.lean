/- pairs of a map that is valid: all its items. -/
import Derived.Test.YtbcakennmnjlcaaPairs
import Derived.Test.YtbcakennmnjlcaaInv
namespace Go.Proofs.Ytbcakennmnjlcaa
open Go.RowKit Go.Shelf Go.Sort Go.Lib
attribute [local go_sem] Oper.semAt_some

/-- The temporaries of pairs in its loop's body. -/
def pAct (gf : Nat) (lb : Array Value) (lo L : Nat) (x y : ByteArray) (t16 t17 t18 t19 t20 t21 t22 t23 : Value) : Act :=
  { tmps := #[.func (.func gf) #[] lb, .int .i64 (L : Nat), undef, .pointer (some ⟨lo, 0, none⟩), .slice none 0 0, .slice none 0 0, .pointer (some ⟨lo + 1, 0, none⟩), .pointer (some ⟨lo + 1 + 1, 0, none⟩), .string x, .string y,
      .int .i64 (L : Nat), .bool false, .func (.func gf) #[] lb, .func (.func gf) #[] lb, .string x, .string y, t16, t17, t18, t19, t20, t21, t22, t23, undef, undef, undef, undef, undef, undef], defers := [] }
/-- Where the region stands when some of its ten operations are done. -/
def PSt (gf : Nat) (lb : Array Value) (lo L : Nat) (V : World) (U1 U2 : Value) (K0 V0 : List ByteArray) (x y : ByteArray) (l : Array Bool) (a : Act) (w : World) : Prop :=
  ∃ b0 b1 b2 b3 b4 b5 b6 b7 b8 b9 : Bool, l = #[b0, b1, b2, b3, b4, b5, b6, b7, b8, b9] ∧ ∃ (v1 v2 t16 t17 t18 t19 t20 t21 t22 t23 : Value) (g1 g2 : Nat),
    a = pAct gf lb lo L x y t16 t17 t18 t19 t20 t21 t22 t23 ∧ Duo lo L V w (if b8 then v1 else U1) (if b9 then v2 else U2) v1 v2 (if b3 then K0 ++ [x] else K0) (if b7 then V0 ++ [y] else V0) ∧
    (b3 = false → v1 = U1) ∧ (b7 = false → v2 = U2) ∧ (b0 = true → t16 = U1) ∧ (b1 = true → t17 = .string x) ∧ (b2 = true → t18 = .slice (some ⟨g1, 0, none⟩) 1 1 ∧ V.heap.size ≤ g1 ∧ (b3 = false → Boxed w g1 9 (.string x))) ∧ (b3 = true → t19 = v1) ∧
    (b4 = true → t20 = U2) ∧ (b5 = true → t21 = .string y) ∧ (b6 = true → t22 = .slice (some ⟨g2, 0, none⟩) 1 1 ∧ V.heap.size ≤ g2 ∧ (b7 = false → Boxed w g2 9 (.string y))) ∧ (b7 = true → t23 = v2)
/-- What must have been done, and not been done, ahead of each operation. -/
def pNeed (i : Nat) (l : Array Bool) : Bool := match l.toList with
  | [b0, b1, b2, b3, b4, b5, b6, b7, b8, b9] => match i with
    | 0 => !b0 && !b3 && !b8
    | 1 => !b1 && !b2
    | 2 => b1 && !b2 && !b3
    | 3 => b0 && b2 && !b3 && !b7 && !b8 && !b9
    | 4 => !b4 && !b7 && !b9
    | 5 => !b5 && !b6
    | 6 => b5 && !b6 && !b7
    | 7 => b4 && b6 && b3 && !b7 && !b8 && !b9
    | 8 => b3 && b7 && b2 && b6 && !b8 && !b9
    | 9 => b3 && b7 && b8 && !b9
    | _ => false
  | _ => false
theorem cell_one {w : World} {g : Nat} {x : ByteArray} (h : Boxed w g 9 (.string x)) : ∀ (j : Nat) u, [Value.string x][j]? = some u → w.cell? ((⟨g, 0, none⟩ : Addr).add j) = some u := by
  intro j u hj
  obtain rfl : j = 0 := by
    rcases j with _ | j
    · rfl
    · simp at hj
  obtain rfl : Value.string x = u := by simpa using hj
  rw [add_plain]
  exact h.cell
theorem own_slice {w : World} {B e n : Nat} {v : Value} {xs : List Value} (h : w.ownsRow B e 1 v n xs) : ∃ A c, v = .slice A n c := by
  rcases h.2 with ⟨rfl, rfl⟩ | ⟨g, cap, cur, rfl, _⟩
  · exact ⟨_, _, rfl⟩
  · exact ⟨_, _, rfl⟩
theorem app_in {F : Fence} {n : Nat} (w w1 : World) {o : Oper} {a : Act} {K : Act → World → Prop} {Q : Exit → Act → World → Prop} (s x : Operand)
    (ho : o.op = .call { callee := .builtin .append, args := #[s, x], argTypes := #[118, 118] }) (v u v' : Value) (hs : a.eval s = v) (hx : a.eval x = u) (hr : (Builtin.append_ #[118, 118] o.type #[v, u]).run Try.prog w = .ok v' w1) (h : K (a.put o.dst v') w1) : o.wpIn F n Try.prog a w K Q := by
  unfold Oper.wpIn
  refine ⟨by simp [Oper.about, ho, resolve, Target.leads, Sem.run_pure], ?_⟩
  rw [Oper.semAt_plain F _ _ (by rw [ho]; intro c hc'; cases hc')]
  simp [execOp, ho, resolve, invoke, builtin, hs, hx, hr, Result.andThen]
  exact h
theorem app_step {F : Fence} {n : Nat} (w w1 : World) {ops : Array Oper} {i : Nat} {o : Oper} {a : Act} {K : Act → World → Prop} {Q : Exit → Act → World → Prop} (hi : ops[i]? = some o) (hg : o.guard = none) (s x : Operand)
    (ho : o.op = .call { callee := .builtin .append, args := #[s, x], argTypes := #[118, 118] }) (v u v' : Value) (hs : a.eval s = v) (hx : a.eval x = u) (hr : (Builtin.append_ #[118, 118] o.type #[v, u]).run Try.prog w = .ok v' w1) (h : K (a.put o.dst v') w1) : wpOpIn F n Try.prog ops Q i K a w := by
  unfold wpOpIn
  rw [hi]
  have hw : Region.wanted o (yielded ops a.tmps) = true := by simp [Region.wanted, hg]
  simp only [hw, if_true]
  exact app_in w w1 s x ho v u v' hs hx hr h
theorem duo_drew {lo L : Nat} {V W : World} {u1 u2 v1 v2 : Value} {ks vs : List ByteArray} (h : Duo lo L V W u1 u2 v1 v2 ks vs) : Duo lo L V W.drew u1 u2 v1 v2 ks vs :=
  ⟨h.bL, h.b1, h.b2, h.r1, h.r2, h.ne, h.ko.trans ⟨Nat.le_refl _, fun _ _ hk _ => hk⟩, h.kb.drew⟩
set_option maxRecDepth 100000 in
set_option maxHeartbeats 8000000 in
/-- pairs, with a limit that is not met. -/
theorem pairs_some (gf : Nat) (lb : Array Value) (n₀ L : Nat) (T : List (SS.K × SS.V)) (w0 w : World) (hn : n₀ ≤ w.heap.size) (hb0 : Below w0.heap.size w0 w) (eg : ∀ args w, (callFunc gf args).run Try.prog w = .ok (.enter gf args) w)
    (hT : T.length < L) (hL : L ≤ 1000001)
    (hseq : ∀ n, SeqStopsK Fence.wide n Try.prog gf lb SS.encs (Below n₀) (fun ys => ys = T) (fun pre => pre <+: T) T.length w0) :
    Calls Try.prog 83 #[.func (.func gf) #[] lb, .int .i64 (L : Nat)] w (FromRef w (T.map Prod.fst) (T.map Prod.snd)) := by
  have hL0 : ¬ (L : Int) ≤ 0 := by omega
  refine (callsIn_wide (n := 3)).1 ?_
  refine callsIn_of_wp_marks Try.func83 rfl trivial ?_ rfl
  simp only [Try.ntmps83, List.size_toArray, List.length_cons, List.length_nil, Nat.reduceAdd, Nat.reduceSub, Array.replicate_succ, Array.replicate_zero, List.push_toArray, List.append_toArray, List.nil_append, List.cons_append]
  have t1 : Fence.wide.fn 141 := trivial
  gi_wp2_with (gi_at_call 141; refine (callsIn_wide.2 (SS.two_any _ _ _)).mono ?_; rintro e w' ⟨rfl, rfl⟩)
  have b0 := Boxed.new w 3 (.int .i64 (L : Nat))
  have b1 := Boxed.new (w.alloc (.cells #[.int .i64 (L : Nat)] 3)) 118 (.slice none 0 0)
  have b2 := Boxed.new ((w.alloc (.cells #[.int .i64 (L : Nat)] 3)).alloc (.cells #[.slice none 0 0] 118)) 118 (.slice none 0 0)
  simp only [World.size_alloc] at b1 b2
  have hB0 : Below w.heap.size w (((w.alloc (.cells #[.int .i64 (L : Nat)] 3)).alloc (.cells #[.slice none 0 0] 118)).alloc (.cells #[.slice none 0 0] 118)) := (((Below.refl _ w).alloc (Nat.le_refl _) _).alloc (by simp) _).alloc (by simp; omega) _
  have hD0 : DuoAt w w.heap.size L [] (((w.alloc (.cells #[.int .i64 (L : Nat)] 3)).alloc (.cells #[.slice none 0 0] 118)).alloc (.cells #[.slice none 0 0] 118)) := duo_first ((b0.alloc _).alloc _) (b1.alloc _) b2 hB0
  refine wpIn_rangeFunc_ownF rfl (by omega) (gf := gf) (lb := lb) rfl trivial eg (hseq 2) belowK_t (belowK_b (by simp; omega)) (hb0.trans (hB0.mono hb0.size)) (fun _ => rfl)
    (DuoAt w w.heap.size L)
    (fun _ _ _ => False)
    (fun s A B row hs hg hr => duo_own w w.heap.size L (Nat.le_refl _) s A B row hs hg (fun r e => ⟨by have := (hr r e).1; simp at this; omega, (hr r e).2⟩))
    (fun _ _ _ _ _ hs _ _ => hs)
    hD0
    ?a1 ?assign ?body ?done ?stop
  case assign =>
    intro l x W K hK
    unfold SS.encs
    gi_wp2
    exact hK
  case body =>
    rintro l pre x W ⟨⟨U1, U2, hDuo⟩, hB⟩ hlt
    have hlo : w.heap.size ≤ W.heap.size := hB.size
    have hbo := hDuo.b2.lt
    gi_wp2_with fail
    rename_i K1 hK1
    have hU1 : ∀ g, U1.ownBlock = some g → g < W.heap.size := fun g e => (hDuo.r1.lt g e).2
    obtain ⟨i0, hi0, hz0, hz1, hz2⟩ := info_parts info9
    refine wpIn_region_inv (by kernel_rfl) pNeed (by kernel_rfl) (PSt gf lb w.heap.size L W U1 U2 (pre.map Prod.fst) (pre.map Prod.snd) x.1 x.2) ?_ ?_ ?_
    · exact ⟨false, false, false, false, false, false, false, false, false, false, rfl, U1, U2, undef, undef, undef, undef, undef, undef, undef, undef, 0, 0, rfl, duo_drew hDuo, fun _ => rfl, fun _ => rfl, fun e => (by cases e), fun e => (by cases e), fun e => (by cases e), fun e => (by cases e), fun e => (by cases e), fun e => (by cases e), fun e => (by cases e), fun e => (by cases e)⟩
    · rintro ll i a X hneed ⟨b0, b1, b2, b3, b4, b5, b6, b7, b8, b9, rfl, v1, v2, t16, t17, t18, t19, t20, t21, t22, t23, g1, g2, rfl, hD, h3, h7, f0, f1, f2, f3, f4, f5, f6, f7⟩
      have hi : i < 10 := by
        rcases Nat.lt_or_ge i 10 with h | h
        · exact h
        · obtain ⟨j, rfl⟩ : ∃ j, i = j + 10 := ⟨i - 10, by omega⟩
          simp [pNeed] at hneed
      rcases (show i = 0 ∨ i = 1 ∨ i = 2 ∨ i = 3 ∨ i = 4 ∨ i = 5 ∨ i = 6 ∨ i = 7 ∨ i = 8 ∨ i = 9 by omega) with rfl | rfl | rfl | rfl | rfl | rfl | rfl | rfl | rfl | rfl
      · simp [pNeed] at hneed
        obtain ⟨⟨rfl, rfl⟩, rfl⟩ := hneed
        have c := hD.b1.cell
        simp only [Bool.false_eq_true, if_false] at c
        unfold pAct
        refine wpOpIn_step rfl (fun K hK => ?_)
        go_simp
        exact hK _ _ ⟨true, b1, b2, false, b4, b5, b6, b7, false, b9, rfl, v1, v2, U1, t17, t18, t19, t20, t21, t22, t23, g1, g2, rfl, hD, h3, h7, fun _ => rfl, f1, f2, f3, f4, f5, f6, f7⟩
      · simp [pNeed] at hneed
        obtain ⟨rfl, rfl⟩ := hneed
        unfold pAct
        refine wpOpIn_step rfl (fun K hK => ?_)
        go_simp
        exact hK _ _ ⟨b0, true, false, b3, b4, b5, b6, b7, b8, b9, rfl, v1, v2, t16, .string x.1, t18, t19, t20, t21, t22, t23, g1, g2, rfl, hD, h3, h7, f0, fun _ => rfl, f2, f3, f4, f5, f6, f7⟩
      · simp [pNeed] at hneed
        obtain ⟨⟨rfl, rfl⟩, rfl⟩ := hneed
        obtain rfl := f1 rfl
        unfold pAct
        refine wpOpIn_step rfl (fun K hK => ?_)
        go_simp
        exact hK _ _ ⟨b0, true, true, false, b4, b5, b6, b7, b8, b9, rfl, v1, v2, t16, _, _, t19, t20, t21, t22, t23, X.heap.size, g2, rfl, duo_alloc hD _, h3, h7, f0, fun _ => rfl, fun _ => ⟨rfl, hD.ko.size, fun _ => Boxed.new X 9 _⟩, f3, f4, f5, fun e => ⟨(f6 e).1, (f6 e).2.1, fun e' => ((f6 e).2.2 e').alloc _⟩, f7⟩
      · simp [pNeed] at hneed
        obtain ⟨⟨⟨⟨⟨rfl, rfl⟩, rfl⟩, rfl⟩, rfl⟩, rfl⟩ := hneed
        obtain rfl := f0 rfl
        obtain ⟨rfl, hg1, hb1⟩ := f2 rfl
        obtain rfl := h3 rfl
        obtain rfl := h7 rfl
        simp only [Bool.false_eq_true, if_false] at hD
        obtain ⟨v', w1, hr, hown, hgrow, -, hat⟩ := run_append_own_at (P := Try.prog) X w.heap.size 118 118 9 i0 (.string ⟨#[]⟩) 1 16 Try.underlying118 hi0 hz0 hz1 hz2 rfl (by decide) _ _ _ hD.r1 ⟨g1, 0, none⟩ 1 1 [.string x.1] rfl (cell_one (hb1 rfl)) (by simp [Value.oneCell']) (by unfold maxLen; simp; omega) (by simp; omega) hD.le
        unfold pAct
        refine app_step X w1 rfl rfl (.tmp 16) (.tmp 18) rfl _ _ v' rfl rfl hr ?_
        exact ⟨true, b1, true, true, b4, b5, b6, false, false, false, rfl, v', v2, _, t17, _, v', t20, t21, t22, t23, g1, g2, rfl, duo_app1 hD hown hgrow hat, fun e => (by cases e), fun _ => rfl, fun _ => rfl, f1, fun _ => ⟨rfl, hg1, fun e => (by cases e)⟩, fun _ => rfl, f4, f5, fun e => ⟨(f6 e).1, (f6 e).2.1, fun e' => ((f6 e).2.2 e').kept hgrow (fun e2 => by have h1 := hU1 _ e2.symm; have h2 := (f6 e).2.1; omega)⟩, f7⟩
      · simp [pNeed] at hneed
        obtain ⟨⟨rfl, rfl⟩, rfl⟩ := hneed
        have c := hD.b2.cell
        simp only [Bool.false_eq_true, if_false] at c
        unfold pAct
        refine wpOpIn_step rfl (fun K hK => ?_)
        go_simp
        exact hK _ _ ⟨b0, b1, b2, b3, true, b5, b6, false, b8, false, rfl, v1, v2, t16, t17, t18, t19, U2, t21, t22, t23, g1, g2, rfl, hD, h3, h7, f0, f1, f2, f3, fun _ => rfl, f5, f6, f7⟩
      · simp [pNeed] at hneed
        obtain ⟨rfl, rfl⟩ := hneed
        unfold pAct
        refine wpOpIn_step rfl (fun K hK => ?_)
        go_simp
        exact hK _ _ ⟨b0, b1, b2, b3, b4, true, false, b7, b8, b9, rfl, v1, v2, t16, t17, t18, t19, t20, .string x.2, t22, t23, g1, g2, rfl, hD, h3, h7, f0, f1, f2, f3, f4, fun _ => rfl, f6, f7⟩
      · simp [pNeed] at hneed
        obtain ⟨⟨rfl, rfl⟩, rfl⟩ := hneed
        obtain rfl := f5 rfl
        unfold pAct
        refine wpOpIn_step rfl (fun K hK => ?_)
        go_simp
        exact hK _ _ ⟨b0, b1, b2, b3, b4, true, true, false, b8, b9, rfl, v1, v2, t16, t17, t18, t19, t20, _, _, t23, g1, X.heap.size, rfl, duo_alloc hD _, h3, h7, f0, f1, fun e => ⟨(f2 e).1, (f2 e).2.1, fun e' => ((f2 e).2.2 e').alloc _⟩, f3, f4, fun _ => rfl, fun _ => ⟨rfl, hD.ko.size, fun _ => Boxed.new X 9 _⟩, f7⟩
      · simp [pNeed] at hneed
        obtain ⟨⟨⟨⟨⟨rfl, rfl⟩, rfl⟩, rfl⟩, rfl⟩, rfl⟩ := hneed
        obtain rfl := f4 rfl
        obtain ⟨rfl, hg2, hb2⟩ := f6 rfl
        obtain rfl := h7 rfl
        simp only [Bool.false_eq_true, if_false, if_true] at hD
        obtain ⟨v', w1, hr, hown, hgrow, -, hat⟩ := run_append_own_at (P := Try.prog) X w.heap.size 118 118 9 i0 (.string ⟨#[]⟩) 1 16 Try.underlying118 hi0 hz0 hz1 hz2 rfl (by decide) _ _ _ hD.r2 ⟨g2, 0, none⟩ 1 1 [.string x.2] rfl (cell_one (hb2 rfl)) (by simp [Value.oneCell']) (by unfold maxLen; simp; omega) (by simp; omega) hD.le
        unfold pAct
        refine app_step X w1 rfl rfl (.tmp 20) (.tmp 22) rfl _ _ v' rfl rfl hr ?_
        exact ⟨b0, b1, b2, true, true, b5, true, true, false, false, rfl, v1, v', t16, t17, t18, t19, _, t21, _, v', g1, g2, rfl, duo_app2 hD hown hgrow hat, fun e => (by cases e), fun e => (by cases e), f0, f1, fun e => ⟨(f2 e).1, (f2 e).2.1, fun e' => (by cases e')⟩, f3, fun _ => rfl, f5, fun _ => ⟨rfl, hg2, fun e => (by cases e)⟩, fun _ => rfl⟩
      · simp [pNeed] at hneed
        obtain ⟨⟨⟨⟨⟨rfl, rfl⟩, rfl⟩, rfl⟩, rfl⟩, rfl⟩ := hneed
        obtain rfl := f3 rfl
        simp only [Bool.false_eq_true, if_false, if_true] at hD
        obtain ⟨A1, q1, hs1⟩ := own_slice hD.r1
        generalize (pre.map Prod.fst ++ [x.1]).length = m1 at hs1
        subst hs1
        have c := hD.b1.cell
        have c' := hD.b1.frozen
        have F2 := Lib.hid f2
        have F6 := Lib.hid f6
        have F7 := Lib.hid f7
        clear f2 f6 f7
        unfold pAct
        refine wpOpIn_step rfl (fun K hK => ?_)
        go_simp
        exact hK _ _ ⟨b0, b1, true, true, b4, b5, true, true, true, false, rfl, _, v2, t16, t17, t18, _, t20, t21, t22, t23, g1, g2, rfl, duo_set1 hD _, fun e => (by cases e), fun e => (by cases e), f0, f1, fun e => ⟨(F2.out e).1, (F2.out e).2.1, fun e' => (by cases e')⟩, fun _ => rfl, f4, f5, fun e => ⟨(F6.out e).1, (F6.out e).2.1, fun e' => (by cases e')⟩, F7.out⟩
      · simp [pNeed] at hneed
        obtain ⟨⟨⟨rfl, rfl⟩, rfl⟩, rfl⟩ := hneed
        obtain rfl := f7 rfl
        simp only [Bool.false_eq_true, if_false, if_true] at hD
        obtain ⟨A1, q1, hs1⟩ := own_slice hD.r2
        generalize (pre.map Prod.snd ++ [x.2]).length = m1 at hs1
        subst hs1
        have c := hD.b2.cell
        have c' := hD.b2.frozen
        have F3 := Lib.hid f3
        clear f3
        unfold pAct
        refine wpOpIn_step rfl (fun K hK => ?_)
        go_simp
        exact hK _ _ ⟨b0, b1, b2, true, b4, b5, b6, true, true, true, rfl, v1, _, t16, t17, t18, t19, t20, t21, t22, _, g1, g2, rfl, duo_set2 hD _, fun e => (by cases e), fun e => (by cases e), f0, f1, fun e => ⟨(f2 e).1, (f2 e).2.1, fun e' => (by cases e')⟩, F3.out, f4, f5, fun e => ⟨(f6 e).1, (f6 e).2.1, fun e' => (by cases e')⟩, fun _ => rfl⟩
    · rintro ll a X hall ⟨b0, b1, b2, b3, b4, b5, b6, b7, b8, b9, rfl, v1, v2, t16, t17, t18, t19, t20, t21, t22, t23, g1, g2, rfl, hD, -, -, -, -, -, -, -, -, -, -⟩
      simp at hall
      obtain ⟨rfl, rfl, rfl, rfl, rfl, rfl, rfl, rfl, rfl, rfl⟩ := hall
      simp only [if_true] at hD
      obtain ⟨m, hm⟩ : ∃ m, m = (pre.map Prod.fst ++ [x.1]).length := ⟨_, rfl⟩
      have hmL : ¬ (m : Int) = (L : Int) := by rw [hm]; simp; omega
      have hmN : ¬ m = L := by rw [hm]; simp; omega
      obtain ⟨A, c, hs1⟩ := own_slice hD.r1
      rw [← hm] at hs1
      subst hs1
      have c1 := hD.b1.cell
      have cL := hD.bL.cell
      have gD := Lib.hid hD
      have gm := Lib.hid hm
      clear hD hDuo hlt hseq hm
      refine hK1 _ _ ?_
      unfold pAct
      gi_wp2_with fail
      refine ⟨gD.out.ko, gD.out.kb.mono ?_, ⟨_, _, by simpa using duo_start gD.out⟩, hB.trans gD.out.kb⟩
      exact hn
  case done =>
    rintro D ys W hD rfl ⟨⟨v1, v2, hDuo⟩, hB⟩ hK
    have q1 := hDuo.b1.cell
    have q2 := hDuo.b2.cell
    gi_wp2
    gi_region
    all_goals gi_wp2
    all_goals
      have hK' : W.drew.heap[D]? = some (.deferred (some [])) := hK
      refine ⟨by simp, .inl ⟨_, _, rfl, run_takeDeferred hK', ?_⟩⟩
      refine ⟨_, results_tmp2 rfl _ _ _, ?_⟩
      have hb9 := belowK_b (w := w) (Nat.le_refl _) W.drew D _ (.deferred none) (by simp at hD; omega) hK' rfl rfl
      have hw9 := hB.drew.trans hb9
      have el : (ys.map Prod.snd).length = (ys.map Prod.fst).length := by simp
      have nd : ∀ v n xs, W.ownsRow w.heap.size 9 1 v n xs → v.ownBlock = none ∨ v.ownBlock ≠ some D := fun v n xs hw => by
        cases hv : v.ownBlock with
        | none => exact .inl rfl
        | some g =>
          refine .inr fun e => ?_
          obtain rfl : g = D := Option.some.inj e
          have := cells_of_row hw g _ hv hK
          cases this
      have r1 := hDuo.r1
      have r2 := hDuo.r2
      rw [el] at r2
      have k1 := (owns_drew r1).kept (grownBy_putObj' W.drew D (.deferred none)) (nd _ _ _ r1)
      have k2 := (owns_drew r2).kept (grownBy_putObj' W.drew D (.deferred none)) (nd _ _ _ r2)
      obtain ⟨A1, d1, e1⟩ := own_slice r1
      obtain ⟨A2, d2, e2⟩ := own_slice r2
      subst e1 e2
      obtain ⟨s1, s2, s3⟩ := owns_slice k1
      obtain ⟨s4, s5, s6⟩ := owns_slice k2
      exact ⟨A1, d1, A2, d2, rfl, s1, s4, s2, s3, s5, s6, hw9⟩
  case stop =>
    rintro D c pre W _ _ h _
    exact h.elim
end Go.Proofs.Ytbcakennmnjlcaa
