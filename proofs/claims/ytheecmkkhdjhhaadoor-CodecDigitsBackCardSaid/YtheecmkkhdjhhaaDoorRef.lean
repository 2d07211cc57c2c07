/- Contracts of the specification's own functions on integers. -/
import Derived.Test.YtheecmkkhdjhhaaDoorHex
import Derived.Test.YtheecmkkhdjhhaaDoorLCodecTorn
import Derived.Laws.AppendOwnNone
namespace Go.Proofs.YtheecmkkhdjhhaaDoor
open Go.RowKit Go.PlainAid

set_option maxHeartbeats 400000 in
theorem rwidth_any (k : Int) (w : World) : Calls Tryd.prog 32 #[.int .i64 k] w fun e w' => e = .returned (.bool (isW k)) ∧ w = w' := by
  by_cases h1 : k = 1
  · subst h1
    go_enter Tryd.func32, Tryd.ntmps32
    go_wp2
    go_ret
    exact ⟨rfl, rfl⟩
  by_cases h2 : k = 2
  · subst h2
    go_enter Tryd.func32, Tryd.ntmps32
    go_wp2
    go_ret
    exact ⟨rfl, rfl⟩
  by_cases h4 : k = 4
  · subst h4
    go_enter Tryd.func32, Tryd.ntmps32
    go_wp2
    go_ret
    exact ⟨rfl, rfl⟩
  by_cases h8 : k = 8
  · subst h8
    go_enter Tryd.func32, Tryd.ntmps32
    go_wp2
    go_ret
    exact ⟨rfl, rfl⟩
  have e : isW k = false := by simp [isW, h1, h2, h4, h8]
  rw [e]
  have b1 : (k == 1) = false := by simp [h1]
  have b2 : (k == 2) = false := by simp [h2]
  have b4 : (k == 4) = false := by simp [h4]
  have b8 : (k == 8) = false := by simp [h8]
  clear h1 h2 h4 h8 e
  go_enter Tryd.func32, Tryd.ntmps32
  go_wp2
  go_ret
  exact ⟨rfl, rfl⟩

theorem div_div (x : Int) (j : Nat) : x / 256 ^ j / 256 = x / 256 ^ (j + 1) := by
  rw [Int.pow_succ, Int.ediv_ediv_of_nonneg (Int.le_of_lt (Int.pow_pos (by decide)))]
theorem div_bd (x : Int) (j : Nat) (h0 : 0 ≤ x) (h1 : x < 18446744073709551616) : 0 ≤ x / 256 ^ j ∧ x / 256 ^ j < 18446744073709551616 := by
  have hp : (0 : Int) < 256 ^ j := Int.pow_pos (by decide)
  exact ⟨Int.ediv_nonneg h0 (Int.le_of_lt hp), Int.lt_of_le_of_lt (Int.ediv_le_self _ h0) h1⟩

set_option maxHeartbeats 400000 in
theorem rfits_any (x k : Int) (w : World) (h0 : 0 ≤ x) (h1 : x < 18446744073709551616) : Calls Tryd.prog 19 #[.int .u64 x, .int .i64 k] w fun e w' => e = .returned (.bool (fitsB x k)) ∧ w = w' := by
  cases hk : isW k with
  | false =>
    have e : fitsB x k = false := by simp [fitsB, hk]
    rw [e]
    clear e
    go_enter Tryd.func19, Tryd.ntmps19
    go_wp2_with (go_at_call 32; refine (rwidth_any _ _).mono ?_; rintro e w' ⟨rfl, rfl⟩)
    go_ret
    exact ⟨rfl, rfl⟩
  | true =>
    have hk3 := isW_bd hk
    obtain ⟨m, rfl⟩ := Int.eq_ofNat_of_zero_le (show 0 ≤ k by omega)
    have e : (x / 256 ^ m == 0) = fitsB x m := by
      have hp : (0 : Int) < 256 ^ m := Int.pow_pos (by decide)
      simp only [fitsB, hk, Bool.true_and, Int.toNat_natCast]
      rw [Bool.eq_iff_iff, beq_iff_eq, decide_eq_true_iff]
      constructor
      · intro h
        have := Int.emod_lt_of_pos x hp
        have h2 := Int.emod_def x (256 ^ m)
        rw [h, Int.mul_zero] at h2
        omega
      · intro h
        exact Int.ediv_eq_zero_of_lt h0 h
    have E := Lib.hid e
    clear e
    go_enter Tryd.func19, Tryd.ntmps19
    go_wp2_with (go_at_call 32; refine (rwidth_any _ _).mono ?_; rintro e w' ⟨rfl, rfl⟩)
    go_loop [0, 5] (fun n i => ∃ j : Nat, j ≤ m ∧ i = .int .i64 j ∧ n = .int .u64 (x / 256 ^ j)) (fun _ i => m - (intOf i).toNat)
    case atStart => exact ⟨0, Nat.zero_le _, rfl, by simp⟩
    case round =>
      obtain ⟨j, hj, rfl, rfl⟩ := hrel
      have hb := div_bd x j h0 h1
      obtain ⟨hb1, hb2⟩ := hb
      by_cases hlt : j < m
      · go_wp2
        go_round
        case rel => exact ⟨j + 1, by omega, by go_num, by rw [div_div]⟩
        case measure => simp [intOf]; omega
      · obtain rfl : j = m := by omega
        go_wp2
        go_ret
        exact ⟨ret_bool E.out, rfl⟩

/-- 'append(out, b...)' where out is the call's own and b is a slice of bytes, nil or not. -/
theorem app_bytes {ops : Array Oper} {rest : List Oper} {o : Oper} {a : Act} {Q : Exit → Act → World → Prop} (w : World) (hgd : o.guard = none) (s x : Operand)
    (ho : o.op = .call { callee := .builtin .append, args := #[s, x], argTypes := #[22, 22] }) (base : Nat)
    (v : Value) (nv : Nat) (xs : List Value) (hs : a.eval s = v) (hown : w.ownsRow base 5 1 v nv xs)
    (A : Option Addr) (n c : Nat) (zs : List Int) (hx : a.eval x = .slice A n c) (hb : BI w A n zs) (hnil : A = none → n = 0 ∧ c = 0)
    (hn : nv + n ≤ 140737488355328) (hbase : base ≤ w.heap.size)
    (h : ∀ v' w', w'.ownsRow base 5 1 v' (nv + n) (xs ++ zs.map (Value.int .u8)) → w.grownBy w' v.ownBlock → wpList Tryd.prog ops Q rest (a.put o.dst v') w') : wpList Tryd.prog ops Q (o :: rest) a w := by
  obtain ⟨i0, hi0, hz0, hz1, hz2⟩ := info_parts info5
  cases A with
  | none =>
    obtain ⟨rfl, rfl⟩ := hnil rfl
    obtain rfl : zs = [] := List.eq_nil_of_length_eq_zero hb.1
    exact wpList_append_own_none hgd s x 22 ho base 5 i0 1 Tryd.underlying22 hi0 v nv xs hs hown hx (h v w (by simpa using hown) (World.grownBy.refl _ _))
  | some ad =>
    have hnews : ∀ (j : Nat) u, (zs.map (Value.int .u8))[j]? = some u → w.cell? (ad.add j) = some u := by
      rcases Nat.eq_zero_or_pos n with h0 | h0
      · subst h0
        obtain rfl : zs = [] := List.eq_nil_of_length_eq_zero hb.1
        intro j u hj; simp at hj
      · obtain ⟨ad', e, hc⟩ := hb.news h0
        obtain rfl : ad = ad' := Option.some.inj e
        exact hc
    exact wpList_append_own w hgd s x 22 ho base 5 i0 _ 1 1 Tryd.underlying22 hi0 hz0 hz1 hz2 rfl (by omega) v nv xs hs hown ad n c (zs.map (Value.int .u8)) hx (by simp [hb.1]) hnews (bytes_one zs) (by unfold maxLen; omega) (by omega) hbase
      (fun v' w' h1 h2 _ => h v' w' h1 h2)
theorem own_form {w : World} {B n : Nat} {v : Value} {zs : List Int} (h : w.ownsRow B 5 1 v n (zs.map (Value.int .u8))) (hb : ∀ z ∈ zs, 0 ≤ z ∧ z ≤ 255) : ∃ A c, v = .slice A n c ∧ BI w A n zs := by
  have hl : zs.length = n := by have := h.1; simpa using this
  rcases h.2 with ⟨rfl, rfl⟩ | ⟨g, cap, cur, rfl, _⟩
  · obtain rfl : zs = [] := List.eq_nil_of_length_eq_zero hl
    exact ⟨none, 0, rfl, BI.nil _ _⟩
  · exact ⟨some ⟨g, 0, none⟩, cap, rfl, own_bi h hb⟩
def Appended2 (zs : List Int) (x k : Int) (w : World) (e : Ending) (w' : World) : Prop :=
  ∃ (A : Option Addr) (m c : Nat), e = .returned (.tuple #[.slice A m c, .int .i64 (appE x k)]) ∧ BI w' A m (appL zs x k) ∧ Below w.heap.size w w'

set_option maxHeartbeats 1000000 in
theorem rappend_go (A : Option Addr) (n c : Nat) (zs : List Int) (x : Int) (k : Nat) (w : World) (hb : BI w A n zs) (hnil : A = none → n = 0 ∧ c = 0) (hn : n ≤ 140737488350000) (hk : isW k = true) (hx0 : 0 ≤ x) (hx1 : x < 18446744073709551616) (hf : fitsB x k = true) :
   Calls Tryd.prog 14 #[.slice A n c, .int .u64 x, .int .i64 k] w fun e w' => ∃ v, e = .returned (.tuple #[v, .int .i64 0]) ∧ w'.ownsRow w.heap.size 5 1 v (n + k) ((zs ++ enc x k).map (Value.int .u8)) ∧ Below w.heap.size w w' := by
  have hk1 : 1 ≤ k ∧ k ≤ 8 := by have := isW_bd hk; omega
  have hB0 : Below w.heap.size w (w.alloc (.cells #[] 5)) := (Below.refl _ _).alloc (Nat.le_refl _) _
  have hown0 : (w.alloc (.cells #[] 5)).ownsRow w.heap.size 5 1 (.slice (some ⟨w.heap.size, 0, none⟩) 0 0) 0 [] := World.ownsRow_lit w #[] 0 (Nat.le_refl _) (by unfold maxLen; omega) (by simp)
  have hb0 := hb.below hB0
  have Hnil := Lib.hid hnil
  clear hnil hb
  go_enter Tryd.func14, Tryd.ntmps14
  go_wp2_with (first
    | (go_at_call 32; refine (rwidth_any _ _).mono ?_; rintro e w' ⟨rfl, rfl⟩)
    | (go_at_call 19; refine (rfits_any _ _ _ hx0 hx1).mono ?_; rintro e w' ⟨rfl, rfl⟩)
    | (at_builtin
       refine app_bytes _ rfl (.tmp 17) (.tmp 18) rfl w.heap.size (.slice (some ⟨w.heap.size, 0, none⟩) 0 0) 0 [] rfl hown0 A n c zs rfl hb0 Hnil.out (by omega) hB0.size ?_
       intro v1 w1 hown1 hg1))
  have hB1 : Below w.heap.size w w1 := hB0.grown hg1 hB0.size (by simp [Value.ownBlock])
  have hown1' : w1.ownsRow w.heap.size 5 1 v1 (n + 0) ((zs ++ enc x 0).map (Value.int .u8)) := by simpa [enc_zero] using hown1
  obtain ⟨i0, hi0, hz0, hz1, hz2⟩ := info_parts info5
  have Hi0 := Lib.hid hi0
  have Hz0 := Lib.hid hz0
  have Hz1 := Lib.hid hz1
  have Hz2 := Lib.hid hz2
  clear hi0 hz0 hz1 hz2 hown0 hown1 hg1 hb0
  go_loopw [1, 8, 9] (fun m v i wr => ∃ j : Nat, j ≤ k ∧ i = .int .i64 j ∧ m = .int .u64 (x / 256 ^ j) ∧ wr.ownsRow w.heap.size 5 1 v (n + j) ((zs ++ enc x j).map (Value.int .u8)) ∧ Below w.heap.size w wr) (fun _ _ i _ => k - (intOf i).toNat)
  case atStart => exact ⟨0, Nat.zero_le _, rfl, by simp, hown1', hB1⟩
  case round =>
    obtain ⟨j, hj, rfl, rfl, hown, hbl⟩ := hrel
    by_cases hlt : j < k
    · have hd := div_bd x j hx0 hx1
      obtain ⟨d1, d2⟩ := hd
      go_wp2_with (at_builtin; refine wpList_append_own _ rfl (.tmp 25) (.tmp 29) 22 rfl w.heap.size 5 i0 (.int .u8 0) 1 1 Tryd.underlying22 Hi0.out Hz0.out Hz1.out Hz2.out rfl (by omega) _ _ _ rfl (hown.alloc _) ⟨wr.heap.size, 0, none⟩ 1 1 [.int .u8 (x / 256 ^ j % 256)] rfl rfl (World.news_of_block (heap_alloc_new _ _)) (by simp [Value.oneCell']) (by unfold maxLen; omega) (by omega) (by simp; have := hbl.size; omega) ?_; intro v2 w2 hown2 hg2 _)
      have hbl2 : Below w.heap.size w w2 := (hbl.alloc hbl.size _).grown hg2 (by simp; have := hbl.size; omega) (fun q hq => (hown.lt q hq).1)
      have hown3 : w2.ownsRow w.heap.size 5 1 v2 (n + (j + 1)) ((zs ++ enc x (j + 1)).map (Value.int .u8)) := by
        rw [enc_succ, ← List.append_assoc, List.map_append]
        exact hown2
      clear hown2 hg2 hown hbl
      go_wp2
      go_roundw
      case rel => exact ⟨j + 1, by omega, by go_num, by rw [div_div], hown3, hbl2⟩
      case measure => simp [intOf]; omega
    · obtain rfl : j = k := by omega
      go_wp2
      go_ret2
      exact ⟨_, rfl, hown, hbl⟩

set_option maxHeartbeats 400000 in
theorem rappend_any (A : Option Addr) (n c : Nat) (zs : List Int) (x k : Int) (w : World) (hb : BI w A n zs) (hnil : A = none → n = 0 ∧ c = 0) (hn : n ≤ 140737488350000) (hx0 : 0 ≤ x) (hx1 : x < 18446744073709551616) :
   Calls Tryd.prog 14 #[.slice A n c, .int .u64 x, .int .i64 k] w (Appended2 zs x k w) := by
  cases hk : isW k with
  | false =>
    have e2 : appE x k = 2 := by simp [appE, hk]
    have e1 : appL zs x k = [] := by rw [appL, e2]; rfl
    have fin : ∀ (e : Ending) (w' : World), (e = .returned (.tuple #[.slice none 0 0, .int .i64 2]) ∧ w = w') → Appended2 zs x k w e w' := by
      rintro e w' ⟨rfl, rfl⟩
      exact ⟨none, 0, 0, by rw [e2], by rw [e1]; exact BI.nil _ _, Below.refl _ _⟩
    refine Calls.mono ?_ fin
    clear e1 e2 fin hnil
    go_enter Tryd.func14, Tryd.ntmps14
    go_wp2_with (go_at_call 32; refine (rwidth_any _ _).mono ?_; rintro e w' ⟨rfl, rfl⟩)
    go_ret2
    exact ⟨rfl, rfl⟩
  | true =>
    cases hf : fitsB x k with
    | false =>
      have e2 : appE x k = 16 := by simp [fitsB, hk] at hf; simp [appE, hk]; omega
      have e1 : appL zs x k = [] := by rw [appL, e2]; rfl
      have fin : ∀ (e : Ending) (w' : World), (e = .returned (.tuple #[.slice none 0 0, .int .i64 16]) ∧ w = w') → Appended2 zs x k w e w' := by
        rintro e w' ⟨rfl, rfl⟩
        exact ⟨none, 0, 0, by rw [e2], by rw [e1]; exact BI.nil _ _, Below.refl _ _⟩
      refine Calls.mono ?_ fin
      clear e1 e2 fin hnil
      go_enter Tryd.func14, Tryd.ntmps14
      go_wp2_with (first | (go_at_call 32; refine (rwidth_any _ _).mono ?_; rintro e w' ⟨rfl, rfl⟩) | (go_at_call 19; refine (rfits_any _ _ _ hx0 hx1).mono ?_; rintro e w' ⟨rfl, rfl⟩))
      go_ret2
      exact ⟨rfl, rfl⟩
    | true =>
      have hk1 := isW_bd hk
      obtain ⟨m, rfl⟩ := Int.eq_ofNat_of_zero_le (show 0 ≤ k by omega)
      have e2 : appE x m = 0 := by simp [fitsB, hk] at hf; simp [appE, hk]; omega
      have e1 : appL zs x m = zs ++ enc x m := by rw [appL, e2]; rfl
      refine (rappend_go A n c zs x m w hb hnil hn hk hx0 hx1 hf).mono ?_
      rintro e w' ⟨v, rfl, ho, hbl⟩
      obtain ⟨A', c', rfl, hbi⟩ := own_form ho (by
        intro z hz
        rcases List.mem_append.1 hz with h | h
        · exact hb.2.1 z h
        · exact enc_bd _ _ z h)
      exact ⟨A', _, c', by rw [e2], by rw [e1]; exact hbi, hbl⟩

theorem pow256_le (j : Nat) (h : j ≤ 8) : (256 : Int) ^ j ≤ 18446744073709551616 := by
  rcases (show j = 0 ∨ j = 1 ∨ j = 2 ∨ j = 3 ∨ j = 4 ∨ j = 5 ∨ j = 6 ∨ j = 7 ∨ j = 8 from by omega) with rfl | rfl | rfl | rfl | rfl | rfl | rfl | rfl | rfl <;> decide
theorem drop_take_cons (zs : List Int) (a j : Nat) (h : a < zs.length) : (zs.drop a).take (j + 1) = zs[a]?.getD 0 :: (zs.drop (a + 1)).take j := by
  rw [List.drop_eq_getElem_cons h, List.take_succ_cons, List.getElem?_eq_getElem h]
  rfl

set_option maxHeartbeats 1000000 in
theorem ruint_go (A : Option Addr) (n c : Nat) (zs : List Int) (at_ k : Nat) (w : World) (hb : BI w A n zs) (hn : n ≤ 9223372036854775807) (hk : isW k = true) (h1 : at_ + k ≤ n) :
   Calls Tryd.prog 16 #[.slice A n c, .int .i64 at_, .int .i64 k] w fun e w' => e = .returned (.tuple #[.int .u64 (dec ((zs.drop at_).take k)), .int .i64 0]) ∧ w = w' := by
  have hk1 : 1 ≤ k ∧ k ≤ 8 := by have := isW_bd hk; omega
  obtain ⟨b, o, rfl, hcell⟩ := hb.2.2 (by omega)
  have hzn := Lib.hid hb.1
  have hzb := Lib.hid hb.2.1
  clear hb
  go_enter Tryd.func16, Tryd.ntmps16
  go_wp2_with (go_at_call 32; refine (rwidth_any _ _).mono ?_; rintro e w' ⟨rfl, rfl⟩)
  go_loop [8, 9] (fun m i => ∃ j : Nat, j ≤ k ∧ i = .int .i64 ((k : Int) - 1 - j) ∧ m = .int .u64 (dec ((zs.drop (at_ + (k - j))).take j))) (fun _ i => (intOf i + 1).toNat)
  case atStart => exact ⟨0, Nat.zero_le _, by simp, rfl⟩
  case round =>
    obtain ⟨j, hj, rfl, rfl⟩ := hrel
    by_cases hlt : j < k
    · obtain ⟨q, hq⟩ : ∃ q : Nat, k = q + 1 + j := ⟨k - 1 - j, by omega⟩
      have hc := hcell (at_ + q) (by omega)
      have e1 : k - j = q + 1 := by omega
      have e2 : k - (j + 1) = q := by omega
      have e3 : (k : Int) - 1 - j = q := by omega
      have hl : at_ + q < zs.length := by rw [hzn.out]; omega
      have hz : ∀ z ∈ ((zs.drop (at_ + (q + 1))).take j), 0 ≤ z ∧ z ≤ 255 := fun z hz => hzb.out z (List.mem_of_mem_drop (List.mem_of_mem_take hz))
      have hbd := dec_bd _ hz
      have hlj : ((zs.drop (at_ + (q + 1))).take j).length = j := by rw [List.length_take, List.length_drop, hzn.out]; omega
      rw [hlj] at hbd
      have hp := pow256_le (j + 1) (by omega)
      rw [Int.pow_succ] at hp
      have hstep := drop_take_cons zs (at_ + q) j hl
      rw [e1, e3]
      have hzz : 0 ≤ zs[at_ + q]?.getD 0 ∧ zs[at_ + q]?.getD 0 ≤ 255 := by
        rw [List.getElem?_eq_getElem hl]; exact hzb.out _ (List.getElem_mem hl)
      obtain ⟨d, hd⟩ : ∃ d, d = dec ((zs.drop (at_ + (q + 1))).take j) := ⟨_, rfl⟩
      obtain ⟨z, hzd⟩ : ∃ z, z = zs[at_ + q]?.getD 0 := ⟨_, rfl⟩
      have hc' : w.cell? ⟨b, o + (at_ + q), none⟩ = some (.int .u8 z) := by rw [hc, hzd]; simp [List.getD]
      rw [← hd] at hbd
      rw [← hzd] at hzz hstep
      rw [← hd]
      have b1 := hbd.1
      have b2 : d * 256 + z ≤ 18446744073709551615 := by omega
      have b3 : d * 256 ≤ 18446744073709551615 := by omega
      obtain ⟨b4, b5⟩ := hzz
      have hqa : at_ + q < n := by omega
      have hqk : q < k := by omega
      have HQ := Lib.hid hq
      have HE2 := Lib.hid e2
      have HS := Lib.hid hstep
      have HD := Lib.hid hd
      clear hc hz hbd hlj hp hstep hd hzd hcell hq e1 e2 e3
      go_wp2
      go_round
      case rel =>
        have hq := HQ.out
        refine ⟨j + 1, by omega, ?_, ?_⟩
        · congr 1; omega
        · rw [HE2.out, HS.out, dec_cons, ← Nat.add_assoc] at *
          rw [← HD.out]
          congr 1; omega
      case measure => simp [intOf]
    · obtain rfl : j = k := by omega
      have e : at_ + (j - j) = at_ := by omega
      rw [e]
      clear e hcell
      go_wp2
      go_ret2
      exact ⟨rfl, rfl⟩

set_option maxHeartbeats 400000 in
theorem ruint_any (A : Option Addr) (n c : Nat) (zs : List Int) (i k : Int) (w : World) (hb : BI w A n zs) (hn : n ≤ 9223372036854775807) (hk1 : -9223372036854775808 ≤ k) (hk2 : k ≤ 9223372036854775807) :
   Calls Tryd.prog 16 #[.slice A n c, .int .i64 i, .int .i64 k] w fun e w' => e = .returned (.tuple #[.int .u64 (uintV zs i k), .int .i64 (uintE n i k)]) ∧ w = w' := by
  have hzn : zs.length = n := hb.1
  cases hk : isW k with
  | false =>
    have e2 : uintE n i k = 2 := by simp [uintE, hk]
    have e1 : uintV zs i k = 0 := by rw [uintV, hzn, e2]; rfl
    rw [e1, e2]
    clear e1 e2 hzn hb
    go_enter Tryd.func16, Tryd.ntmps16
    go_wp2_with (go_at_call 32; refine (rwidth_any _ _).mono ?_; rintro e w' ⟨rfl, rfl⟩)
    go_ret2
    exact ⟨rfl, rfl⟩
  | true =>
    have hk3 := isW_bd hk
    by_cases hi : i < 0
    · have e2 : uintE n i k = 3 := by simp [uintE, hk, hi]
      have e1 : uintV zs i k = 0 := by rw [uintV, hzn, e2]; rfl
      rw [e1, e2]
      clear e1 e2 hzn hb
      go_enter Tryd.func16, Tryd.ntmps16
      go_wp2_with (go_at_call 32; refine (rwidth_any _ _).mono ?_; rintro e w' ⟨rfl, rfl⟩)
      go_ret2
      exact ⟨rfl, rfl⟩
    · by_cases hj : (n : Int) - k < i
      · have e2 : uintE n i k = 14 := by simp [uintE, hk, hi, hj]
        have e1 : uintV zs i k = 0 := by rw [uintV, hzn, e2]; rfl
        rw [e1, e2]
        clear e1 e2 hzn hb
        go_enter Tryd.func16, Tryd.ntmps16
        go_wp2_with (go_at_call 32; refine (rwidth_any _ _).mono ?_; rintro e w' ⟨rfl, rfl⟩)
        go_ret2
        exact ⟨rfl, rfl⟩
      · have e2 : uintE n i k = 0 := by simp [uintE, hk, hi, hj]
        have e1 : uintV zs i k = dec ((zs.drop i.toNat).take k.toNat) := by rw [uintV, hzn, e2]; rfl
        rw [e1, e2]
        obtain ⟨a, rfl⟩ := Int.eq_ofNat_of_zero_le (show 0 ≤ i by omega)
        obtain ⟨m, rfl⟩ := Int.eq_ofNat_of_zero_le (show 0 ≤ k by omega)
        exact ruint_go A n c zs a m w hb hn hk (by omega)
theorem IsRow.nil_ {k : IntKind} {w : World} {a : Option Addr} {len cap : Nat} {zs : List Int} (h : IsRow k w a len cap zs) : a = none → len = 0 ∧ cap = 0 := by
  rintro rfl
  rcases h with ⟨_, rfl, rfl, _⟩ | ⟨x, h, _⟩
  · exact ⟨rfl, rfl⟩
  · cases h
end Go.Proofs.YtheecmkkhdjhhaaDoor
