/- Contracts of the specification's Parse and Repeat. -/
import Derived.Test.YtfkkpgklciehoaaDoorRVal
namespace Go.Proofs.YtfkkpgklciehoaaDoor
open Go.RowKit Go.PlainAid

theorem own_form_n {w : World} {B n : Nat} {v : Value} {zs : List Int} (h : w.ownsRow B 5 1 v n (zs.map (Value.int .u8))) (hb : ∀ z ∈ zs, 0 ≤ z ∧ z ≤ 255) : ∃ A c, v = .slice A n c ∧ BI w A n zs := by
  have hl : zs.length = n := by have := h.1; simpa using this
  subst hl
  exact own_form h hb
theorem dgt_yes {c : Int} (h : hok c = true) : dgt c = hv c := by unfold dgt; rw [h]; rfl
theorem dgt_no {c : Int} (h : hok c = false) : dgt c = -1 := by unfold dgt; rw [h]; rfl
theorem Pref.more {s : ByteArray} {j : Nat} (h : Pref s (2 * j)) (h1 : hok (bt s (2 * j)) = true) (h2 : hok (bt s (2 * j + 1)) = true) : Pref s (2 * (j + 1)) := by
  intro i hi
  rcases (show i < 2 * j ∨ i = 2 * j ∨ i = 2 * j + 1 from by omega) with h3 | rfl | rfl
  · exact h i h3
  · exact h1
  · exact h2
theorem prs_bad {s : ByteArray} (hd : ¬ s = ⟨#[45]⟩) {v : Int} (hv : v ≠ 0) (h : prsE s = v) : prsS s = ⟨#[]⟩ := by unfold prsS; rw [if_neg hd, if_neg (by omega)]
theorem prs_form {s : ByteArray} (hd : ¬ s = ⟨#[45]⟩) (h : hexOkS s = false) : prsE s = 8 ∧ prsS s = ⟨#[]⟩ := by
  have e : prsE s = 8 := by unfold prsE; rw [if_neg hd, h]; split <;> rfl
  exact ⟨e, prs_bad hd (by decide) e⟩

set_option maxRecDepth 100000 in
set_option maxHeartbeats 4000000 in
theorem rparse_any (s : ByteArray) (w : World) (hs : s.size ≤ 1000000) : Calls Tryd.prog 19 #[.string s] w fun e w' => e = .returned (.tuple #[.string (prsS s), .int .i64 (prsE s)]) ∧ Below w.heap.size w w' := by
  by_cases hd : s = ⟨#[45]⟩
  · have e1 : prsS s = ⟨#[]⟩ := if_pos hd
    have e2 : prsE s = 0 := if_pos hd
    have ht : (s.toList == [45]) = true := by rw [dash_eq, decide_eq_true hd]
    rw [e1, e2]
    clear e1 e2 hd
    go_enter Tryd.func19, Tryd.ntmps19
    go_wp2_with fail
    go_ret2
    exact ⟨rfl, Below.refl _ _⟩
  have ht : (s.toList == [45]) = false := by rw [dash_eq, decide_eq_false hd]
  by_cases h0 : s.size = 0
  · have e2 : prsE s = 8 := by unfold prsE; rw [if_neg hd, if_pos h0]
    have e1 := prs_bad hd (by decide) e2
    have hz : ((s.size : Int) == 0) = true := by simp [h0]
    rw [e1, e2]
    clear e1 e2 hd h0
    go_enter Tryd.func19, Tryd.ntmps19
    go_wp2_with fail
    go_ret2
    exact ⟨rfl, Below.refl _ _⟩
  have hz : ((s.size : Int) == 0) = false := beq_eq_false_iff_ne.2 (by omega)
  by_cases hp : s.size % 2 = 0
  · have hp1 : ((s.size : Int) % 2 == 1) = false := beq_eq_false_iff_ne.2 (by omega)
    have gp := Lib.hid hp
    have gd := Lib.hid hd
    have g0 := Lib.hid h0
    have gsz := Lib.hid hs
    obtain ⟨vS, hvS⟩ : ∃ vS, vS = prsS s := ⟨_, rfl⟩
    obtain ⟨vE, hvE⟩ : ∃ vE, vE = prsE s := ⟨_, rfl⟩
    rw [← hvS, ← hvE]
    have gS := Lib.hid hvS
    have gE := Lib.hid hvE
    obtain ⟨i0, hi0, hz0, hz1, hz2⟩ := info_parts info5
    have Hi0 := Lib.hid hi0
    have Hz0 := Lib.hid hz0
    have Hz1 := Lib.hid hz1
    have Hz2 := Lib.hid hz2
    clear hi0 hz0 hz1 hz2 hp hd h0 hvS hvE
    have hg := get_bt s
    go_enter Tryd.func19, Tryd.ntmps19
    go_wp2_with fail
    go_loopw [4, 5, 6, 7] (fun v i _ _ wr => ∃ j : Nat, 2 * j ≤ s.size ∧ i = .int .i64 (2 * (j : Int)) ∧ Hid (wr.ownsRow w.heap.size 5 1 v j ((hexS s j).map (Value.int .u8))) ∧ Hid (Below w.heap.size w wr) ∧ Hid (Pref s (2 * j))) (fun _ i _ _ _ => s.size - (intOf i).toNat)
    case atStart => exact ⟨0, Nat.zero_le _, rfl, World.ownsRow_nil _ _ _ _, Below.refl _ _, fun i hi => absurd hi (by omega)⟩
    case round =>
      obtain ⟨j, hj, rfl, hown, hbl, hpre⟩ := hrel
      by_cases hlt : 2 * j < s.size
      · have hlt2 : 2 * j + 1 < s.size := by have := gp.out; omega
        have b1 := bt_nonneg s (2 * j)
        have b2 := bt_le s (2 * j)
        have b3 := bt_nonneg s (2 * j + 1)
        have b4 := bt_le s (2 * j + 1)
        cases k1 : hok (bt s (2 * j)) with
        | false =>
          have gn := Lib.hid (prs_form gd.out (no_of k1 (by omega)))
          have d1 := dgt_no k1
          go_wp2_with (go_at_call 30; refine (rdigit_any _ _ (by assumption) (by assumption)).mono ?_; rintro e w' ⟨rfl, rfl⟩; try rw [d1])
          go_ret2
          exact ⟨by rw [gS.out, gE.out, gn.out.1, gn.out.2]; rfl, hbl.out⟩
        | true =>
          cases k2 : hok (bt s (2 * j + 1)) with
          | false =>
            have gn := Lib.hid (prs_form gd.out (no_of k2 (by omega)))
            have d1 := dgt_yes k1
            have d2 := dgt_no k2
            have v1 := hv_bd (bt s (2 * j))
            go_wp2_with (go_at_call 30; refine (rdigit_any _ _ (by assumption) (by assumption)).mono ?_; rintro e w' ⟨rfl, rfl⟩; first | rw [d1] | rw [d2])
            go_ret2
            exact ⟨by rw [gS.out, gE.out, gn.out.1, gn.out.2]; rfl, hbl.out⟩
          | true =>
            have d1 := dgt_yes k1
            have d2 := dgt_yes k2
            obtain ⟨v1, v1'⟩ := hv_bd (bt s (2 * j))
            obtain ⟨v2, v2'⟩ := hv_bd (bt s (2 * j + 1))
            obtain ⟨x, hx⟩ : ∃ x, x = hv (bt s (2 * j)) := ⟨_, rfl⟩
            obtain ⟨y, hy⟩ : ∃ y, y = hv (bt s (2 * j + 1)) := ⟨_, rfl⟩
            rw [← hx] at d1 v1 v1'
            rw [← hy] at d2 v2 v2'
            have gm := Lib.hid (hpre.out.more k1 k2)
            have gx := Lib.hid (show hexS s (j + 1) = hexS s j ++ [16 * x + y] by rw [hexS_succ, ← hx, ← hy, Int.mul_comm])
            have q1 : IntKind.u8.wrap (16 * x + y) = 16 * x + y := by rw [IntKind.wrap_u8]; omega
            have q2 : (16 * x + y) % 256 = 16 * x + y := by omega
            have hbs := hbl.out.size
            clear hx hy k1 k2
            go_wp2_with (first
              | (go_at_call 30; refine (rdigit_any _ _ (by assumption) (by assumption)).mono ?_; rintro e w' ⟨rfl, rfl⟩; first | rw [d1] | rw [d2])
              | (at_builtin; refine wpList_append_own _ rfl (.tmp 40) (.tmp 46) 35 rfl w.heap.size 5 i0 (.int .u8 0) 1 1 Tryd.underlying35 Hi0.out Hz0.out Hz1.out Hz2.out rfl (by omega) _ j _ rfl (hown.out.alloc _) ⟨wr.heap.size, 0, none⟩ 1 1 [.int .u8 (16 * x + y)] rfl rfl (World.news_of_block (heap_alloc_new _ _)) (by simp [Value.oneCell']) (by unfold maxLen; have := gsz.out; omega) (by have := gsz.out; omega) (by simp; omega) ?_; intro v2 w2 hown2 hg2 _))
            have ge := Lib.hid ((hbl.out.alloc hbs _).grown hg2 (by simp; omega) (fun q hq => (hown.out.lt q hq).1))
            have gf := Lib.hid (show w2.ownsRow w.heap.size 5 1 v2 (j + 1) ((hexS s (j + 1)).map (Value.int .u8)) by rw [gx.out, List.map_append]; exact hown2)
            clear hown2 hg2
            go_roundw
            case rel => exact ⟨j + 1, by omega, by go_num, gf.out, ge.out, gm.out⟩
            case measure => simp [intOf]; omega
      · obtain rfl : j = s.size / 2 := by omega
        have hk := yes_of hpre.out gp.out
        obtain ⟨A, c, rfl, hI⟩ := own_form_n hown.out (hexS_bd _ _)
        obtain ⟨m, hm⟩ : ∃ m, m = s.size / 2 := ⟨_, rfl⟩
        have gk := Lib.hid hk
        have hcv := conv_bytes wr A _ c _ hI
        rw [← hm] at hcv ⊢
        have gm := Lib.hid hm
        have hnl : ¬ 2 * m < s.size := by omega
        clear hI hown hm hk hlt hj
        by_cases h3 : 512 < m
        · have gn := Lib.hid (show prsE s = 12 by unfold prsE; rw [if_neg gd.out, if_neg g0.out, gk.out, if_pos rfl, if_pos (by have := gm.out; omega)])
          have gn2 := Lib.hid (prs_bad gd.out (by decide) gn.out)
          go_wp2_with fail
          go_ret2
          exact ⟨by rw [gS.out, gE.out, gn.out, gn2.out]; rfl, hbl.out⟩
        · have gn := Lib.hid (show prsE s = 0 by unfold prsE; rw [if_neg gd.out, if_neg g0.out, gk.out, if_pos rfl, if_neg (by have := gm.out; omega)])
          have gn2 := Lib.hid (show prsS s = strOfNums (hexS s m) by unfold prsS; rw [if_neg gd.out, if_pos gn.out, gm.out])
          go_wp2_with fail
          go_ret2
          exact ⟨by rw [gS.out, gE.out, gn.out, gn2.out]; rfl, hbl.out⟩
  · have hp1 : ((s.size : Int) % 2 == 1) = true := beq_iff_eq.2 (by omega)
    have e := prs_form hd (odd_of hp)
    rw [e.1, e.2]
    clear e hd hp
    go_enter Tryd.func19, Tryd.ntmps19
    go_wp2_with fail
    go_ret2
    exact ⟨rfl, Below.refl _ _⟩
end Go.Proofs.YtfkkpgklciehoaaDoor
