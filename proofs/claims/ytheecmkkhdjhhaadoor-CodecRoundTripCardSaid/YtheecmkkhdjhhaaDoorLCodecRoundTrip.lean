/- The walk of CodecRoundTrip. -/
import Derived.Test.YtheecmkkhdjhhaaDoorRound
import Derived.RegionTactic
import Derived.ChangeAlike
import Derived.Deep.DeepCutAuto
import Derived.Deep.CutBlock
import Derived.WalkSmall
namespace Go.Proofs.YtheecmkkhdjhhaaDoor
open Go.RowKit Go.PlainAid

def ints (l : List Nat) : List Value := l.map fun (x : Nat) => Value.int .i64 (x : Int)
/-- What holds at the head of the first loop. -/
def RelOne (L Z : List Int) (_a0 : Option Addr) (_cap0 : Nat) (wb : World) (m1 : Nat) (so sa sv su si : Value) (wr : World) : Prop :=
  ∃ (i : Nat) (A : Option Addr) (c : Nat) (out : List Int) (offs ws : List Nat), i ≤ m1 ∧ ws.length = i ∧ so = .slice A out.length c ∧ sa = .int .i64 (out.length : Int) ∧ si = .int .i64 (i : Int) ∧
    Below wb.heap.size wb wr ∧ BI wr A out.length out ∧ out.length ≤ Z.length + 8 * i ∧ Inv L Z out offs ws ∧ (out.length ≤ c ∧ c ≤ 9223372036854775807) ∧
    wr.ownsRow wb.heap.size 3 1 sv i (ints offs) ∧ wr.ownsRow wb.heap.size 3 1 su i (ints ws) ∧ Sep sv su
theorem RelOne.start {L Z : List Int} {a0 : Option Addr} {cap0 m0 m1 : Nat} {wb : World} (hZ : BI wb a0 m0 Z) (hl : Z.length = m0) (hc : m0 ≤ cap0 ∧ cap0 ≤ 9223372036854775807) :
    RelOne L Z a0 cap0 wb m1 (.slice a0 m0 cap0) (.int .i64 m0) (.slice none 0 0) (.slice none 0 0) (.int .i64 0) wb := by
  subst hl
  exact ⟨0, a0, cap0, Z, [], [], Nat.zero_le _, rfl, rfl, rfl, rfl, Below.refl _ _, hZ, by omega, Inv.start L Z, hc, World.ownsRow_nil _ _ _ _, World.ownsRow_nil _ _ _ _, fun g h => by cases h⟩

theorem info3 : (Tryd.prog.info? 3).map (fun i => (i.zero, i.size, i.bytes)) = some (some (.int .i64 0), 1, 8) := by kernel_rfl
theorem sep_kept {w w' : World} {base n : Nat} {e : TypeId} {size : Nat} {v1 v2 : Value} {xs : List Value} (hs : Sep v1 v2) (h : w.ownsRow base e size v2 n xs) (hg : w.grownBy w' v1.ownBlock) : w'.ownsRow base e size v2 n xs := by
  refine h.kept hg ?_
  cases h2 : v2.ownBlock with
  | none => exact .inl rfl
  | some g => exact .inr (fun he => hs g he.symm h2)
theorem ints_snoc (l : List Nat) (x : Nat) : ints (l ++ [x]) = ints l ++ [.int .i64 (x : Int)] := by simp [ints]
theorem rt_step {L Z out : List Int} {a0 : Option Addr} {cap0 m1 i k gN g1 c1 g2 c2 : Nat} {n : Int} {offs ws : List Nat} {sv su : Value} {wb w2 w3 w4 : World} {o1 o2 : Obj}
    (hi : i < m1) (hws : ws.length = i) (hb2 : Below wb.heap.size wb w2) (hlen : out.length ≤ Z.length + 8 * i) (hinv : Inv L Z out offs ws) (hk : isW k = true) (h0 : 0 ≤ n) (hkn : n < 256 ^ k) (hn : n = L.getD i 0) (hsmall : out.length + k ≤ 100000)
    (hrow : Row w2 gN (out ++ enc n k)) (hob : ∀ z ∈ out, 0 ≤ z ∧ z ≤ 255) (hsep : Sep sv su) (hv1 : w2.ownsRow wb.heap.size 3 1 sv i (ints offs)) (hv2 : w2.ownsRow wb.heap.size 3 1 su i (ints ws))
    (hown3 : w3.ownsRow wb.heap.size 3 1 (.slice (some ⟨g1, 0, none⟩) (i + 1) c1) (i + 1) (ints offs ++ [.int .i64 (out.length : Int)])) (hg3 : (w2.alloc o1).grownBy w3 sv.ownBlock) (hat3 : sv.ownBlock = some g1 ∨ g1 = w2.heap.size + 1) (hlt3 : g1 < w3.heap.size)
    (hown4 : w4.ownsRow wb.heap.size 3 1 (.slice (some ⟨g2, 0, none⟩) (i + 1) c2) (i + 1) (ints ws ++ [.int .i64 (k : Int)])) (hg4 : (w3.alloc o2).grownBy w4 su.ownBlock) (hat4 : su.ownBlock = some g2 ∨ g2 = w3.heap.size + 1) :
    RelOne L Z a0 cap0 wb m1 (.slice (some ⟨gN, 0, none⟩) (out.length + k) (out.length + k)) (.int .i64 ((out.length : Int) + k)) (.slice (some ⟨g1, 0, none⟩) (i + 1) c1) (.slice (some ⟨g2, 0, none⟩) (i + 1) c2) (.int .i64 ((i : Int) + 1)) w4 := by
  have hk1 : 1 ≤ k ∧ k ≤ 8 := by have := isW_bd hk; omega
  have hv1a := hv1.alloc o1
  have hv2a := hv2.alloc o1
  have hrow1 : Row (w2.alloc o1) gN (out ++ enc n k) := hrow.below ((Below.refl _ _).alloc (Nat.le_refl _) _)
  have hrow3 : Row w3 gN (out ++ enc n k) := hrow1.grown hg3 (own_ne_row hv1a hrow1)
  have hv2c := sep_kept hsep hv2a hg3
  have hv2d := hv2c.alloc o2
  have hrow3a : Row (w3.alloc o2) gN (out ++ enc n k) := hrow3.below ((Below.refl _ _).alloc (Nat.le_refl _) _)
  have hrow4 : Row w4 gN (out ++ enc n k) := hrow3a.grown hg4 (own_ne_row hv2d hrow3a)
  have hne : su.ownBlock ≠ some g1 := by
    rcases hat3 with h | rfl
    · exact hsep g1 h
    · intro h
      have := (hv2.lt _ h).2
      omega
  have hv1' : w4.ownsRow wb.heap.size 3 1 (.slice (some ⟨g1, 0, none⟩) (i + 1) c1) (i + 1) (ints offs ++ [.int .i64 (out.length : Int)]) :=
    (hown3.alloc o2).kept hg4 (.inr (fun h => hne (by rw [← h]; rfl)))
  have hs2 : wb.heap.size ≤ w2.heap.size := hb2.size
  have hs3 : wb.heap.size ≤ w3.heap.size := by
    have := hg3.size
    simp at this; omega
  have hbl : Below wb.heap.size wb w4 :=
    ((((hb2.alloc hs2 o1).grown hg3 (by simp; omega) (fun q hq => (hv1.lt q hq).1))).alloc hs3 o2).grown hg4 (by simp; omega) (fun q hq => (hv2.lt q hq).1)
  have hbi : BI w4 (some ⟨gN, 0, none⟩) (out.length + k) (out ++ enc n k) := hrow4.bi (by rw [List.length_append, length_enc]) (by
    intro z hz
    rcases List.mem_append.1 hz with h | h
    · exact hob z h
    · exact enc_bd _ _ z h)
  have hl : (out ++ enc n k).length = out.length + k := by rw [List.length_append, length_enc]
  subst hws
  refine ⟨ws.length + 1, some ⟨gN, 0, none⟩, out.length + k, out ++ enc n k, offs ++ [out.length], ws ++ [k], by omega, by simp, by rw [hl], by rw [hl]; go_num, by go_num, hbl, by rw [hl]; exact hbi, by rw [hl]; omega, hinv.step n k hk h0 hkn hn.symm, ⟨by rw [hl]; exact Nat.le_refl _, by omega⟩, by rw [ints_snoc]; exact hv1', by rw [ints_snoc]; exact hown4, ?_⟩
  intro g h1 h2
  have e1 : g1 = g := by simpa [Value.ownBlock] using h1
  have e2 : g2 = g := by simpa [Value.ownBlock] using h2
  subst e1
  subst e2
  rcases hat4 with h | h
  · exact hne h
  · omega

theorem ints_cell {w : World} {base g n cap j : Nat} {l : List Nat} (h : w.ownsRow base 3 1 (.slice (some ⟨g, 0, none⟩) n cap) n (ints l)) (hj : j < n) : w.cell? ⟨g, j, none⟩ = some (.int .i64 ((l.getD j 0 : Nat) : Int)) := by
  have hl : l.length = n := by have := h.1; simpa [ints] using this
  rw [h.cellAt j (by omega)]
  simp [ints, List.getElem?_eq_getElem (show j < l.length by omega)]
theorem rt_uint {A : Option Addr} {m c o q : Nat} {out : List Int} {n : Int} {w : World} (h : Wid w) (hb : BI w A m out) (hm : m ≤ 100000) (hp : isW q = true ∧ o + q ≤ out.length ∧ dec ((out.drop o).take q) = n) (k : Nat) :
    Calls Tryd.prog 15 #[.slice A m c, .int .i64 (o : Int), .int .i64 (q : Int)] (w.drewN k) fun e w' => e = .returned (.tuple #[.int .u64 n, .int .i64 0]) ∧ w' = w.drewN k := by
  have := uint_go A m c out o q (w.drewN k) h hb (by omega) hp.1 (by rw [← hb.1]; exact hp.2.1)
  rw [hp.2.2] at this
  exact this.mono fun _ _ ⟨a, b⟩ => ⟨a, b.symm⟩

def WidthFor (n : Int) (i : Nat) (w1 : World) (s14 s40 : Value) (wx : World) : Prop := ∃ k : Nat, s14 = .int .i64 (k : Int) ∧ s40 = .int .i64 (i : Int) ∧ isW k = true ∧ n < 256 ^ k ∧ w1 = wx

set_option maxRecDepth 100000 in
set_option maxHeartbeats 2000000 in
theorem rt_core (a0 : Option Addr) (len0 cap0 m0 : Nat) (Z : List Int) (a1 : Option Addr) (len1 cap1 m1 : Nat) (L : List Int) (a2 : Int) (w : World) (wid : Wid w)
    (hZ : BI w a0 m0 Z) (hnil : a0 = none → m0 = 0 ∧ cap0 = 0) (hL : UI w a1 m1 L) (l0 : len0 ≤ cap0) (l1 : len1 ≤ cap1) (c0 : cap0 ≤ 9223372036854775807) (c1 : cap1 ≤ 9223372036854775807)
    (hm0 : (len0 ≤ 300 ∧ m0 = len0) ∨ (300 < len0 ∧ m0 = 300)) (hm1 : (len1 ≤ 50 ∧ m1 = len1) ∨ (50 < len1 ∧ m1 = 50)) (x0 : 0 ≤ a2) (x1 : a2 ≤ 255) :
    Calls Tryd.prog 6 #[.slice a0 len0 cap0, .slice a1 len1 cap1, .int .u8 a2] w fun e w' => e = .returned (.bool true) ∧ Below w.heap.size w w' := by
  have hm0' : m0 ≤ 300 := by omega
  have hmc : m0 ≤ cap0 ∧ cap0 ≤ 9223372036854775807 := by omega
  have hm1' : m1 ≤ 50 := by omega
  have Hnil := Lib.hid hnil
  clear hnil
  go_enter Tryd.func6, Tryd.ntmps6
  go_upto_region 1 with fail
  go_cut [0, 1] (fun s0 s1 wx => s0 = .slice a0 m0 cap0 ∧ s1 = .slice a1 m1 cap1 ∧ Below w.heap.size w wx)
  case first =>
    rcases hm0 with ⟨g0, rfl⟩ | ⟨g0, rfl⟩
    all_goals rcases hm1 with ⟨g1, rfl⟩ | ⟨g1, rfl⟩
    all_goals go_quiet (fail)
    all_goals (go_wp2_with fail; go_meet; exact ⟨rfl, rfl, below_drewN (Below.refl _ _) _⟩)
  case rest =>
    obtain ⟨rfl, rfl, hb0⟩ := hcut
    clear hm0 hm1
    go_wp2_with fail
    have hZ0 := hZ.below hb0
    have hL0 := hL.below hb0
    have wid0 := wid.below hb0
    refine (clone_any a0 m0 cap0 Z _ hZ0 Hnil.out (by omega)).mono ?_
    rintro e wb ⟨Ac, cc, rfl, hbc, hBc⟩
    have hZb := hZ0.below hBc
    have hLb := hL0.below hBc
    have widb := wid0.below hBc
    have hZl : Z.length = m0 := hZ.1
    have HZl := Lib.hid hZl
    clear hZl hZ hL wid hZ0 hL0 wid0
    go_wp2_with fail
    go_loopw [8, 9, 10, 11, 40] (fun so sa sv su si wr => RelOne L Z a0 cap0 wb m1 so sa sv su si wr) (fun _ _ _ _ si _ => m1 - (intOf si).toNat)
    case atStart => exact RelOne.start hZb HZl.out hmc
    case round =>
      obtain ⟨i, A, c, out, offs, ws, hi, hws, rfl, rfl, rfl, hbl, hout, hlen, hinv, hc, hv1, hv2, hsep⟩ := hrel
      by_cases hlt : i < m1
      · obtain ⟨bL, oL, rfl, hcL⟩ := hLb.1 (by omega)
        have hc0 := hcL i hlt
        have hcl := (hbl.cell (lt_of_cell hc0)).trans hc0
        obtain ⟨n, hn⟩ : ∃ n, n = L.getD i 0 := ⟨_, rfl⟩
        have hnb := hLb.2 i
        rw [← hn] at hcl hnb
        obtain ⟨n0, n1⟩ := hnb
        have HN := Lib.hid hn
        have HI := Lib.hid hinv
        have HW := Lib.hid hws
        clear hn hcL hc0 hinv hws
        have hwid := widb.below hbl
        go_wp2_with fail
        refine (widths_any _).mono ?_
        rintro e w1 ⟨g, rfl, hf, hB1⟩
        have wid1 := hwid.below hB1
        obtain ⟨f0, f1, f2, f3⟩ := hf.cell
        go_upto_block 2 with fail
        go_cut [14, 40] (fun s14 s40 wx => WidthFor n i w1 s14 s40 wx)
        case first =>
          have hF8 : fitsB n 8 = true := by simp [fitsB, isW]; omega
          have hcase : (fitsB n 1 = true ∧ n < 256) ∨ (fitsB n 1 = false ∧ fitsB n 2 = true ∧ n < 65536) ∨ (fitsB n 1 = false ∧ fitsB n 2 = false ∧ fitsB n 4 = true ∧ n < 4294967296) ∨ (fitsB n 1 = false ∧ fitsB n 2 = false ∧ fitsB n 4 = false) := by
            by_cases q1 : n < 256
            · exact .inl ⟨by simp [fitsB, isW]; omega, q1⟩
            by_cases q2 : n < 65536
            · exact .inr (.inl ⟨by simp [fitsB, isW]; omega, by simp [fitsB, isW]; omega, q2⟩)
            by_cases q3 : n < 4294967296
            · exact .inr (.inr (.inl ⟨by simp [fitsB, isW]; omega, by simp [fitsB, isW]; omega, by simp [fitsB, isW]; omega, q3⟩))
            · exact .inr (.inr (.inr ⟨by simp [fitsB, isW]; omega, by simp [fitsB, isW]; omega, by simp [fitsB, isW]; omega⟩))
          rcases hcase with ⟨e1, q⟩ | ⟨e1, e2, q⟩ | ⟨e1, e2, e4, q⟩ | ⟨e1, e2, e4⟩
          all_goals (
            go_wp2_with fail
            refine wp_loop_rounds 4 ?_
            repeat any_goals (rw [rounds_succ]; go_wp2_with (go_at_call 18; refine (fits_any _ _ _ wid1 n0 n1).mono ?_; rintro e _ ⟨rfl, rfl⟩))
            go_meet)
          all_goals first | exact ⟨1, rfl, rfl, by decide, by simp; omega, rfl⟩ | exact ⟨2, rfl, rfl, by decide, by simp; omega, rfl⟩ | exact ⟨4, rfl, rfl, by decide, by simp; omega, rfl⟩ | exact ⟨8, rfl, rfl, by decide, by simp; omega, rfl⟩
        case rest =>
          obtain ⟨k, rfl, rfl, hk, hkn, rfl⟩ := hcut
          go_upto_if 62 with fail
          go_cut [14, 40] (fun s14 s40 wx => WidthFor n i w1 s14 s40 wx)
          case first =>
            go_wp2_with fail
            all_goals go_meet
            all_goals first | exact ⟨8, rfl, rfl, by decide, by simp; omega, rfl⟩ | exact ⟨k, rfl, rfl, hk, hkn, rfl⟩
          case rest =>
            clear hk hkn
            obtain ⟨k, rfl, rfl, hk, hkn, rfl⟩ := hcut
            have hk1 : 1 ≤ k ∧ k ≤ 8 := by have := isW_bd hk; omega
            have hfit : fitsB n k = true := by simp [fitsB, hk]; exact hkn
            have hsm : out.length ≤ 700 := by have := HZl.out; omega
            have hout1 := hout.below hB1
            have hob := Lib.hid hout.2.1
            go_wp2_with fail
            refine (append_go _ _ _ out n k w1 wid1 hout1 (by omega) hk n0 n1 hfit).mono ?_
            rintro e w2 ⟨gN, rfl, hrow, hB2⟩
            have hout2 := hout1.below hB2
            have hnx : BI w2 (some ⟨gN, 0, none⟩) out.length out := by
              have h1 := hrow.bi (n := out.length + k) (by rw [List.length_append, length_enc]) (by
                intro z hz
                rcases List.mem_append.1 hz with h | h
                · exact hob.out z h
                · exact enc_bd _ _ z h)
              have h2 := h1.take out.length (by omega)
              rw [List.take_left] at h2
              exact h2
            have hv1w := own_below (own_below hv1 hB1) hB2
            have hv2w := own_below (own_below hv2 hB1) hB2
            have hb2 : Below wb.heap.size wb w2 := (hbl.trans (hB1.mono hbl.size)).trans (hB2.mono (by have := hbl.size; have := hB1.size; omega))
            obtain ⟨j0, hj0, hj1, hj2, hj3⟩ := info_parts info3
            have J0 := Lib.hid hj0
            have J1 := Lib.hid hj1
            have J2 := Lib.hid hj2
            have J3 := Lib.hid hj3
            clear hj0 hj1 hj2 hj3 hfit hf hB1 hB2 hwid hcl hout1 hout f0 f1 f2 f3
            go_wp2_with fail
            refine (equal_any _ _ _ _ _ _ _ _ _ hnx hout2).mono ?_
            rintro e _ ⟨rfl, rfl⟩
            rw [decide_eq_true (rfl : out = out)]
            have hs2 := hb2.size
            have hmx : i + 1 ≤ maxLen := by unfold maxLen; omega
            have hmy : (i + 1) * 8 ≤ 140737488355328 := by omega
            go_wp2_with (first
              | (at_builtin
                 refine wpList_append_lies _ rfl (.tmp 88) (.tmp 90) 41 rfl wb.heap.size 3 j0 (.int .i64 0) 1 8 Tryd.underlying41 J0.out J1.out J2.out J3.out rfl (by omega) _ _ _ rfl (hv1w.alloc _) ⟨w2.heap.size, 0, none⟩ 1 1 [.int .i64 (out.length : Int)] rfl rfl (World.news_of_block (heap_alloc_new _ _)) (by simp [Value.oneCell']) (by omega) hmx hmy (by simp; omega) (w2.heap.size + 1) (by simp) ?_
                 intro g1 q1 w3 hown3 hg3 hat3 hlt3
                 have hv2c := sep_kept hsep (hv2w.alloc (.cells #[.int .i64 (out.length : Int)] 3)) hg3
                 have hs3 : wb.heap.size ≤ w3.heap.size := by have := hg3.size; simp at this; omega)
              | (at_builtin
                 refine wpList_append_lies _ rfl (.tmp 92) (.tmp 94) 41 rfl wb.heap.size 3 j0 (.int .i64 0) 1 8 Tryd.underlying41 J0.out J1.out J2.out J3.out rfl (by omega) _ _ _ rfl (hv2c.alloc _) ⟨w3.heap.size, 0, none⟩ 1 1 [.int .i64 (k : Int)] rfl rfl (World.news_of_block (heap_alloc_new _ _)) (by simp [Value.oneCell']) (by omega) hmx hmy (by simp; omega) (w3.heap.size + 1) (by simp) ?_
                 intro g2 q2 w4 hown4 hg4 hat4 hlt4))
            go_roundw
            case rel => exact rt_step hlt HW.out hb2 hlen HI.out hk n0 hkn HN.out (by omega) hrow hob.out hsep hv1w hv2w hown3 hg3 hat3 hlt3 hown4 hg4 hat4
            case measure => simp [intOf]; omega
      · obtain rfl : i = m1 := by omega
        go_wp2_with fail
        have widr := widb.below hbl
        have hLr := hLb.below hbl
        have hZr := hZb.below hbl
        have hcr := hbc.below hbl
        have HI := Lib.hid hinv
        have HW := Lib.hid hws
        have hsm : out.length ≤ 700 := by have := HZl.out; omega
        clear hinv hws hsep
        obtain ⟨wo, rfl⟩ : ∃ wo : World, wo = wr := ⟨_, rfl⟩
        go_loopw [103] (fun s wx => ∃ j : Nat, j ≤ i ∧ s = .int .i64 (j : Int) ∧ Below wo.heap.size wo wx) (fun s _ => i - (intOf s).toNat)
        case atStart => exact ⟨0, Nat.zero_le _, rfl, Below.refl _ _⟩
        case round =>
          obtain ⟨j, hj, rfl, hbx⟩ := hrel
          have widx := widr.below hbx
          have houtx := hout.below hbx
          by_cases hlj : j < i
          · obtain ⟨bL, oL, rfl, hcL⟩ := hLr.1 (by omega)
            obtain ⟨g1, q1, rfl, _, _⟩ := hv1.form (by omega)
            obtain ⟨g2, q2, rfl, _, _⟩ := hv2.form (by omega)
            have hc0 := hcL j hlj
            have hcl := (hbx.cell (lt_of_cell hc0)).trans hc0
            have hk1 := ints_cell hv1 hlj
            have hk2 := ints_cell hv2 hlj
            have hk1x := (hbx.cell (lt_of_cell hk1)).trans hk1
            have hk2x := (hbx.cell (lt_of_cell hk2)).trans hk2
            have hpr := HI.out.2.2.2 j (by rw [HW.out]; exact hlj)
            obtain ⟨n, hn⟩ : ∃ n, n = L.getD j 0 := ⟨_, rfl⟩
            obtain ⟨o, ho⟩ : ∃ o, o = offs.getD j 0 := ⟨_, rfl⟩
            obtain ⟨q, hq⟩ : ∃ q, q = ws.getD j 0 := ⟨_, rfl⟩
            rw [← hn] at hcl hpr
            rw [← ho] at hk1x hpr
            rw [← hq] at hk2x hpr
            have HP := Lib.hid hpr
            have hj0 : (0 : Int) ≤ j := by omega
            have hj1 : (j : Int) < i := by omega
            clear hn ho hq hpr hk1 hk2 hc0 hcL
            go_wp2_with fail
            go_quiet ((go_at_call 15; exact Calls.quiet_of_same (rt_uint widx houtx (by omega) HP.out _)))
            go_wp2_with fail
            go_roundw
            case rel => exact ⟨j + 1, by omega, by go_num, below_drewN hbx _⟩
            case measure => simp [intOf]; omega
          · obtain rfl : j = i := by omega
            have hZx := hZr.below hbx
            have hcx := hcr.below hbx
            have hpre := houtx.take m0 (by have := HI.out.1; have := HZl.out; omega)
            have hz := HI.out.2.1
            rw [HZl.out] at hz
            rw [hz] at hpre
            have hml : m0 ≤ out.length := by have := HI.out.1; have := HZl.out; omega
            clear hz
            go_wp2_with fail
            refine (equal_any _ _ _ _ _ _ _ _ _ hZx hcx).mono ?_
            rintro e _ ⟨rfl, rfl⟩
            rw [decide_eq_true (rfl : Z = Z)]
            go_wp2_with fail
            refine (equal_any _ _ _ _ _ _ _ _ _ hpre hcx).mono ?_
            rintro e _ ⟨rfl, rfl⟩
            rw [decide_eq_true (rfl : Z = Z)]
            go_wp2_with fail
            refine (works_any _ widx).mono ?_
            rintro e wF ⟨rfl, hBF⟩
            go_wp2_with fail
            go_ret
            exact ⟨rfl, bchain (bchain (bchain (bchain hb0 hBc) hbl) hbx) hBF⟩

theorem codecRoundTrip_walk (a0 : Option Addr) (len0 cap0 : Nat) (z0 : List Int) (a1 : Option Addr) (len1 cap1 : Nat) (z1 : List Int) (a2 : Int) (w : World) (wid : Wid w) (w0 : IsRow .u8 w a0 len0 cap0 z0) (w1 : IsRow .u64 w a1 len1 cap1 z1) (w2 : (Lit.int .u8 a2).wf = true) :
    Calls Tryd.prog 6 #[.slice a0 len0 cap0, .slice a1 len1 cap1, .int .u8 a2] w fun e w' => e = .returned (.bool true) ∧ Below w.heap.size w w' := by
  have b2 := bounds_u8 w2
  have l0 := w0.len
  have l1 := w1.len
  obtain ⟨m0, h0, h0'⟩ : ∃ m0, m0 ≤ len0 ∧ ((len0 ≤ 300 ∧ m0 = len0) ∨ (300 < len0 ∧ m0 = 300)) := by
    by_cases h : len0 ≤ 300
    · exact ⟨len0, by omega, by omega⟩
    · exact ⟨300, by omega, by omega⟩
  obtain ⟨m1, h1, h1'⟩ : ∃ m1, m1 ≤ len1 ∧ ((len1 ≤ 50 ∧ m1 = len1) ∨ (50 < len1 ∧ m1 = 50)) := by
    by_cases h : len1 ≤ 50
    · exact ⟨len1, by omega, by omega⟩
    · exact ⟨50, by omega, by omega⟩
  have hb := w0.bi.take m0 h0
  exact rt_core a0 len0 cap0 m0 _ a1 len1 cap1 m1 z1 a2 w wid hb (fun h => by have := w0.nil_ h; omega) (w1.ui m1 h1) l0.1 l1.1 l0.2 l1.2 h0' h1' b2.1 b2.2
end Go.Proofs.YtheecmkkhdjhhaaDoor
