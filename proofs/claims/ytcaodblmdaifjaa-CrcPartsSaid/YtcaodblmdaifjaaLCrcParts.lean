/- The walk of CrcParts: the checksum of all is found from its parts. -/
import Derived.Test.YtcaodblmdaifjaaOwn
import Derived.Deep.RegionWith
import Derived.Deep.RegionHeld3
namespace Go.Proofs.Ytcaodblmdaifjaa
open Go.RowKit

/-- A slice of byte slices that came in: each of its first n is read. -/
def Parts (w : World) (a : Option Addr) (n : Nat) (A : Nat → Option Addr) (L C : Nat → Nat) (Q : Nat → List Nat) : Prop :=
  (0 < n → ∃ b o, a = some ⟨b, o, none⟩ ∧ ∀ r, r < n → w.cell? ⟨b, o + r, none⟩ = some (.slice (A r) (L r) (C r))) ∧
  ∀ r, r < n → BN w (A r) (L r) (Q r) ∧ (A r = none → L r = 0 ∧ C r = 0) ∧ L r ≤ C r ∧ C r ≤ 9223372036854775807

/-- The first n strings, one behind the other; the last k of N strings. -/
def cat (Q : Nat → List Nat) : Nat → List Nat
  | 0 => []
  | n + 1 => cat Q n ++ Q n
def rest (Q : Nat → List Nat) (N : Nat) : Nat → List Nat
  | 0 => []
  | k + 1 => Q (N - 1 - k) ++ rest Q N k
theorem cat_rest (Q : Nat → List Nat) (N : Nat) : ∀ k, k ≤ N → cat Q (N - k) ++ rest Q N k = cat Q N
  | 0, _ => by show cat Q (N - 0) ++ [] = _; rw [List.append_nil]; rfl
  | k + 1, h => by
    have ih := cat_rest Q N k (by omega)
    show cat Q (N - (k + 1)) ++ (Q (N - 1 - k) ++ rest Q N k) = _
    rw [← List.append_assoc, ← ih, show N - k = (N - (k + 1)) + 1 from by omega, show N - 1 - k = N - (k + 1) from by omega]
    rfl
theorem rest_all (Q : Nat → List Nat) (N : Nat) : rest Q N N = cat Q N := by
  have := cat_rest Q N N (Nat.le_refl _)
  rw [Nat.sub_self] at this
  exact this
theorem cat_lt {Q : Nat → List Nat} {n : Nat} (h : ∀ r, r < n → ∀ z ∈ Q r, z < 256) : ∀ k, k ≤ n → ∀ z ∈ cat Q k, z < 256
  | 0, _ => fun z hz => by cases hz
  | k + 1, hk => fun z hz => by
    rcases List.mem_append.1 hz with hz | hz
    · exact cat_lt h k (by omega) z hz
    · exact h k (by omega) z hz
theorem rest_lt {Q : Nat → List Nat} {N : Nat} (h : ∀ r, r < N → ∀ z ∈ Q r, z < 256) : ∀ k, k ≤ N → ∀ z ∈ rest Q N k, z < 256
  | 0, _ => fun z hz => by cases hz
  | k + 1, hk => fun z hz => by
    rcases List.mem_append.1 hz with hz | hz
    · exact h (N - 1 - k) (by omega) z hz
    · exact rest_lt h k (by omega) z hz
theorem cat_len {Q : Nat → List Nat} {n : Nat} (h : ∀ r, r < n → (Q r).length ≤ 200) : ∀ k, k ≤ n → (cat Q k).length ≤ 200 * k
  | 0, _ => by simp [cat]
  | k + 1, hk => by
    have := cat_len h k (by omega)
    have := h k (by omega)
    show (cat Q k ++ Q k).length ≤ _
    rw [List.length_append]; omega
theorem rest_len {Q : Nat → List Nat} {N : Nat} (h : ∀ r, r < N → (Q r).length ≤ 200) : ∀ k, k ≤ N → (rest Q N k).length ≤ 200 * k
  | 0, _ => by simp [rest]
  | k + 1, hk => by
    have := rest_len h k (by omega)
    have := h (N - 1 - k) (by omega)
    show (Q (N - 1 - k) ++ rest Q N k).length ≤ _
    rw [List.length_append]; omega

theorem combine_len (a b n : Nat) (ha : a < 4294967296) (hb : b < 4294967296) (hn : n < 9223372036854775808) (w : World) :
    Calls Try.prog 19 #[.int .u32 a, .int .u32 b, .int .i64 n] w fun e w' => e = .returned (.tuple #[.int .u32 (cshift n a ^^^ b : Nat), .int .i64 0]) ∧ Below w.heap.size w w' := by
  have := combine_any a b n ha hb ⟨by omega, by omega⟩ w
  rw [show combE (n : Int) = 0 from if_neg (by omega), show combV a b (n : Int) = cshift n a ^^^ b from (if_neg (by omega)).trans (by rw [Int.toNat_natCast])] at this
  exact this

theorem owns_below {w w' : World} {B n : Nat} {v : Value} {xs : List Value} (h : w.ownsRow B 5 1 v n xs) (hb : Below w.heap.size w w') : w'.ownsRow B 5 1 v n xs := by
  refine ⟨h.1, ?_⟩
  rcases h.2 with h0 | ⟨g, cap, cur, hv, hg, hh, r⟩
  · exact Or.inl h0
  · have hlt : g < w.heap.size := by
      rcases Nat.lt_or_ge g w.heap.size with hlt | hge
      · exact hlt
      · rw [Array.getElem?_eq_none hge] at hh; cases hh
    exact Or.inr ⟨g, cap, cur, hv, hg, (hb.block g hlt).trans hh, r⟩

/-- Behind the last k strings. -/
def RiRel (w : World) (Q : Nat → List Nat) (N k : Nat) (va vr vn vi : Value) (wr : World) : Prop :=
  wr.ownsRow w.heap.size 5 1 va (cat Q N).length (bv (cat Q N)) ∧ vr = .int .u32 (csum (rest Q N k) : Nat) ∧ vn = .int .i64 ((rest Q N k).length : Nat) ∧ vi = .int .i64 ((N : Int) - 1 - k) ∧ Below w.heap.size w wr

/-- Behind j strings: all of them, the checksum by Update, the one by Combine. -/
def PaRel (w : World) (Q : Nat → List Nat) (L : Nat → Nat) (j : Nat) (va vu vl : Value) (wr : World) : Prop :=
  wr.ownsRow w.heap.size 5 1 va (cat Q j).length (bv (cat Q j)) ∧ vu = .int .u32 (csum (cat Q j) : Nat) ∧ vl = .int .u32 (csum (cat Q j) : Nat) ∧ (∀ r, r < j → L r ≤ 200) ∧ Below w.heap.size w wr

set_option maxRecDepth 100000 in
set_option maxHeartbeats 4000000 in
theorem crcParts_walk (a : Option Addr) (N cap : Nat) (A : Nat → Option Addr) (L C : Nat → Nat) (Q : Nat → List Nat) (w : World) (hP : Parts w a N A L C Q) :
    Calls Try.prog 7 #[.slice a N cap] w fun e w' => e = .returned (.bool true) ∧ Below w.heap.size w w' := by
  by_cases hbig : 20 < N
  · go_enter Try.func7, Try.ntmps7
    go_wp2_with (go_at_call 13; refine (works_any _).mono ?_; rintro e wo ⟨rfl, hBo⟩)
    go_ret
    exact ⟨rfl, hBo⟩
  · have hd : decide ((20 : Int) < (N : Int)) = false := decide_eq_false (by omega)
    have gP := Lib.hid hP
    have gQ := Lib.hid (show ∀ r, r < N → ∀ z ∈ Q r, z < 256 from fun r hr => (hP.2 r hr).1.2.1)
    clear hP
    go_enter Try.func7, Try.ntmps7
    go_wp2_with fail
    go_loopw [3, 4, 5, 6] (fun va vu vl i wr => ∃ j : Nat, j ≤ N ∧ i = .int .i64 j ∧ PaRel w Q L j va vu vl wr) (fun _ _ _ i _ => N - (intOf i).toNat)
    case atStart => exact ⟨0, by omega, rfl, ⟨rfl, Or.inl ⟨rfl, rfl⟩⟩, by simp [cat]; decide, by simp [cat]; decide, fun r hr => by omega, Below.refl _ _⟩
    case round =>
      obtain ⟨j, hj, rfl, hown, rfl, rfl, hL, hbl⟩ := hrel
      have gown := Lib.hid hown
      have gL := Lib.hid hL
      clear hown hL
      by_cases hlt : j < N
      · obtain ⟨b, o, ha, hcl⟩ := gP.out.1 (by omega)
        subst ha
        have c0 := Lib.hid (hcl j hlt)
        have c1 := (hbl.cell (lt_of_cell c0.out)).trans c0.out
        clear hcl
        obtain ⟨hbn, hnil, hle, hmx⟩ := gP.out.2 j hlt
        have gbn := Lib.hid hbn
        have gnil := Lib.hid hnil
        clear hbn hnil
        by_cases hbig2 : 200 < L j
        · go_wp2_with (go_at_call 13; refine (works_any _).mono ?_; rintro e wo ⟨rfl, hBo⟩)
          go_ret
          exact ⟨rfl, bchain hbl hBo⟩
        · have hd2 : decide ((200 : Int) < (L j : Int)) = false := decide_eq_false (by omega)
          have hql : (Q j).length = L j := gbn.out.1
          have hL2 : ∀ r, r < j + 1 → L r ≤ 200 := fun r hr => by
            rcases Nat.lt_or_ge r j with h | h
            · exact gL.out r h
            · obtain rfl : r = j := by omega
              omega
          have gL2 := Lib.hid hL2
          have hcl : (cat Q j).length ≤ 200 * j := by
            have := cat_len (Q := Q) (n := j) (fun r hr => by rw [(gP.out.2 r (by omega)).1.1]; exact gL.out r hr) j (Nat.le_refl _)
            exact this
          have hb0 := gbn.out.below hbl
          have hsl := csum_lt (cat_lt gQ.out j hj)
          have hqs := csum_lt (gQ.out j hlt)
          have hu : cupd (csum (cat Q j)) (Q j) = csum (cat Q (j + 1)) := (cupd_append 0 (cat Q j) (Q j)).symm
          have hc : cshift (L j) (csum (cat Q j)) ^^^ csum (Q j) = csum (cat Q (j + 1)) := by rw [← hql]; exact (csum_parts (cat Q j) (Q j)).symm
          have gu := Lib.hid hu
          have gc := Lib.hid hc
          clear hL2 hu hc
          go_wp2_with (at_builtin
                       refine app_bytes _ rfl (.tmp 32) (.tmp 36) rfl w.heap.size _ (cat Q j).length (bv (cat Q j)) rfl gown.out (A j) (L j) (C j) (Q j) rfl hb0 gnil.out (by omega) hbl.size ?_
                       intro v1 w1 hown1 hg1
                       have hB1 := Lib.hid (hbl.grown hg1 hbl.size (fun q hq => (gown.out.lt q hq).1))
                       have c2 := (hB1.out.cell (lt_of_cell c0.out)).trans c0.out
                       clear hg1 hb0)
          refine (update_any _ hsl _ _ _ _ _ (gbn.out.below hB1.out) (by omega)).mono ?_
          rintro e w2 ⟨rfl, hU⟩
          have hB2 := Lib.hid (bchain hB1.out hU)
          have c3 := (hB2.out.cell (lt_of_cell c0.out)).trans c0.out
          have gb2 : RowKit.Hid (BN w2.drew (A j) (L j) (Q j)) := gbn.out.below hB2.out.drew
          have hU1 := Lib.hid hU
          rw [gu.out]
          clear c1 c2 hU
          go_wp2_with fail
          go_region_held3 (fun w' => w'.cell? ⟨b, o + j, none⟩ = some (.slice (A j) (L j) (C j))) (first | assumption | exact c3)
            (first
            | (go_at_call 15; refine (sum_any _ _ _ _ _ gb2.out (by omega)).mono ?_; rintro e wA ⟨rfl, hA⟩; have hBA := Lib.hid (bchain hB2.out.drew hA); have c4 := (hBA.out.cell (lt_of_cell c0.out)).trans c0.out)
            | (go_at_call 19; refine (combine_len _ _ _ hsl hqs (by omega) _).mono ?_; rintro e wC ⟨rfl, hC⟩; have hBC := Lib.hid (bchain hBA.out hC); have c5 := (hBC.out.cell (lt_of_cell c0.out)).trans c0.out))
          rw [gc.out]
          go_wp2_with fail
          refine ⟨⟨j + 1, by omega, rfl, ?_, rfl, rfl, gL2.out, hBC.out⟩, by simp [intOf]; omega⟩
          have ho := owns_below hown1 (bchain (bchain hU1.out.drew hA) hC)
          have e1 : (cat Q (j + 1)).length = (cat Q j).length + L j := by rw [← hql]; exact List.length_append
          have e2 : bv (cat Q (j + 1)) = bv (cat Q j) ++ bv (Q j) := bv_append _ _
          rw [e1, e2]
          exact ho
      · obtain rfl : j = N := by omega
        have hQL : ∀ r, r < j → (Q r).length ≤ 200 := fun r hr => by rw [(gP.out.2 r hr).1.1]; exact gL.out r hr
        have gQL := Lib.hid hQL
        clear hQL
        go_wp2_with fail
        go_loopw [9, 10, 11] (fun vr vn vi wq => ∃ k : Nat, k ≤ j ∧ RiRel w Q j k u3 vr vn vi wq) (fun _ _ i _ => (intOf i + 1).toNat)
        case atStart => exact ⟨0, by omega, gown.out, by simp [rest]; decide, by simp [rest], by simp, hbl⟩
        case round =>
          clear gown hbl
          obtain ⟨k, hk, hown, rfl, rfl, rfl, hbl⟩ := hrel
          have gown := Lib.hid hown
          clear hown
          by_cases hlt2 : k < j
          · obtain ⟨q, hq⟩ : ∃ q, q = j - 1 - k := ⟨_, rfl⟩
            have hqj : q < j := by omega
            have hqi : (j : Int) - 1 - k = (q : Int) := by omega
            rw [hqi]
            have gqi := Lib.hid hqi
            obtain ⟨b, o, ha, hcl⟩ := gP.out.1 (by omega)
            subst ha
            have c0 := Lib.hid (hcl q hqj)
            have c1 := (hbl.cell (lt_of_cell c0.out)).trans c0.out
            clear hcl
            obtain ⟨hbn, hnil, hle, hmx⟩ := gP.out.2 q hqj
            have gbn := Lib.hid hbn
            have gnil := Lib.hid hnil
            clear hbn hnil
            have hql : (Q q).length = L q := gbn.out.1
            have hq200 : L q ≤ 200 := gL.out q hqj
            have hrl : (rest Q j k).length ≤ 4000 := by
              have := rest_len gQL.out k hk
              omega
            have hsr := csum_lt (rest_lt gQ.out k hk)
            have hqs := csum_lt (gQ.out q hqj)
            have hr1 : rest Q j (k + 1) = Q q ++ rest Q j k := by rw [hq]; rfl
            have hc : cshift (rest Q j k).length (csum (Q q)) ^^^ csum (rest Q j k) = csum (rest Q j (k + 1)) := by rw [hr1]; exact (csum_parts _ _).symm
            have hl1 : (rest Q j (k + 1)).length = (rest Q j k).length + L q := by rw [hr1, List.length_append, hql, Nat.add_comm]
            have gc := Lib.hid hc
            have gl1 := Lib.hid hl1
            obtain ⟨n, hn⟩ : ∃ n, n = (rest Q j k).length := ⟨_, rfl⟩
            rw [← hn] at hrl gc gl1 ⊢
            clear hr1 hc hl1 hq hqi hn
            go_wp2_with fail
            refine (sum_any _ _ _ _ _ (gbn.out.below hbl) (by omega)).mono ?_
            rintro e wA ⟨rfl, hA⟩
            have hBA := Lib.hid (bchain hbl hA)
            go_wp2_with fail
            refine (combine_len _ _ _ hqs hsr (by omega) _).mono ?_
            rintro e wB ⟨rfl, hB⟩
            have hBB := Lib.hid (bchain hBA.out hB)
            have c2 := (hBB.out.cell (lt_of_cell c0.out)).trans c0.out
            rw [gc.out]
            clear c1
            go_wp2_with fail
            refine ⟨⟨k + 1, by omega, owns_below gown.out (bchain hA hB), rfl, ?_, ?_, hBB.out⟩, by simp [intOf]⟩
            · rw [gl1.out]; simp
            · rw [← gqi.out]; congr 1; omega
          · obtain rfl : k = j := by omega
            obtain ⟨A3, c3, hv, _, hb3⟩ := own_bn gown.out (cat_lt gQ.out k (Nat.le_refl _))
            subst hv
            have gb3 := Lib.hid hb3
            have hcl : (cat Q k).length ≤ 4000 := by
              have := cat_len gQL.out k (Nat.le_refl _)
              omega
            rw [rest_all]
            clear hb3 gown
            go_wp2_with fail
            refine (sum_any _ _ _ _ _ gb3.out (by omega)).mono ?_
            rintro e wA ⟨rfl, hA⟩
            have hBA := Lib.hid (bchain hbl hA)
            have gb4 := Lib.hid (gb3.out.below hA)
            clear hA
            go_wp2_with fail
            refine (valid_any _ _ _ _ _ _ gb4.out (by omega)).mono ?_
            rintro e wB ⟨rfl, hB⟩
            have hBB := Lib.hid (bchain hBA.out hB)
            clear hB
            go_wp2_with fail
            refine (works_any _).mono ?_
            rintro e wC ⟨rfl, hC⟩
            go_wp2_with fail
            go_ret
            exact ⟨rfl, bchain hBB.out hC⟩
end Go.Proofs.Ytcaodblmdaifjaa
