/- PqueueSame: the walk. -/
import Derived.Test.YtfpolnokdebncaaQTTwo
import Derived.Test.YtfpolnokdebncaaLPqueueApart
import Derived.Deep.LoopGhost
namespace Go.Proofs.Ytfpolnokdebncaa
open Go.RowKit QT
theorem items_get : ∀ (l : List (Option Nat)) (k : Nat) (y : It), y ∈ itemsFrom k l → ∃ i p, y = (k + i, lett p) ∧ l[i]? = some (some p)
  | [], k, y, h => by simp [itemsFrom] at h
  | none :: t, k, y, h => by
    obtain ⟨i, p, e, hi⟩ := items_get t (k + 1) y (by simpa [itemsFrom] using h)
    exact ⟨i + 1, p, by rw [e, show k + 1 + i = k + (i + 1) by omega], by simpa using hi⟩
  | some q :: t, k, y, h => by
    simp only [itemsFrom, List.mem_cons] at h
    rcases h with rfl | h
    · exact ⟨0, q, rfl, rfl⟩
    · obtain ⟨i, p, e, hi⟩ := items_get t (k + 1) y h
      exact ⟨i + 1, p, by rw [e, show k + 1 + i = k + (i + 1) by omega], by simpa using hi⟩
theorem mod_inj {n f j k : Nat} (hj : j < k) (hk : k < n) (h : (j + f) % n = (k + f) % n) : False := by
  have h1 : ((k + f) - (j + f)) % n = 0 := Nat.sub_mod_eq_zero_of_mod_eq h.symm
  rw [show (k + f) - (j + f) = k - j by omega, Nat.mod_eq_of_lt (by omega)] at h1
  omega
theorem mod_surj {n f i : Nat} (hi : i < n) : ∃ j, j < n ∧ (j + f) % n = i := by
  refine ⟨(i + n - f % n) % n, Nat.mod_lt _ (by omega), ?_⟩
  have hf := Nat.mod_lt f (show 0 < n by omega)
  rw [Nat.mod_add_mod, ← Nat.add_mod_mod, show i + n - f % n + f % n = i + n by omega, Nat.add_mod_right, Nat.mod_eq_of_lt hi]
/-- What has been pushed by the first k ids. -/
def Some1 (want : List (Option Nat)) (n f k : Nat) (T : List It) : Prop :=
  (∀ y ∈ T, y ∈ itemsFrom 0 want ∧ ∃ j, j < k ∧ (j + f) % n = y.1) ∧ (∀ j p, j < k → want[(j + f) % n]? = some (some p) → ((j + f) % n, lett p) ∈ T) ∧ T.Nodup
theorem some_zero {want : List (Option Nat)} {n f : Nat} : Some1 want n f 0 [] := ⟨fun y hy => (by cases hy), fun j _ hj => absurd hj (Nat.not_lt_zero j), List.nodup_nil⟩
theorem some_skip {want : List (Option Nat)} {n f k : Nat} {T : List It} (h : Some1 want n f k T) (hx : want[(k + f) % n]? = some none) : Some1 want n f (k + 1) T := by
  refine ⟨fun y hy => ?_, fun j p hj hw => ?_, h.2.2⟩
  · obtain ⟨h1, j, h2, h3⟩ := h.1 y hy
    exact ⟨h1, j, by omega, h3⟩
  · rcases Nat.lt_or_ge j k with hlt | hge
    · exact h.2.1 j p hlt hw
    · obtain rfl : j = k := by omega
      rw [hx] at hw
      cases hw
theorem some_no {want : List (Option Nat)} {n f k : Nat} {T : List It} (h : Some1 want n f k T) (hk : k < n) : ∀ y ∈ T, y.1 ≠ (k + f) % n := by
  intro y hy e
  obtain ⟨_, j, h2, h3⟩ := h.1 y hy
  exact mod_inj h2 hk (h3.trans e)
theorem some_push {want : List (Option Nat)} {n f k p : Nat} {T : List It} (h : Some1 want n f k T) (hk : k < n) (hx : want[(k + f) % n]? = some (some p)) : Some1 want n f (k + 1) (((k + f) % n, lett p) :: T) := by
  refine ⟨fun y hy => ?_, fun j q hj hw => ?_, List.nodup_cons.2 ⟨fun hy => some_no h hk _ hy rfl, h.2.2⟩⟩
  · rcases List.mem_cons.1 hy with rfl | hy
    · exact ⟨items_mem hx, k, by omega, rfl⟩
    · obtain ⟨h1, j, h2, h3⟩ := h.1 y hy
      exact ⟨h1, j, by omega, h3⟩
  · rcases Nat.lt_or_ge j k with hlt | hge
    · exact List.mem_cons_of_mem _ (h.2.1 j q hlt hw)
    · obtain rfl : j = k := by omega
      rw [hx] at hw
      cases hw
      exact List.mem_cons_self ..
theorem some_all {want : List (Option Nat)} {n f : Nat} {T : List It} (h : Some1 want n f n T) (hl : want.length = n) (hd : (itemsFrom 0 want).Nodup) : T.Perm (itemsFrom 0 want) := by
  refine (List.perm_ext_iff_of_nodup h.2.2 hd).2 fun y => ⟨fun hy => (h.1 y hy).1, fun hy => ?_⟩
  obtain ⟨i, p, rfl, hi⟩ := items_get want 0 y hy
  obtain ⟨j, hj, e⟩ := mod_surj (f := f) (show i < n by have := (List.getElem?_eq_some_iff.1 hi).1; omega)
  have := h.2.1 j p hj (by rw [e]; exact hi)
  rw [e] at this
  rwa [Nat.zero_add]
theorem Holding.nodup {w W : World} {P n Z : Nat} {want : List (Option Nat)} (h : Holding w W P n Z want) : (itemsFrom 0 want).Nodup := by
  obtain ⟨_, G, _, hO, hp, _⟩ := h.2.2
  exact hp.nodup_iff.1 (List.Pairwise.imp (fun hne e => hne (by rw [e])) (List.pairwise_map.1 hO.nd))
theorem pair_of {w w1 W : World} {P n Z R m : Nat} {want : List (Option Nat)} {T S : List It} (h : Holding w w1 P n Z want) (h2 : QHas w1 W R m T) (hS : (itemsFrom 0 want).Perm S) (hT : T.Perm S) : Pair w W P n R m S S := by
  obtain ⟨v, G, pl, h1, hp, hb, _⟩ := h.2.2
  obtain ⟨u, H, ql, k1, kp, kb⟩ := h2
  have hPw := lt_of_heap h1.qs.blk
  have hRw := k1.qs.hP
  refine ⟨v, G, pl, u, H, ql, h1.below kb, hp.trans hS, ⟨⟨by have := hb.size; omega, k1.qs.blk, ⟨k1.qs.row.1, k1.qs.row.2.imp_right fun ⟨g, cap, cur, e, hg, r⟩ => ⟨g, cap, cur, e, by have := hb.size; omega, r⟩⟩, k1.qs.len⟩, k1.heap, k1.plc, k1.nd, k1.ids, k1.hn⟩, kp.trans hT, hb.trans (kb.mono hb.size), by omega, fun e => ?_, fun e => ?_, fun g e e2 => ?_⟩
  · have := (h1.qs.row.lt _ e).2
    omega
  · have := (k1.qs.row.lt _ e).1
    omega
  · have := (h1.qs.row.lt _ e).2
    have := (k1.qs.row.lt _ e2).1
    omega
set_option maxRecDepth 1000000 in
set_option maxHeartbeats 8000000 in
theorem same_walk (s : Nat) (hs : s < 256) (A : Option Addr) (m cap : Nat) (ts : List Tu) (f : Nat) (_hf : f < 256) (w : World) (h : TS w A m ts) (hcap : m ≤ cap ∧ cap ≤ 9223372036854775807) :
    Calls Try.prog 6 #[.int .u8 (s : Nat), .slice A m cap, .int .u8 (f : Nat)] w fun e w' => e = .returned (.bool true) ∧ Below w.heap.size w w' := by
  by_cases hm : 150 < m
  · have hm' : (150 : Int) < (m : Int) := by omega
    go_enter Try.func6, Try.ntmps6
    go_wp2_with (go_at_call 11; refine (works_any _).mono ?_; rintro e w' ⟨rfl, hB⟩)
    go_ret
    exact ⟨rfl, hB⟩
  have hm' : ¬ (150 : Int) < (m : Int) := by omega
  have hq := eq_none58
  have gT := Lib.hid h
  clear h hm
  go_enter Try.func6, Try.ntmps6
  go_wp2_with fail
  refine (made_any s hs A m cap ts _ gT.out hcap).mono ?_
  rintro e w1 ⟨P, Z, n, hn, rfl, gM⟩
  obtain ⟨want, hl, hlt, hby⟩ := gM.out
  have gH := Lib.hid (show Holding w w1 P n Z want from ⟨hl, hlt, hby⟩)
  have hn50 : n ≤ 50 ∧ 1 ≤ n := by omega
  clear gM hl hlt hby hn gT
  go_wp2_with fail
  refine (has_new n _ hn50.2 (by omega)).mono ?_
  rintro e w2 ⟨rfl, g2⟩
  obtain ⟨R, hR⟩ : ∃ R, R = w1.heap.size := ⟨_, rfl⟩
  rw [← hR] at g2
  rw [← hR]
  clear hR
  go_wp2_with fail
  go_loopw [11] (fun i wr => ∃ (k : Nat) (T : List It), k ≤ n ∧ i = .int .i64 k ∧ Hid (QHas w1 wr R n T ∧ Some1 want n f k T)) (fun i _ => n - (intOf i).toNat)
  case atStart => exact ⟨0, [], Nat.zero_le _, rfl, g2.out, some_zero⟩
  case round =>
    obtain ⟨k, T, hk, rfl, gI⟩ := hrel
    clear g2
    by_cases hlt : k < n
    · obtain ⟨i, hi⟩ : ∃ i, i = (k + f) % n := ⟨_, rfl⟩
      have hin : i < n := by rw [hi]; exact Nat.mod_lt _ (by omega)
      have eT : Int.tmod ((k : Int) + (f : Int)) (n : Int) = (i : Int) := by rw [hi]; rfl
      have eI : ((k : Int) + (f : Int)) % (n : Int) = (i : Int) := by rw [hi]; rfl
      have n0 : ¬ ((n : Int) = 0) := by omega
      have hi0 : (0 : Int) ≤ (i : Int) := by omega
      have hi1 : (i : Int) < (n : Int) := by omega
      obtain ⟨_, _, _, _, _, hBw⟩ := gI.out.1
      obtain ⟨x, hx⟩ : ∃ x, want[i]? = some x := ⟨_, List.getElem?_eq_getElem (by rw [gH.out.1]; exact hin)⟩
      obtain ⟨c0, _⟩ := QBy.wish (gH.out.below hBw).2.2 hx
      have gq := Lib.hid (show ∀ q, x = some q → q < 256 from fun q e => gH.out.2.1 q (by rw [← e]; exact List.mem_of_getElem? hx))
      have gx := Lib.hid (hi ▸ hx)
      have gi := Lib.hid hi
      clear hx hBw hi
      cases x with
      | none =>
        have c1 : wr.cell? ⟨Z, i, none⟩ = some (.int .i64 (-1)) := c0
        clear c0
        go_wp2
        exact ⟨⟨k + 1, T, by omega, by simp, gI.out.1, some_skip gI.out.2 gx.out⟩, by simp [intOf]; omega⟩
      | some q =>
        have c1 : wr.cell? ⟨Z, i, none⟩ = some (.int .i64 (q : Nat)) := c0
        have r0 : (0 : Int) ≤ (q : Int) := by omega
        have rq := gq.out q rfl
        have r1 : (q : Int) % 256 = (q : Int) := by omega
        clear c0
        go_wp2_with fail
        refine (letter_any q rq _).mono ?_
        rintro e w7 ⟨rfl, hB7⟩
        have g7 := Lib.hid (gI.out.1.below hB7)
        clear hB7
        go_wp2_with fail
        refine (has_push g7.out i (lett q) hin (by rw [gi.out]; exact some_no gI.out.2 hlt)).mono ?_
        rintro e w8 ⟨rfl, g8⟩
        go_wp2
        exact ⟨⟨k + 1, _, by omega, by simp, g8.out, by rw [gi.out]; exact some_push gI.out.2 hlt gx.out⟩, by simp [intOf]; omega⟩
    · obtain rfl : n = k := by omega
      obtain ⟨S, hS, hpS⟩ := rising_of iord _ gH.out.nodup
      have gP := Lib.hid (pair_of gH.out gI.out.1 hpS.symm ((some_all gI.out.2 gH.out.1 gH.out.nodup).trans hpS.symm))
      have gS := Lib.hid hS
      clear hS hpS gI hlt hk
      go_wp2
      go_loopg [13] S.length (fun k a wr => ∃ t : List It, k = t.length ∧ a = a ∧ Hid (Pair w wr P n R n t t ∧ Rising lt t))
      case atStart => exact ⟨S, rfl, rfl, gP.out, gS.out⟩
      case round =>
        obtain ⟨t, hk, _, gI⟩ := hrel
        clear gP gS
        cases t with
        | nil =>
          have g0 := Lib.hid (show QHas w wr P n [] from gI.out.1.one)
          have g1 := Lib.hid (show QHas w wr R n [] from gI.out.1.swap.one)
          clear hk
          go_wp2_with fail
          refine (has_len g0.out).mono ?_
          rintro e w7 ⟨rfl, rfl⟩
          go_wp2_with fail
          refine (has_len g1.out).mono ?_
          rintro e w7 ⟨rfl, rfl⟩
          go_wp2_with fail
          refine (works_any _).mono ?_
          rintro e w8 ⟨rfl, hB8⟩
          go_wp2_with fail
          go_ret
          obtain ⟨_, _, _, _, _, hBw⟩ := g0.out
          exact ⟨rfl, hBw.trans (hB8.mono hBw.size)⟩
        | cons x t =>
          have gx := Lib.hid gI.out
          have hpos : (0 : Int) < (t.length : Int) + 1 := by omega
          clear gI
          go_wp2_with fail
          refine (has_len gx.out.1.one).mono ?_
          rintro e w7 ⟨rfl, rfl⟩
          go_wp2_with fail
          refine (pair_pop gx.out.1 gx.out.2 (List.Perm.refl _)).mono ?_
          rintro e w8 ⟨rfl, g8⟩
          go_wp2_with fail
          refine (pair_pop g8.out.swap gx.out.2 (List.Perm.refl _)).mono ?_
          rintro e w9 ⟨rfl, g9⟩
          have gr := Lib.hid (show Rising lt t from (List.pairwise_cons.1 gx.out.2).2)
          go_wp2
          go_roundg t.length
          case measure => rw [hk]; simp
          case rel => exact ⟨t, rfl, trivial, g9.out.swap, gr.out⟩
theorem pqueueSame_walk (a0 : Int) (a1 : Option Addr) (len1 cap1 : Nat) (z1 : List Tu) (a2 : Int) (w : World) (w0 : (Lit.int .u8 a0).wf = true) (w1 : TS w a1 len1 z1) (c1 : len1 ≤ cap1 ∧ cap1 ≤ 9223372036854775807) (w2 : (Lit.int .u8 a2).wf = true) :
    Calls Try.prog 6 #[.int .u8 a0, .slice a1 len1 cap1, .int .u8 a2] w fun e w' => e = .returned (.bool true) ∧ Below w.heap.size w w' := by
  obtain ⟨s, rfl, hs⟩ := u8_nat w0
  obtain ⟨p, rfl, hp⟩ := u8_nat w2
  exact same_walk s hs a1 len1 cap1 z1 p hp w w1 c1
end Go.Proofs.Ytfpolnokdebncaa
