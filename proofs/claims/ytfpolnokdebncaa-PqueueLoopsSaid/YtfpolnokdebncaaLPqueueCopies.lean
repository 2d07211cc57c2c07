/- PqueueCopies: the walk. -/
import Derived.Test.YtfpolnokdebncaaQTCopied
import Derived.Test.YtfpolnokdebncaaLPqueueSame
namespace Go.Proofs.Ytfpolnokdebncaa
open Go.RowKit QT
namespace QT
section
variable {w0 w : World} {P n : Nat} {S : List It}
theorem QHas.nodup (h : QHas w0 w P n S) : S.Nodup := by
  obtain ⟨v, G, pl, hO, hp, _⟩ := h
  exact hp.nodup_iff.1 (List.Pairwise.imp (fun hne e => hne (by rw [e])) (List.pairwise_map.1 hO.nd))
theorem has_copy (h : QHas w0 w P n S) : Calls Try.prog 43 #[.pointer (some ⟨P, 0, none⟩)] w fun e w' => e = .returned (.pointer (some ⟨w.heap.size, 0, none⟩)) ∧ Hid (QHas w w' w.heap.size n S) := by
  obtain ⟨v, G, pl, hO, hp, _⟩ := h
  refine (copy_any hO).mono ?_
  rintro e w' ⟨rfl, g⟩
  obtain ⟨v', h1, h2⟩ := g.out
  exact ⟨rfl, v', G, pl, h1, hp, h2⟩
theorem has_pop_some (h : QHas w0 w P n S) : Calls Try.prog 35 #[.pointer (some ⟨P, 0, none⟩)] w fun e w' => (∃ r, e = .returned r) ∧ Hid (∃ T, QHas w0 w' P n T) := by
  obtain ⟨T, hT, hpT⟩ := rising_of iord S h.nodup
  cases T with
  | nil =>
    obtain rfl : S = [] := List.nil_perm.1 hpT
    refine (has_pop_none h).mono ?_
    rintro e w' ⟨rfl, rfl⟩
    exact ⟨⟨_, rfl⟩, _, h⟩
  | cons x t =>
    refine (has_pop h hT hpT).mono ?_
    rintro e w' ⟨rfl, g⟩
    exact ⟨⟨_, rfl⟩, _, g.out⟩
theorem has_push_zero (h : QHas w0 w P n S) (hn : 0 < n) (p : Pr) : Calls Try.prog 38 #[.pointer (some ⟨P, 0, none⟩), .int .i64 0, .string p] w fun e w' => (∃ r, e = .returned r) ∧ Hid (∃ T, QHas w0 w' P n T) := by
  by_cases hy : ∃ y ∈ S, y.1 = 0
  · obtain ⟨y, hy, h0⟩ := hy
    have := has_push_have h y p hy
    rw [h0] at this
    refine this.mono ?_
    rintro e w' ⟨rfl, rfl⟩
    exact ⟨⟨_, rfl⟩, _, h⟩
  · refine (has_push h 0 p hn (fun y hy' e => hy ⟨y, hy', e⟩)).mono ?_
    rintro e w' ⟨rfl, g⟩
    exact ⟨⟨_, rfl⟩, _, g.out⟩
/-- A queue that changes, a queue that stays, and a row beside both. -/
def Beside (w0 w : World) (P n R m : Nat) (S T : List It) (Z : Nat) (o : Obj) : Prop :=
  ∃ v G pl, QOwn w w0.heap.size P n v G pl ∧ G.Perm S ∧ Below w0.heap.size w0 w ∧ P ≠ Z ∧ v.ownBlock ≠ some Z ∧ w.heap[Z]? = some o ∧
    ∃ u H ql, QOwn w w0.heap.size R m u H ql ∧ H.Perm T ∧ P ≠ R ∧ v.ownBlock ≠ some R ∧ u.ownBlock ≠ some P ∧ (∀ g, v.ownBlock = some g → u.ownBlock ≠ some g)
theorem Beside.one {R m Z : Nat} {T : List It} {o : Obj} (h : Beside w0 w P n R m S T Z o) : QHas w0 w P n S := by
  obtain ⟨v, G, pl, h1, h2, h3, _⟩ := h
  exact ⟨v, G, pl, h1, h2, h3⟩
theorem Beside.other {R m Z : Nat} {T : List It} {o : Obj} (h : Beside w0 w P n R m S T Z o) : QHas w0 w R m T := by
  obtain ⟨v, G, pl, h1, h2, h3, _, _, _, u, H, ql, k1, k2, _⟩ := h
  exact ⟨u, H, ql, k1, k2, h3⟩
theorem Beside.row {R m Z : Nat} {T : List It} {o : Obj} (h : Beside w0 w P n R m S T Z o) : w.heap[Z]? = some o := by
  obtain ⟨v, G, pl, h1, h2, h3, _, _, h6, _⟩ := h
  exact h6
theorem beside_pop {R m Z : Nat} {T : List It} {o : Obj} (h : Beside w0 w P n R m S T Z o) {x : It} {t : List It} (hs : Rising lt (x :: t)) (hp : (x :: t).Perm S) :
    Calls Try.prog 35 #[.pointer (some ⟨P, 0, none⟩)] w fun e w' => e = .returned (.tuple #[.int .i64 (x.1 : Nat), .string x.2, .bool true]) ∧ Hid (Beside w0 w' P n R m t T Z o) := by
  obtain ⟨v, G, pl, h1, h2, h3, h4, h5, h6, u, H, ql, k1, k2, k3, k4, k5, k6⟩ := h
  have hpG := hp.trans h2.symm
  have hl := hpG.length_eq
  obtain ⟨y, hy⟩ : ∃ y, G[0]? = some y := ⟨_, List.getElem?_eq_getElem (by rw [← hl]; simp)⟩
  obtain ⟨t', e⟩ := head_first iord h1.heap hy hs hpG
  obtain ⟨rfl, rfl⟩ : x = y ∧ t = t' := by simpa using e
  refine (pop_any h1 x hy).mono ?_
  rintro e w' ⟨rfl, v', G', pl', j1, j2, j3⟩
  obtain ⟨i1, i2, i3⟩ := own_keep j3 k1 k3 k4 k5 k6
  have hZ := lt_of_heap h6
  refine ⟨rfl, v', G', pl', j1, ((j2.symm.trans h2).trans hp.symm).cons_inv, chg_below h1 h3 j3, h4, fun e => ?_, (j3.but.block Z hZ (by rintro (e | e); exact h4 e.symm; exact h5 e)).trans h6, u, H, ql, i1, k2, k3, i2, k5, i3⟩
  rcases j3.row Z e with hh | hh
  · exact h5 hh
  · omega
end
end QT
theorem beside_of {w w1 W : World} {P n Z R m : Nat} {want : List (Option Nat)} {S : List It} (h : Holding w w1 P n Z want) (h2 : QHas w1 W R m (itemsFrom 0 want)) (hS : (itemsFrom 0 want).Perm S) : Beside w W P n R m S S Z (wishes want) := by
  obtain ⟨v, G, pl, h1, hp, hb, h4, h5, h6, _⟩ := h.2.2
  obtain ⟨u, H, ql, k1, kp, kb⟩ := h2
  have hPw := lt_of_heap h1.qs.blk
  have hRw := k1.qs.hP
  have hZ := lt_of_heap h4
  refine ⟨v, G, pl, h1.below kb, hp.trans hS, hb.trans (kb.mono hb.size), Ne.symm h5, h6, (kb.block Z hZ).trans h4, u, H, ql, ⟨⟨by have := hb.size; omega, k1.qs.blk, ⟨k1.qs.row.1, k1.qs.row.2.imp_right fun ⟨g, cap, cur, e, hg, r⟩ => ⟨g, cap, cur, e, by have := hb.size; omega, r⟩⟩, k1.qs.len⟩, k1.heap, k1.plc, k1.nd, k1.ids, k1.hn⟩, kp.trans hS, by omega, fun e => ?_, fun e => ?_, fun g e e2 => ?_⟩
  · have := (h1.qs.row.lt _ e).2
    omega
  · have := (k1.qs.row.lt _ e).1
    omega
  · have := (h1.qs.row.lt _ e).2
    have := (k1.qs.row.lt _ e2).1
    omega
set_option maxHeartbeats 1000000 in
theorem count_row {W : World} {n Z : Nat} {want : List (Option Nat)} (hz : W.heap[Z]? = some (wishes want)) (hl : want.length = n) (hn : n ≤ 50) : Calls Try.prog 33 #[.slice (some ⟨Z, 0, none⟩) n n] W fun e w' => e = .returned (.int .i64 ((itemsFrom 0 want).length : Nat)) ∧ W = w' := by
  rw [← cnt_all, hl]
  have gH := Lib.hid hz
  have gL := Lib.hid hl
  clear hz hl
  go_enter Try.func33, Try.ntmps33
  go_wp2
  go_loopw [3, 4] (fun c i wr => ∃ k : Nat, k ≤ n ∧ i = .int .i64 k ∧ c = .int .i64 (cnt want k : Nat) ∧ cnt want k ≤ k ∧ wr = W) (fun _ i _ => n - (intOf i).toNat)
  case atStart => exact ⟨0, Nat.zero_le _, rfl, by simp [cnt], by simp [cnt], rfl⟩
  case round =>
    obtain ⟨k, hk, rfl, rfl, hck, rfl⟩ := hrel
    by_cases hlt : k < n
    · obtain ⟨x, hx⟩ : ∃ x, want[k]? = some x := ⟨_, List.getElem?_eq_getElem (by rw [gL.out]; exact hlt)⟩
      have c0 : wr.cell? ⟨Z, k, none⟩ = some (wish x) := (cell_of_row wr Z k _ _ (0, 0) gH.out).trans (by simp [hx])
      have gs := Lib.hid (cnt_succ hx)
      obtain ⟨c, hc⟩ : ∃ c, c = cnt want k := ⟨_, rfl⟩
      rw [← hc] at hck
      rw [← hc]
      have gc := Lib.hid hc
      clear hx hc
      cases x with
      | none =>
        have c1 : wr.cell? ⟨Z, k, none⟩ = some (.int .i64 (-1)) := c0
        clear c0
        go_wp2
        have e : cnt want (k + 1) = c := by rw [gs.out, gc.out]; simp
        exact ⟨⟨k + 1, by omega, by simp, by rw [e], by omega, trivial⟩, by simp [intOf]; omega⟩
      | some q =>
        have c1 : wr.cell? ⟨Z, k, none⟩ = some (.int .i64 (q : Nat)) := c0
        have q0 : (0 : Int) ≤ (q : Int) := by omega
        clear c0
        go_wp2
        have e : cnt want (k + 1) = c + 1 := by rw [gs.out, gc.out]; simp
        exact ⟨⟨k + 1, by omega, by simp, by rw [e]; simp, by omega, trivial⟩, by simp [intOf]; omega⟩
    · obtain rfl : n = k := by omega
      go_wp2
      go_ret
      exact ⟨rfl, rfl⟩
set_option maxRecDepth 1000000 in
set_option maxHeartbeats 8000000 in
theorem copies_walk (s : Nat) (hs : s < 256) (A : Option Addr) (m cap : Nat) (ts : List Tu) (f : Nat) (hf : f < 256) (w : World) (h : TS w A m ts) (hcap : m ≤ cap ∧ cap ≤ 9223372036854775807) :
    Calls Try.prog 9 #[.int .u8 (s : Nat), .slice A m cap, .int .u8 (f : Nat)] w fun e w' => e = .returned (.bool true) ∧ Below w.heap.size w w' := by
  by_cases hm : 100 < m
  · have hm' : (100 : Int) < (m : Int) := by omega
    go_enter Try.func9, Try.ntmps9
    go_wp2_with (go_at_call 11; refine (works_any _).mono ?_; rintro e w' ⟨rfl, hB⟩)
    go_ret
    exact ⟨rfl, hB⟩
  have hm' : ¬ (100 : Int) < (m : Int) := by omega
  have hq := eq_none58
  have qf : IntKind.i64.wrap (f : Int) = f := IntWalk.i64_in _ ⟨by omega, by omega⟩
  have gT := Lib.hid h

  clear h hm
  go_enter Try.func9, Try.ntmps9
  go_wp2_with fail
  refine (made_any s hs A m cap ts _ gT.out hcap).mono ?_
  rintro e w1 ⟨P, Z, n, hn, rfl, gM⟩
  obtain ⟨want, hl, hlt, hby⟩ := gM.out
  have gH := Lib.hid (show Holding w w1 P n Z want from ⟨hl, hlt, hby⟩)
  have hn50 : n ≤ 50 ∧ 1 ≤ n := by omega
  clear gM hl hlt hby hn gT
  go_wp2_with fail
  refine (has_copy gH.out.2.2.has).mono ?_
  rintro e w2 ⟨rfl, g2⟩
  obtain ⟨C, hC⟩ : ∃ C, C = w1.heap.size := ⟨_, rfl⟩
  rw [← hC] at g2
  rw [← hC]
  clear hC
  go_wp2_with fail
  go_loopw [10] (fun i wr => ∃ (k : Nat) (T : List It), k ≤ f ∧ i = .int .i64 k ∧ Hid (QHas w1 wr C n T)) (fun i _ => f - (intOf i).toNat)
  case atStart => exact ⟨0, _, Nat.zero_le _, rfl, g2.out⟩
  case round =>
    obtain ⟨k, T, hk, rfl, gI⟩ := hrel
    clear g2
    by_cases hlt : k < f
    · go_wp2_with fail
      refine (has_pop_some gI.out).mono ?_
      rintro e w3 ⟨⟨r, rfl⟩, g3⟩
      obtain ⟨T', hT'⟩ := g3.out
      have g4 := Lib.hid hT'
      clear hT' g3
      go_wp2
      exact ⟨⟨k + 1, T', by omega, by simp, g4.out⟩, by simp [intOf]; omega⟩
    · obtain ⟨V0, hV0⟩ : ∃ V0, V0 = wr := ⟨_, rfl⟩
      subst hV0
      go_wp2_with fail
      refine (has_push_zero gI.out (by omega) _).mono ?_
      rintro e w3 ⟨⟨r, rfl⟩, g3⟩
      obtain ⟨T', hT'⟩ := g3.out
      have gW := Lib.hid (gH.out.below (show Below w1.heap.size w1 w3 by obtain ⟨_, _, _, _, _, hb⟩ := hT'; exact hb))
      clear hT' g3 gI hk hlt
      go_wp2_with fail
      go_loopw [11] (fun i wr => ∃ k : Nat, k ≤ n ∧ i = .int .i64 k ∧ Hid (Holding w wr P n Z want)) (fun i _ => n - (intOf i).toNat)
      case atStart => exact ⟨0, Nat.zero_le _, rfl, gW.out⟩
      case round =>
        obtain ⟨k, hk, rfl, gI⟩ := hrel
        clear gW
        by_cases hlt : k < n
        · obtain ⟨x, hx⟩ : ∃ x, want[k]? = some x := ⟨_, List.getElem?_eq_getElem (by rw [gI.out.1]; exact hlt)⟩
          obtain ⟨d0, _⟩ := QBy.wish gI.out.2.2 hx
          have gy := Lib.hid hx
          have gq := Lib.hid (show ∀ q, x = some q → q < 256 from fun q e => gI.out.2.1 q (by rw [← e]; exact List.mem_of_getElem? hx))
          clear hx
          cases x with
          | none =>
            have d1 : wr.cell? ⟨Z, k, none⟩ = some (.int .i64 (-1)) := d0
            clear d0
            go_wp2_with fail
            refine (h_priority_none gI.out k gy.out).mono ?_
            rintro e w6 ⟨rfl, rfl⟩
            go_wp2
            exact ⟨⟨k + 1, by omega, by simp, gI.out⟩, by simp [intOf]; omega⟩
          | some q =>
            have d1 : wr.cell? ⟨Z, k, none⟩ = some (.int .i64 (q : Nat)) := d0
            have r0 : (0 : Int) ≤ (q : Int) := by omega
            have rq := gq.out q rfl
            have r1 : (q : Int) % 256 = (q : Int) := by omega
            clear d0
            go_wp2_with fail
            refine (h_priority gI.out k q gy.out).mono ?_
            rintro e w6 ⟨rfl, rfl⟩
            go_wp2_with fail
            refine (letter_any q rq _).mono ?_
            rintro e w7 ⟨rfl, hB7⟩
            have g7 := Lib.hid (gI.out.below hB7)
            clear hB7
            go_wp2
            exact ⟨⟨k + 1, by omega, by simp, g7.out⟩, by simp [intOf]; omega⟩
        · obtain rfl : n = k := by omega
          obtain ⟨S, hS, hpS⟩ := rising_of iord _ gI.out.nodup
          have gS := Lib.hid hS
          have gp := Lib.hid hpS
          clear hS hpS hlt hk
          go_wp2_with fail
          refine (has_copy gI.out.2.2.has).mono ?_
          rintro e w8 ⟨rfl, g8⟩
          have gP := Lib.hid (beside_of gI.out g8.out gp.out.symm)
          obtain ⟨D, hD⟩ : ∃ D, D = wr.heap.size := ⟨_, rfl⟩
          rw [← hD] at gP
          rw [← hD]
          clear g8 gI hD
          go_wp2_with fail
          go_loopg [79] S.length (fun k a wr => ∃ t : List It, k = t.length ∧ a = a ∧ Hid (Beside w wr P n D n t S Z (wishes want) ∧ Rising lt t))
          case atStart => exact ⟨S, rfl, rfl, gP.out, gS.out⟩
          case round =>
            obtain ⟨t, hk, _, gI⟩ := hrel
            clear gP gS
            cases t with
            | nil =>
              have g0 := Lib.hid gI.out.1.one
              have g1 := Lib.hid gI.out.1.other
              have gc := Lib.hid (count_row gI.out.1.row gH.out.1 hn50.1)
              have el : S.length = (itemsFrom 0 want).length := gp.out.length_eq
              clear hk
              go_wp2_with fail
              refine (has_len g0.out).mono ?_
              rintro e w9 ⟨rfl, rfl⟩
              go_wp2_with fail
              refine (has_len g1.out).mono ?_
              rintro e w9 ⟨rfl, rfl⟩
              rw [el]
              clear el
              go_wp2_with fail
              refine gc.out.mono ?_
              rintro e w9 ⟨rfl, rfl⟩
              go_wp2_with fail
              refine (works_any _).mono ?_
              rintro e w10 ⟨rfl, hB10⟩
              go_wp2_with fail
              go_ret
              obtain ⟨_, _, _, _, _, hBw⟩ := g0.out
              exact ⟨rfl, hBw.trans (hB10.mono hBw.size)⟩
            | cons x t =>
              have gx := Lib.hid gI.out
              have hpos : (0 : Int) < (t.length : Int) + 1 := by omega
              clear gI
              go_wp2_with fail
              refine (has_len gx.out.1.one).mono ?_
              rintro e w9 ⟨rfl, rfl⟩
              go_wp2_with fail
              refine (beside_pop gx.out.1 gx.out.2 (List.Perm.refl _)).mono ?_
              rintro e w10 ⟨rfl, g10⟩
              have gr := Lib.hid (show Rising lt t from (List.pairwise_cons.1 gx.out.2).2)
              go_wp2
              go_roundg t.length
              case measure => rw [hk]; simp
              case rel => exact ⟨t, rfl, trivial, g10.out, gr.out⟩
theorem pqueueCopies_walk (a0 : Int) (a1 : Option Addr) (len1 cap1 : Nat) (z1 : List Tu) (a2 : Int) (w : World) (w0 : (Lit.int .u8 a0).wf = true) (w1 : TS w a1 len1 z1) (c1 : len1 ≤ cap1 ∧ cap1 ≤ 9223372036854775807) (w2 : (Lit.int .u8 a2).wf = true) :
    Calls Try.prog 9 #[.int .u8 a0, .slice a1 len1 cap1, .int .u8 a2] w fun e w' => e = .returned (.bool true) ∧ Below w.heap.size w w' := by
  obtain ⟨s, rfl, hs⟩ := u8_nat w0
  obtain ⟨p, rfl, hp⟩ := u8_nat w2
  exact copies_walk s hs a1 len1 cap1 z1 p hp w w1 c1
end Go.Proofs.Ytfpolnokdebncaa
