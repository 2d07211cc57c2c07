/- shows of a map that is valid, beside the reference's: the walk. -/
import Derived.Test.YtbcakennmnjlcaaShows
namespace Go.Proofs.Ytbcakennmnjlcaa
open Go.RowKit Go.Shelf Go.Sort Go.Lib
attribute [local go_sem] Oper.semAt_some
set_option maxRecDepth 1000000 in
set_option maxHeartbeats 16000000 in
/-- shows of two maps that are valid and have the same items. -/
theorem shows_ok (B P R : Nat) (l : List (SS.K × SS.V)) (k : ByteArray) (i : Int) (w : World) (h : Okk B P R l w) :
    Calls Try.prog 19 #[.pointer (some ⟨P, 0, none⟩), .pointer (some ⟨R, 0, none⟩), .string k, .int .i64 i] w fun e w' => e = .returned (.bool true) ∧ Below w.heap.size w w' := by
  obtain ⟨fa, fb, fd, hf1, hf2⟩ := two_floor B P R l k
  obtain ⟨ca, cb, cd, hc1, hc2⟩ := two_ceil B P R l k
  obtain ⟨ma, mb, md, hm1, hm2⟩ := two_min B P R l
  obtain ⟨xa, xb, xd, hx1, hx2⟩ := two_max B P R l
  obtain ⟨ta, tb, td, ht1, ht2⟩ := two_at B P R l i
  obtain ⟨ga, gd, hg1, hg2⟩ := two_get B P R l k
  have hlen := h.len
  have hd : (l.drop (rkB SS.lt (keysOf l) k)).length ≤ l.length := by simp
  obtain ⟨n, hn⟩ : ∃ n, l.length = n := ⟨_, rfl⟩
  obtain ⟨k2, hk2⟩ : ∃ k2, keysOf (l.drop (rkB SS.lt (keysOf l) k)) = k2 := ⟨_, rfl⟩
  obtain ⟨v2, hv2⟩ : ∃ v2, valsOf (l.drop (rkB SS.lt (keysOf l) k)) = v2 := ⟨_, rfl⟩
  obtain ⟨m, hm⟩ : ∃ m, k2.length = m := ⟨_, rfl⟩
  have e1 : n ≤ 9223372036854775807 := by omega
  have hnb : (n : Int) ≤ 1000000 := by omega
  have hn0 : (0 : Int) ≤ (n : Int) := by omega
  have e2 : m ≤ 9223372036854775807 := by rw [← hm, ← hk2, keys_len]; omega
  obtain ⟨kA, hkA⟩ : ∃ kA, keysOf l = kA := ⟨_, rfl⟩
  obtain ⟨vA, hvA⟩ : ∃ vA, valsOf l = vA := ⟨_, rfl⟩
  obtain ⟨r, hr⟩ : ∃ r, rkB SS.lt (keysOf l) k = r := ⟨_, rfl⟩
  have N1 := Lib.hid hn
  have K2 := Lib.hid hk2
  have V2 := Lib.hid hv2
  have M2 := Lib.hid hm
  have F := Lib.hid (And.intro hf1 hf2)
  have C := Lib.hid (And.intro hc1 hc2)
  have M := Lib.hid (And.intro hm1 hm2)
  have X := Lib.hid (And.intro hx1 hx2)
  have T := Lib.hid (And.intro ht1 ht2)
  have G := Lib.hid (And.intro hg1 hg2)
  have g0 := Lib.hid h
  have gB0 := Lib.hid (Below.refl w.heap.size w)
  have E1 := Lib.hid e1
  have E2 := Lib.hid e2
  clear h hf1 hf2 hc1 hc2 hm1 hm2 hx1 hx2 ht1 ht2 hg1 hg2 hd hlen e1 e2 hn hk2 hv2 hm hkA hvA hr
  go_enter Try.func19, Try.ntmps19
  go_wp2_with fail
  refine (F.out.1 _ g0.out).mono ?_
  rintro e w1 ⟨rfl, hb⟩
  have g1 := Lib.hid (g0.out.below hb)
  have gB1 := Lib.hid (gB0.out.trans (hb.mono gB0.out.size))
  clear g0 gB0 hb
  go_wp2_with fail
  refine (F.out.2 _ g1.out).mono ?_
  rintro e w2 ⟨rfl, hb⟩
  have g2 := Lib.hid (g1.out.below hb)
  have gB2 := Lib.hid (gB1.out.trans (hb.mono gB1.out.size))
  clear g1 gB1 hb
  go_wp2_with fail
  refine (C.out.1 _ g2.out).mono ?_
  rintro e w3 ⟨rfl, hb⟩
  have g3 := Lib.hid (g2.out.below hb)
  have gB3 := Lib.hid (gB2.out.trans (hb.mono gB2.out.size))
  clear g2 gB2 hb
  go_wp2_with fail
  refine (C.out.2 _ g3.out).mono ?_
  rintro e w4 ⟨rfl, hb⟩
  have g4 := Lib.hid (g3.out.below hb)
  have gB4 := Lib.hid (gB3.out.trans (hb.mono gB3.out.size))
  clear g3 gB3 hb
  go_wp2_with fail
  refine (M.out.1 _ g4.out).mono ?_
  rintro e w5 ⟨rfl, hb⟩
  have g5 := Lib.hid (g4.out.below hb)
  have gB5 := Lib.hid (gB4.out.trans (hb.mono gB4.out.size))
  clear g4 gB4 hb
  go_wp2_with fail
  refine (M.out.2 _ g5.out).mono ?_
  rintro e w6 ⟨rfl, hb⟩
  have g6 := Lib.hid (g5.out.below hb)
  have gB6 := Lib.hid (gB5.out.trans (hb.mono gB5.out.size))
  clear g5 gB5 hb
  go_wp2_with fail
  refine (X.out.1 _ g6.out).mono ?_
  rintro e w7 ⟨rfl, hb⟩
  have g7 := Lib.hid (g6.out.below hb)
  have gB7 := Lib.hid (gB6.out.trans (hb.mono gB6.out.size))
  clear g6 gB6 hb
  go_wp2_with fail
  refine (X.out.2 _ g7.out).mono ?_
  rintro e w8 ⟨rfl, hb⟩
  have g8 := Lib.hid (g7.out.below hb)
  have gB8 := Lib.hid (gB7.out.trans (hb.mono gB7.out.size))
  clear g7 gB7 hb
  go_wp2_with fail
  refine (T.out.1 _ g8.out).mono ?_
  rintro e w9 ⟨rfl, hb⟩
  have g9 := Lib.hid (g8.out.below hb)
  have gB9 := Lib.hid (gB8.out.trans (hb.mono gB8.out.size))
  clear g8 gB8 hb
  go_wp2_with fail
  refine (T.out.2 _ g9.out).mono ?_
  rintro e w10 ⟨rfl, hb⟩
  have g10 := Lib.hid (g9.out.below hb)
  have gB10 := Lib.hid (gB9.out.trans (hb.mono gB9.out.size))
  clear g9 gB9 hb
  go_wp2_with fail
  refine (G.out.1 _ g10.out).mono ?_
  rintro e w11 ⟨rfl, hb⟩
  have g11 := Lib.hid (g10.out.below hb)
  have gB11 := Lib.hid (gB10.out.trans (hb.mono gB10.out.size))
  clear g10 gB10 hb
  go_wp2_with fail
  refine (G.out.2 _ g11.out).mono ?_
  rintro e w12 ⟨rfl, hb⟩
  have g12 := Lib.hid (g11.out.below hb)
  have gB12 := Lib.hid (gB11.out.trans (hb.mono gB11.out.size))
  clear g11 gB11 hb
  go_wp2_with fail
  refine (len_n g12.out N1.out).mono ?_
  rintro e w' ⟨rfl, rfl⟩
  go_wp2_with fail
  refine (rlen_n g12.out N1.out).mono ?_
  rintro e w' ⟨rfl, rfl⟩
  go_wp2_with fail
  refine (rank_ok g12.out k).mono ?_
  rintro e w13 ⟨rfl, hb⟩
  have g13 := Lib.hid (g12.out.below hb)
  have gB13 := Lib.hid (gB12.out.trans (hb.mono gB12.out.size))
  clear g12 gB12 hb
  go_wp2_with fail
  refine (rrank_ok g13.out k).mono ?_
  rintro e w' ⟨rfl, rfl⟩
  go_wp2_with fail
  refine (all_told _ _).mono ?_
  rintro e w14 ⟨b, rfl, cm14, hb⟩
  have g14 := Lib.hid (g13.out.below hb)
  have gB14 := Lib.hid (gB13.out.trans (hb.mono gB13.out.size))
  clear g13 gB13 hb
  go_wp2_with fail
  refine (rlen_n g14.out N1.out).mono ?_
  rintro e w' ⟨rfl, rfl⟩
  go_wp2_with fail
  refine (pairs_all_n g14.out b N1.out cm14.out).mono ?_
  rintro e w15 ⟨A14, c14, B14, d14, rfl, s1, s2, hb⟩
  have g15 := Lib.hid (g14.out.below hb)
  have gB15 := Lib.hid (gB14.out.trans (hb.mono gB14.out.size))
  have sA := Lib.hid (And.intro s1 s2)
  clear g14 gB14 hb s1 s2
  go_wp2_with fail
  refine (rfrom_all_n g15.out N1.out).mono ?_
  rintro e w16 ⟨A15, c15, B15, d15, rfl, s1, s2, hb⟩
  have g16 := Lib.hid (g15.out.below hb)
  have gB16 := Lib.hid (gB15.out.trans (hb.mono gB15.out.size))
  have sC := Lib.hid (And.intro (And.intro (sA.out.1.below hb) s1) (And.intro (sA.out.2.below hb) s2))
  clear g15 gB15 hb s1 s2 sA
  go_wp2_with fail
  refine (equal_ok sC.out.1.1 sC.out.1.2 E1.out).mono ?_
  rintro e w17 ⟨rfl, hb⟩
  have g17 := Lib.hid (g16.out.below hb)
  have gB17 := Lib.hid (gB16.out.trans (hb.mono gB16.out.size))
  have sV := Lib.hid (And.intro (sC.out.2.1.below hb) (sC.out.2.2.below hb))
  clear g16 gB16 hb sC
  go_wp2_with fail
  refine (equal_ok sV.out.1 sV.out.2 E1.out).mono ?_
  rintro e w18 ⟨rfl, hb⟩
  have g18 := Lib.hid (g17.out.below hb)
  have gB18 := Lib.hid (gB17.out.trans (hb.mono gB17.out.size))
  clear g17 gB17 hb sV
  go_wp2_with fail
  refine (from_told _ _ _).mono ?_
  rintro e w19 ⟨b2, b3, rfl, cm19, hb⟩
  have g19 := Lib.hid (g18.out.below hb)
  have gB19 := Lib.hid (gB18.out.trans (hb.mono gB18.out.size))
  clear g18 gB18 hb
  go_wp2_with fail
  refine (rlen_n g19.out N1.out).mono ?_
  rintro e w' ⟨rfl, rfl⟩
  go_wp2_with fail
  refine (pairs_from_n g19.out b2 b3 k N1.out K2.out V2.out M2.out cm19.out.1 cm19.out.2).mono ?_
  rintro e w20 ⟨A19, c19, B19, d19, rfl, s1, s2, hb⟩
  have g20 := Lib.hid (g19.out.below hb)
  have gB20 := Lib.hid (gB19.out.trans (hb.mono gB19.out.size))
  have sA := Lib.hid (And.intro s1 s2)
  clear g19 gB19 hb s1 s2
  go_wp2_with fail
  refine (rfrom_n g20.out k K2.out V2.out M2.out).mono ?_
  rintro e w21 ⟨A20, c20, B20, d20, rfl, s1, s2, hb⟩
  have g21 := Lib.hid (g20.out.below hb)
  have gB21 := Lib.hid (gB20.out.trans (hb.mono gB20.out.size))
  have sC := Lib.hid (And.intro (And.intro (sA.out.1.below hb) s1) (And.intro (sA.out.2.below hb) s2))
  clear g20 gB20 hb s1 s2 sA
  go_wp2_with fail
  refine (equal_ok sC.out.1.1 sC.out.1.2 E2.out).mono ?_
  rintro e w22 ⟨rfl, hb⟩
  have g22 := Lib.hid (g21.out.below hb)
  have gB22 := Lib.hid (gB21.out.trans (hb.mono gB21.out.size))
  have sV := Lib.hid (And.intro (sC.out.2.1.below hb) (sC.out.2.2.below hb))
  clear g21 gB21 hb sC
  go_wp2_with fail
  refine (equal_ok sV.out.1 sV.out.2 E2.out).mono ?_
  rintro e w23 ⟨rfl, hb⟩
  have g23 := Lib.hid (g22.out.below hb)
  have gB23 := Lib.hid (gB22.out.trans (hb.mono gB22.out.size))
  clear g22 gB22 hb sV
  go_wp2_with fail
  go_ret
  exact ⟨rfl, gB23.out⟩
end Go.Proofs.Ytbcakennmnjlcaa
