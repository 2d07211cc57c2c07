/- PqueueKnown: the walk. -/
import Derived.Test.YtepgdeokjgjapaaKFr
import Derived.Test.YtepgdeokjgjapaaWorks
import Derived.Deep.LoopGhost
namespace Go.Proofs.Ytepgdeokjgjapaa
open Go.RowKit
theorem both_perm {w0 w : World} {P R : Nat} {S S' : List QU.It} {L : List QF.It} (h : Both w0 w P R S L) (hp : S.Perm S') : Both w0 w P R S' L := by
  obtain ⟨⟨v, G, pl, h1, h2, h3⟩, h4⟩ := h
  exact ⟨⟨v, G, pl, h1, h2.trans hp, h3⟩, h4⟩
theorem risen_at {k : Nat} (h : k < 1024) : risen (1024 - k) = risenAt k :: risen (1024 - (k + 1)) := by
  obtain ⟨m, hm⟩ : ∃ m, m = 1024 - (k + 1) := ⟨_, rfl⟩
  rw [← hm, show 1024 - k = m + 1 by omega, risen, show 1023 - m = k by omega]
set_option maxRecDepth 1000000 in
set_option maxHeartbeats 16000000 in
theorem pqueueKnown_walk (w : World) : Calls Try.prog 10 #[] w fun e w' => e = .returned (.bool true) ∧ Below w.heap.size w w' := by
  go_enter Try.func10, Try.ntmps10
  go_wp2_with fail
  obtain ⟨W, hW⟩ : ∃ W, W = w.alloc (.cells #[.int .i64 0, .int .i64 (-1), .int .i64 1025] 3) := ⟨_, rfl⟩
  have c0 : W.cell? ⟨w.heap.size, 0, none⟩ = some (.int .i64 0) := by rw [hW]; simp [go_sem]
  have c1 : W.cell? ⟨w.heap.size, 1, none⟩ = some (.int .i64 (-1)) := by rw [hW]; simp [go_sem]
  have c2 : W.cell? ⟨w.heap.size, 2, none⟩ = some (.int .i64 1025) := by rw [hW]; simp [go_sem]
  have gB := Lib.hid (show Below w.heap.size w W by rw [hW]; exact (Below.refl _ w).alloc (Nat.le_refl _) _)
  rw [← hW]
  clear hW
  go_loopw [22] (fun i wr => ∃ k : Nat, k ≤ 3 ∧ i = .int .i64 k ∧ wr = W) (fun i _ => 3 - (intOf i).toNat)
  case atStart => exact ⟨0, Nat.zero_le _, rfl, rfl⟩
  case round =>
    obtain ⟨k, hk, rfl, rfl⟩ := hrel
    rcases (show k = 0 ∨ k = 1 ∨ k = 2 ∨ k = 3 by omega) with rfl | rfl | rfl | rfl
    · go_wp2_with fail
      refine (QI.new_bad 0 _ (by decide)).mono ?_
      rintro e w2 ⟨rfl, rfl⟩
      go_wp2
      exact ⟨⟨1, by omega, rfl, trivial⟩, by simp [intOf]⟩
    · go_wp2_with fail
      refine (QI.new_bad (-1) _ (by decide)).mono ?_
      rintro e w2 ⟨rfl, rfl⟩
      go_wp2
      exact ⟨⟨2, by omega, rfl, trivial⟩, by simp [intOf]⟩
    · go_wp2_with fail
      refine (QI.new_bad 1025 _ (by decide)).mono ?_
      rintro e w2 ⟨rfl, rfl⟩
      go_wp2
      exact ⟨⟨3, by omega, rfl, trivial⟩, by simp [intOf]⟩
    · clear c0 c1 c2
      obtain ⟨W1, hW1⟩ : ∃ W1, W1 = wr := ⟨_, rfl⟩
      subst hW1
      go_wp2_with fail
      refine (QU.has_new 1024 _ (by decide) (by decide)).mono ?_
      rintro e w2 ⟨rfl, g2⟩
      obtain ⟨P, hP⟩ : ∃ P, P = W1.heap.size := ⟨_, rfl⟩
      rw [← hP] at g2
      rw [← hP]
      clear hP
      go_wp2_with fail
      refine (both_new g2.out).mono ?_
      rintro e w3 ⟨rfl, g3⟩
      obtain ⟨R, hR⟩ : ∃ R, R = w2.heap.size := ⟨_, rfl⟩
      rw [← hR] at g3
      rw [← hR]
      clear hR g2
      go_wp2_with fail
      go_loopw [9] (fun i wv => ∃ k : Nat, k ≤ 1024 ∧ i = .int .i64 k ∧ Hid (Both W1 wv P R (pushed k) [])) (fun i _ => 1024 - (intOf i).toNat)
      case atStart => exact ⟨0, Nat.zero_le _, rfl, g3.out⟩
      case round =>
        obtain ⟨k, hk, rfl, gI⟩ := hrel
        clear g3
        by_cases hlt : k < 1024
        · obtain ⟨r, hr⟩ : ∃ r, r = k % 256 := ⟨_, rfl⟩
          have eT : Int.tmod (k : Int) 256 = (r : Int) := by rw [hr]; rfl
          have eI : (k : Int) % 256 = (r : Int) := by rw [hr]; rfl
          have hr0 : (0 : Int) ≤ 255 - (r : Int) := by omega
          have hr1 : (255 : Int) - (r : Int) < 256 := by omega
          have hr2 : ((255 : Int) - (r : Int)) % 256 = 255 - (r : Int) := by omega
          have hp : (255 : Int) - (r : Int) = ((255 - k % 256 : Nat) : Int) := by omega
          have gp := Lib.hid hp
          clear hr hp
          go_wp2_with fail
          refine (both_push8 gI.out k _ hlt (pushed_no k)).mono ?_
          rintro e w7 ⟨rfl, g7⟩
          go_wp2
          exact ⟨⟨k + 1, by omega, by simp, by rw [gp.out] at g7; exact g7.out⟩, by simp [intOf]; omega⟩
        · obtain rfl : k = 1024 := by omega
          have gP := Lib.hid (both_perm gI.out risen_perm.symm)
          clear gI hlt hk
          obtain ⟨W3, hW3⟩ : ∃ W3, W3 = wr := ⟨_, rfl⟩
          subst hW3
          go_wp2_with fail
          refine (both_out gP.out 0).mono ?_
          rintro e w4 ⟨rfl, rfl⟩
          go_wp2_with fail
          refine (both_pushF gP.out 0 3 (by decide) (by simp)).mono ?_
          rintro e w4 ⟨rfl, g4⟩
          go_wp2_with fail
          refine (both_pushF g4.out 1 0 (by decide) (by simp)).mono ?_
          rintro e w5 ⟨rfl, g5⟩
          go_wp2_with fail
          refine (both_pushF g5.out 2 2 (by decide) (by simp)).mono ?_
          rintro e w6 ⟨rfl, g6⟩
          clear g4 g5 gP
          go_wp2_with fail
          go_loopw [10] (fun i wv => ∃ k : Nat, k ≤ 1024 ∧ i = .int .i64 k ∧ Hid (Both W1 wv P R (risen (1024 - k)) [(2, 2), (1, 0), (0, 3)])) (fun i _ => 1024 - (intOf i).toNat)
          case atStart => exact ⟨0, Nat.zero_le _, rfl, g6.out⟩
          case round =>
            obtain ⟨k, hk, rfl, gI⟩ := hrel
            clear g6
            by_cases hlt : k < 1024
            · have hx := risen_at hlt
              have hs := rising_risen (1024 - k) (by omega)
              obtain ⟨t, ht⟩ : ∃ t, t = risen (1024 - (k + 1)) := ⟨_, rfl⟩
              rw [hx] at hs gI
              rw [← ht] at hs gI
              have gs := Lib.hid hs
              obtain ⟨a, ha⟩ : ∃ a, a = k / 4 := ⟨_, rfl⟩
              obtain ⟨b, hb⟩ : ∃ b, b = k % 4 := ⟨_, rfl⟩
              have eT : Int.tmod (k : Int) 4 = (b : Int) := by rw [hb]; rfl
              have eI : (k : Int) % 4 = (b : Int) := by rw [hb]; rfl
              have eQ : Int.tdiv (k : Int) 4 = (a : Int) := by rw [ha]; rfl
              have eD : (k : Int) / 4 = (a : Int) := by rw [ha]; rfl
              have ha1 : a < 256 := by omega
              have hb1 : b < 4 := by omega
              have e1 : ((risenAt k).1 : Int) = 256 * (b : Int) + 255 - (a : Int) := by
                unfold risenAt
                rw [← ha, ← hb]
                show ((256 * b + 255 - a : Nat) : Int) = _
                omega
              have e2 : (risenAt k).2 = (a : Int) := by
                unfold risenAt
                rw [← ha]
              have gt := Lib.hid ht
              clear ha hb hx hs ht
              go_wp2_with fail
              refine (both_pop8 gI.out gs.out (List.Perm.refl _)).mono ?_
              rintro e w7 ⟨rfl, g7⟩
              rw [e1, e2]
              go_wp2
              exact ⟨⟨k + 1, by omega, by simp, by rw [gt.out] at g7; exact g7.out⟩, by simp [intOf]; omega⟩
            · obtain rfl : k = 1024 := by omega
              obtain ⟨W6, hW6⟩ : ∃ W6, W6 = wr := ⟨_, rfl⟩
              subst hW6
              go_wp2_with fail
              refine (both_popF gI.out float_rising float_perm).mono ?_
              rintro e w7 ⟨rfl, g7⟩
              go_wp2_with fail
              refine (both_popF g7.out (List.pairwise_cons.1 float_rising).2 (List.Perm.refl _)).mono ?_
              rintro e w8 ⟨rfl, g8⟩
              go_wp2_with fail
              refine (works_any _).mono ?_
              rintro e w9 ⟨rfl, hB9⟩
              go_wp2_with fail
              go_ret
              have hB8 := g8.out.1.frame
              exact ⟨rfl, gB.out.trans ((hB8.trans (hB9.mono hB8.size)).mono gB.out.size)⟩
end Go.Proofs.Ytepgdeokjgjapaa
