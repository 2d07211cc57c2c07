/- The chapter's example: works. -/
import Derived.Test.YtaohlblhfmlpbaaBeside
import Derived.Deep.Cut
namespace Go.Proofs.Ytaohlblhfmlpbaa
open Go.RowKit
set_option maxRecDepth 100000 in
set_option maxHeartbeats 4000000 in
theorem works_any (w : World) : Calls Try.prog 10 #[] w fun e w' => e = .returned (.bool true) ∧ Below w.heap.size w w' := by
  go_enter Try.func10, Try.ntmps10
  go_wp2_with fail
  refine (b_new (w0 := w) (S := fun _ => False) 6 (Below.refl _ _) (by decide) (by decide) (fun _ h => h.elim)).mono ?_
  rintro e w1 ⟨rfl, g1⟩
  obtain ⟨P, hP⟩ : ∃ P, P = w.heap.size := ⟨_, rfl⟩
  rw [← hP] at g1 ⊢
  have h1 := Lib.hid g1.out.1
  clear hP g1
  go_wp2_with fail
  have hs1 := lit_sb w1 [1, 2] (n := 2) rfl
  have h1' := h1.out.below (lit_b w1 (.cells (vs [1, 2]).toArray 5))
  refine (b_append h1' hs1 (fun h => nomatch h) (by decide)).mono ?_
  rintro e w2 ⟨rfl, g2⟩
  have h2 := Lib.hid g2.out.1
  clear h1 h1' hs1 g2
  go_wp2_with fail
  refine (b_sync h2.out).mono ?_
  rintro e w3 ⟨rfl, g3⟩
  have h3 : Hid (Beside w P 6 2 [1, 2] (fun _ => False) w3) := Lib.hid g3.out.1
  clear h2 g3
  go_wp2_with fail
  refine (b_append (h3.out.below (lit_b w3 (.cells (vs [3, 4, 5]).toArray 5))) (lit_sb w3 [3, 4, 5] (n := 3) rfl) (fun h => nomatch h) (by decide)).mono ?_
  rintro e w4 ⟨rfl, g4⟩
  have h4 : Hid (Beside w P 6 2 [1, 2, 3, 4, 5] (fun _ => False) w4) := Lib.hid g4.out.1
  clear h3 g4
  go_wp2_with fail
  refine (b_len h4.out).mono ?_
  rintro e _ ⟨rfl, rfl⟩
  go_wp2_with fail
  refine (b_durable h4.out).mono ?_
  rintro e _ ⟨rfl, rfl⟩
  go_wp2_with fail
  refine (b_room h4.out).mono ?_
  rintro e _ ⟨rfl, rfl⟩
  go_wp2_with fail
  have h5 := Lib.hid (h4.out.below (lit_b w4 (.cells (vs [6, 7]).toArray 5)))
  refine (b_full h5.out _ 2 2 (by decide)).mono ?_
  rintro e w5 ⟨rfl, rfl⟩
  obtain ⟨W5, hW5⟩ : ∃ W5, W5 = w4.alloc (.cells (vs [6, 7]).toArray 5) := ⟨_, rfl⟩
  rw [← hW5] at h5 ⊢
  clear hW5 h4
  go_wp2_with fail
  refine (b_read h5.out 1 3 (by decide)).mono ?_
  rintro e w6 ⟨Ra, rfl, g6⟩
  have h6 := Lib.hid (h5.out.more (S' := fun b => b = Ra) g6.out.2.1 (fun b hb => .inr (by rw [show b = Ra from hb]; exact g6.out.2.2)))
  have ga := Lib.hid (show SB w6 (some ⟨Ra, 0, none⟩) 3 [2, 3, 4] from row_sb g6.out.1)
  clear g6 h5
  go_wp2_with fail
  refine (b_read_out h6.out 3 3 (by decide) (.inr (.inr (by decide)))).mono ?_
  rintro e _ ⟨rfl, rfl⟩
  go_wp2_with fail
  refine (b_crash h6.out 1 (by decide)).mono ?_
  rintro e w7 ⟨rfl, g7⟩
  have h7 : Hid (Beside w P 6 3 [1, 2, 3] (fun b => b = Ra) w7) := Lib.hid g7.out.1
  have ga7 := Lib.hid (ga.out.same fun a e => by cases e; exact g7.out.2 Ra rfl)
  clear h6 ga g7
  go_wp2_with fail
  refine (b_read h7.out 0 3 (by decide)).mono ?_
  rintro e w8 ⟨Rb, rfl, g8⟩
  have h8 := Lib.hid (h7.out.more (S' := fun b => b = Ra ∨ b = Rb) g8.out.2.1 (fun b hb => by
    rcases hb with hb | rfl
    · exact .inl hb
    · exact .inr g8.out.2.2))
  have ga8 := Lib.hid (ga7.out.below g8.out.2.1)
  have gb := Lib.hid (show SB w8 (some ⟨Rb, 0, none⟩) 3 [1, 2, 3] from row_sb g8.out.1)
  clear g8 h7 ga7
  go_wp2_with fail
  have hb9 := lit_b w8 (.cells (vs [8]).toArray 5)
  refine (b_append (h8.out.below hb9) (lit_sb w8 [8] (n := 1) rfl) (fun h => nomatch h) (by decide)).mono ?_
  rintro e w9 ⟨rfl, g9⟩
  have h9 : Hid (Beside w P 6 3 [1, 2, 3, 8] (fun b => b = Ra ∨ b = Rb) w9) := Lib.hid g9.out.1
  have ga9 := Lib.hid ((ga8.out.below hb9).same fun a e => by cases e; exact g9.out.2 Ra (.inl rfl))
  have gb9 := Lib.hid ((gb.out.below hb9).same fun a e => by cases e; exact g9.out.2 Rb (.inr rfl))
  clear h8 ga8 gb g9 hb9
  go_wp2_with fail
  refine (b_crash_arg h9.out (-1) (by decide)).mono ?_
  rintro e _ ⟨rfl, rfl⟩
  go_wp2_with fail
  refine (b_crash h9.out 0 (by decide)).mono ?_
  rintro e w10 ⟨rfl, g10⟩
  have h10 : Hid (Beside w P 6 3 [1, 2, 3] (fun b => b = Ra ∨ b = Rb) w10) := Lib.hid g10.out.1
  have ga10 := Lib.hid (ga9.out.same fun a e => by cases e; exact g10.out.2 Ra (.inl rfl))
  have gb10 := Lib.hid (gb9.out.same fun a e => by cases e; exact g10.out.2 Rb (.inr rfl))
  clear h9 ga9 gb9 g10
  go_wp2_with fail
  have hb11 := lit_b w10 (.cells (vs [2, 3, 4]).toArray 5)
  refine (equal_any (c := 3) (c' := 3) (ga10.out.below hb11) (lit_sb w10 [2, 3, 4] (n := 3) rfl)).mono ?_
  rintro e w11 ⟨rfl, rfl⟩
  have h11 := Lib.hid (h10.out.below hb11)
  have gb11 := Lib.hid (gb10.out.below hb11)
  rw [show (([2, 3, 4] : List E) == [2, 3, 4]) = true from by decide]
  obtain ⟨W11, hW11⟩ : ∃ W, W = w10.alloc (.cells (vs [2, 3, 4]).toArray 5) := ⟨_, rfl⟩
  rw [← hW11] at h11 gb11 ⊢
  clear h10 ga10 gb10 hb11 hW11
  go_wp2_with fail
  have hb12 := lit_b W11 (.cells (vs [1, 2, 3]).toArray 5)
  refine (equal_any (c := 3) (c' := 3) (gb11.out.below hb12) (lit_sb W11 [1, 2, 3] (n := 3) rfl)).mono ?_
  rintro e w12 ⟨rfl, rfl⟩
  have h12 := Lib.hid (h11.out.below hb12)
  rw [show (([1, 2, 3] : List E) == [1, 2, 3]) = true from by decide]
  obtain ⟨W12, hW12⟩ : ∃ W, W = W11.alloc (.cells (vs [1, 2, 3]).toArray 5) := ⟨_, rfl⟩
  rw [← hW12] at h12 ⊢
  clear h11 gb11 hb12 hW12
  go_wp2_with fail
  refine (b_len h12.out).mono ?_
  rintro e _ ⟨rfl, rfl⟩
  go_wp2_with fail
  refine (b_durable h12.out).mono ?_
  rintro e _ ⟨rfl, rfl⟩
  have gE := Lib.hid h12.out.low
  clear h12
  go_wp2_with fail
  go_ret
  exact ⟨rfl, gE.out⟩
end Go.Proofs.Ytaohlblhfmlpbaa
