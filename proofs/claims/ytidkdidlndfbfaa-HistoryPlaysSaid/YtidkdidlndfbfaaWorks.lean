/- The chapter's example: works. -/
import Derived.Test.YtidkdidlndfbfaaHSHas
import Derived.Test.YtidkdidlndfbfaaAll
namespace Go.Proofs.Ytidkdidlndfbfaa
open Go.RowKit HS
def sa : ByteArray := ⟨#[97]⟩
def sb : ByteArray := ⟨#[98]⟩
def sc : ByteArray := ⟨#[99]⟩
def sd : ByteArray := ⟨#[100]⟩
def sx : ByteArray := ⟨#[120]⟩
theorem has_reads {w0 w : World} {P lim mk : Nat} {l : List E} (h : Has w0 P lim mk l w) : Reads w (some ⟨P, 0, none⟩) mk l := by
  obtain ⟨v, h1, _⟩ := h
  exact reads_own h1
theorem lit_sl (W : World) : SL (W.alloc (.cells #[.string ⟨#[98]⟩, .string ⟨#[99]⟩] 9)) (some ⟨W.heap.size, 0, none⟩) 2 [sb, sc] := by
  refine ⟨rfl, fun _ => ⟨W.heap.size, rfl, fun i x hx => ?_⟩⟩
  refine (cell_of_row _ W.heap.size i _ _ (0, 0) (World.alloc_heap_new W _)).trans ?_
  rcases i with _ | _ | i
  · cases hx; rfl
  · cases hx; rfl
  · simp at hx
set_option maxRecDepth 100000 in
set_option maxHeartbeats 4000000 in
theorem works_any (w : World) : Calls Try.prog 10 #[] w fun e w' => e = .returned (.bool true) ∧ Below w.heap.size w w' := by
  go_enter Try.func10, Try.ntmps10
  go_wp2_with fail
  refine (h_new (w0 := w) 3 (by omega) (Below.refl _ _)).mono ?_
  rintro e w1 ⟨rfl, g1, _⟩
  obtain ⟨P, hP⟩ : ∃ P, P = w.heap.size := ⟨_, rfl⟩
  rw [← hP] at g1 ⊢
  clear hP
  go_wp2_with fail
  refine (h_add g1 (show ([] : List E).length < 3 by decide) ⟨#[97]⟩).mono ?_
  rintro e w2 ⟨rfl, g2⟩
  go_wp2_with fail
  refine (h_mark g2).mono ?_
  rintro e w3 ⟨rfl, g3⟩
  go_wp2_with fail
  refine (h_add g3 (show ([⟨#[97]⟩] : List E).length < 3 by decide) ⟨#[98]⟩).mono ?_
  rintro e w4 ⟨rfl, g4⟩
  go_wp2_with fail
  refine (h_add g4 (show ([⟨#[97]⟩, ⟨#[98]⟩] : List E).length < 3 by decide) ⟨#[99]⟩).mono ?_
  rintro e w5 ⟨rfl, g5⟩
  go_wp2_with fail
  have g5' : Has w P 3 1 [⟨#[97]⟩, ⟨#[98]⟩, ⟨#[99]⟩] w5 := g5
  clear g1 g2 g3 g4 g5
  refine (h_full g5' rfl ⟨#[100]⟩).mono ?_
  rintro e w6 ⟨rfl, g6⟩
  clear g5'
  go_wp2_with fail
  refine (h_marked g6).mono ?_
  rintro e _ ⟨rfl, rfl⟩
  go_wp2_with fail
  refine (h_len g6).mono ?_
  rintro e _ ⟨rfl, rfl⟩
  go_wp2_with fail
  refine (since_is (has_reads g6) (by decide)).mono ?_
  rintro e w7 ⟨v7, rfl, gs⟩
  obtain ⟨A7, c7, rfl, _, _, hc7, hS7, _⟩ := owns_sl gs.out.1
  have g7 := g6.below gs.out.2
  have gS7 := Lib.hid hS7
  clear gs g6 hS7
  go_wp2_with fail
  have hE := lists_equal (gS7.out.below ((Below.refl _ _).alloc (Nat.le_refl _) (.cells #[.string ⟨#[98]⟩, .string ⟨#[99]⟩] 9))) (lit_sl w7) (c := c7) (d := 2) (by decide) (by decide)
  have gE := Lib.hid hE
  clear hE
  refine gE.out.mono ?_
  rintro e w8 ⟨rfl, hB8⟩
  have g8 := (g7.below ((Below.refl _ _).alloc (Nat.le_refl _) (.cells #[.string ⟨#[98]⟩, .string ⟨#[99]⟩] 9))).below hB8
  have e8 : decide ((([⟨#[97]⟩, ⟨#[98]⟩, ⟨#[99]⟩] : List E).drop 1) = [sb, sc]) = true := by decide
  rw [e8]
  clear gE hB8 g7 gS7 e8
  go_wp2_with fail
  refine (h_cut_out g8 0 (.inl (by decide))).mono ?_
  rintro e _ ⟨rfl, rfl⟩
  go_wp2_with fail
  refine (h_cut_out g8 4 (.inr (by decide))).mono ?_
  rintro e _ ⟨rfl, rfl⟩
  go_wp2_with fail
  refine (h_cut g8 2 (by decide) (by decide)).mono ?_
  rintro e w9 ⟨rfl, g9⟩
  have g9' : Has w P 3 1 [⟨#[97]⟩, ⟨#[98]⟩] w9 := g9
  clear g8 g9
  go_wp2_with fail
  refine (h_len g9').mono ?_
  rintro e _ ⟨rfl, rfl⟩
  go_wp2_with fail
  refine (h_mark g9').mono ?_
  rintro e w10 ⟨rfl, g10⟩
  have g10' : Has w P 3 2 [⟨#[97]⟩, ⟨#[98]⟩] w10 := g10
  clear g9' g10
  go_wp2_with fail
  refine (h_at g10' 1 ⟨#[98]⟩ rfl).mono ?_
  rintro e w11 ⟨rfl, hB11⟩
  have g11 := g10'.below hB11
  clear g10' hB11
  go_wp2_with fail
  refine (h_at_out g11 2 (.inr (by decide))).mono ?_
  rintro e _ ⟨rfl, rfl⟩
  go_wp2_with fail
  refine (h_cut_out g11 1 (.inl (by decide))).mono ?_
  rintro e _ ⟨rfl, rfl⟩
  go_wp2_with fail
  refine (h_clear g11).mono ?_
  rintro e w12 ⟨rfl, g12⟩
  clear g11
  go_wp2_with fail
  refine (h_len g12).mono ?_
  rintro e _ ⟨rfl, rfl⟩
  go_wp2_with fail
  refine (h_marked g12).mono ?_
  rintro e _ ⟨rfl, rfl⟩
  go_wp2_with fail
  refine (h_add g12 (show ([] : List E).length < 3 by decide) ⟨#[120]⟩).mono ?_
  rintro e w13 ⟨rfl, g13⟩
  have gB := Lib.hid g13.low
  clear g12 g13
  go_wp2_with fail
  go_ret
  exact ⟨rfl, gB.out⟩
end Go.Proofs.Ytidkdidlndfbfaa
