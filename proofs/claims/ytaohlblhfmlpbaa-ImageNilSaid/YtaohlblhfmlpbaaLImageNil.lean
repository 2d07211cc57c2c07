/- ImageNil: the walk. -/
import Derived.Test.YtaohlblhfmlpbaaWorks
namespace Go.Proofs.Ytaohlblhfmlpbaa
open Go.RowKit
theorem two_more (w : World) (a b : Obj) : ∀ W, W = (w.alloc a).alloc b → W.heap[w.heap.size]? = some a ∧ W.heap[w.heap.size + 1]? = some b ∧ Below w.heap.size w W := by
  rintro W rfl
  refine ⟨?_, ?_, ((Below.refl _ w).alloc (Nat.le_refl _) _).alloc (by simp) _⟩
  · exact (Below.heap_alloc _ _ _ (by simp)).trans (World.alloc_heap_new w a)
  · have := World.alloc_heap_new (w.alloc a) b
    rwa [World.size_alloc] at this
/-- The pointers of ImageNil: nil, and one to a zero image. -/
def bads (Z k : Nat) : Option Addr := if k = 0 then none else some ⟨Z, 0, none⟩
theorem bads_bad {W : World} {Z k : Nat} (h : W.heap[Z]? = some (.cells #[.pointer none, .int .i64 0, .int .i64 0, .slice none 0 0] 58 (0, 0))) : Bad W (bads Z k) := by
  unfold bads
  split
  · exact .inl rfl
  · exact .inr ⟨Z, rfl, (cell_of_row W Z 0 _ _ (0, 0) h).trans rfl⟩
theorem bads_cell {W : World} {L Z k : Nat} (h : W.heap[L]? = some (.cells #[.pointer none, .pointer (some ⟨Z, 0, none⟩)] 27 (0, 0))) (hk : k < 2) : W.cell? ⟨L, k, none⟩ = some (.pointer (bads Z k)) := by
  refine (cell_of_row W L k _ _ (0, 0) h).trans ?_
  rcases k with _ | _ | k
  · rfl
  · rfl
  · omega
set_option maxRecDepth 100000 in
set_option maxHeartbeats 8000000 in
theorem imageNil_walk (a0 : Int) (a1 : Int) (w : World) (_w0 : (Lit.int .i64 a0).wf = true) (_w1 : (Lit.int .i64 a1).wf = true) :
    Calls Try.prog 9 #[.int .i64 a0, .int .i64 a1] w fun e w' => e = .returned (.bool true) ∧ Below w.heap.size w w' := by
  clear _w0 _w1
  go_enter Try.func9, Try.ntmps9
  go_wp2_with fail
  obtain ⟨q1, q2, q3⟩ := two_more w (.cells #[.pointer none, .int .i64 0, .int .i64 0, .slice none 0 0] 58) (.cells #[.pointer none, .pointer (some ⟨w.heap.size, 0, none⟩)] 27) _ rfl
  obtain ⟨V, hV⟩ : ∃ V, V = (w.alloc (.cells #[.pointer none, .int .i64 0, .int .i64 0, .slice none 0 0] 58)).alloc (.cells #[.pointer none, .pointer (some ⟨w.heap.size, 0, none⟩)] 27) := ⟨_, rfl⟩
  rw [← hV] at q1 q2 q3
  rw [← hV]
  obtain ⟨z, hz⟩ : ∃ z, z = w.heap.size := ⟨_, rfl⟩
  rw [← hz] at q1 q2
  simp only [← hz]
  have gZ := Lib.hid q1
  have gL := Lib.hid q2
  have g2 := Lib.hid q3
  clear q1 q2 q3 hV hz
  go_loopw [7, 8, 9, 15] (fun _ _ _ c wr => ∃ k : Nat, k ≤ 2 ∧ c = .int .i64 (k : Nat) ∧ Hid (Below V.heap.size V wr)) (fun _ _ _ c _ => 2 - (intOf c).toNat)
  case atStart => exact ⟨0, by omega, rfl, Below.refl _ _⟩
  case round =>
    obtain ⟨k, hk, rfl, gI⟩ := hrel
    by_cases hlt : k < 2
    · have gb := Lib.hid (show ∀ W', Below wr.heap.size wr W' → Bad W' (bads z k) from fun W' hW => bads_bad ((hW.block z (Nat.lt_of_lt_of_le (lt_of_heap gZ.out) gI.out.size)).trans ((gI.out.block z (lt_of_heap gZ.out)).trans gZ.out)))
      have hc := bads_cell ((gI.out.block (z + 1) (lt_of_heap gL.out)).trans gL.out) hlt
      obtain ⟨p, hp⟩ : ∃ p, p = bads z k := ⟨_, rfl⟩
      rw [← hp] at gb hc
      clear hp
      have gB := gb.out _ (Below.refl _ _)
      have gb := Lib.hid gB
      clear gB
      go_wp2_with fail
      refine (read_bad p a0 a1 wr gb.out).mono ?_
      rintro e _ ⟨rfl, rfl⟩
      go_wp2_with fail
      refine (sync_bad p wr gb.out).mono ?_
      rintro e _ ⟨rfl, rfl⟩
      go_wp2_with fail
      refine (erase_bad p wr gb.out).mono ?_
      rintro e _ ⟨rfl, rfl⟩
      go_wp2_with fail
      refine (append_bad p _ wr gb.out).mono ?_
      rintro e _ ⟨rfl, rfl⟩
      go_wp2_with fail
      refine (crash_bad p a1 wr gb.out).mono ?_
      rintro e _ ⟨rfl, rfl⟩
      go_wp2_with fail
      refine (len_bad p wr gb.out).mono ?_
      rintro e _ ⟨rfl, rfl⟩
      go_wp2_with fail
      refine (durable_bad p wr gb.out).mono ?_
      rintro e _ ⟨rfl, rfl⟩
      go_wp2_with fail
      refine (room_bad p wr gb.out).mono ?_
      rintro e _ ⟨rfl, rfl⟩
      go_wp2_with fail
      refine (size_bad p wr gb.out).mono ?_
      rintro e _ ⟨rfl, rfl⟩
      go_wp2_with fail
      refine (copy_bad p wr gb.out).mono ?_
      rintro e _ ⟨rfl, rfl⟩
      go_wp2_with fail
      go_roundw
      case rel => exact ⟨k + 1, by omega, by simp, gI⟩
      case measure => simp [intOf] <;> omega
    · obtain rfl : k = 2 := by omega
      have g3 := Lib.hid (g2.out.trans (gI.out.mono g2.out.size))
      clear hlt
      go_wp2_with fail
      refine (works_any _).mono ?_
      rintro e W9 ⟨rfl, hb⟩
      have gE := Lib.hid (g3.out.trans (hb.mono g3.out.size))
      clear hb
      go_wp2_with fail
      go_ret
      exact ⟨rfl, gE.out⟩
end Go.Proofs.Ytaohlblhfmlpbaa
