/- OrdmapNil: the walk. -/
import Derived.Test.YtlfigdembgkkoaaNil
import Derived.Test.YtlfigdembgkkoaaWorks
namespace Go.Proofs.Ytlfigdembgkkoaa
open Go.RowKit Go.Shelf Go.Sort Go.Lib

/-- The two maps of the law. -/
def nilP (z k : Nat) : Option Addr := match k with | 0 => none | _ => some ⟨z, 0, none⟩
def NilRow (w : World) (z b : Nat) : Prop := w.cell? ⟨z, 0, none⟩ = some (.pointer none) ∧ ∀ k, k < 2 → w.cell? ⟨b, k, none⟩ = some (.pointer (nilP z k))
theorem NilRow.below {w w' : World} {z b : Nat} (h : NilRow w z b) (hb : Below w.heap.size w w') : NilRow w' z b :=
  ⟨(hb.cell (SS.lt_of_cell h.1)).trans h.1, fun k hk => (hb.cell (SS.lt_of_cell (h.2 k hk))).trans (h.2 k hk)⟩
theorem NilRow.bad {w : World} {z b : Nat} (h : NilRow w z b) (k : Nat) : SS.Bad w (nilP z k) := by
  cases k with
  | zero => exact Or.inl rfl
  | succ k => exact Or.inr ⟨z, rfl, h.1⟩

theorem below2x (w : World) (o1 o2 : Obj) : Below w.heap.size w ((w.alloc o1).alloc o2) := ((Below.refl _ w).alloc (Nat.le_refl _) o1).alloc (by simp) o2
theorem nil_start (w : World) : NilRow ((w.alloc (.cells #[.pointer none, .slice none 0 0] 40)).alloc (.cells #[.pointer none, .pointer (some ⟨w.heap.size, 0, none⟩)] 24)) w.heap.size (w.heap.size + 1) ∧ Below w.heap.size w ((w.alloc (.cells #[.pointer none, .slice none 0 0] 40)).alloc (.cells #[.pointer none, .pointer (some ⟨w.heap.size, 0, none⟩)] 24)) := by
  have h1 : ((w.alloc (.cells #[.pointer none, .slice none 0 0] 40)).alloc (.cells #[.pointer none, .pointer (some ⟨w.heap.size, 0, none⟩)] 24)).heap[w.heap.size]? = some (.cells #[.pointer none, .slice none 0 0] 40 (0, 0)) :=
    (Below.heap_alloc _ _ _ (by simp)).trans (heap_alloc_new w _)
  have h2 : ((w.alloc (.cells #[.pointer none, .slice none 0 0] 40)).alloc (.cells #[.pointer none, .pointer (some ⟨w.heap.size, 0, none⟩)] 24)).heap[w.heap.size + 1]? = some (.cells #[.pointer none, .pointer (some ⟨w.heap.size, 0, none⟩)] 24 (0, 0)) := by
    have := heap_alloc_new (w.alloc (.cells #[.pointer none, .slice none 0 0] 40)) (.cells #[.pointer none, .pointer (some ⟨w.heap.size, 0, none⟩)] 24)
    rwa [World.size_alloc] at this
  refine ⟨⟨(cell_of_row _ _ 0 _ _ (0, 0) h1).trans rfl, fun k hk => ?_⟩, below2x _ _ _⟩
  rw [cell_of_row _ _ k _ _ (0, 0) h2]
  rcases k with _ | _ | k
  · rfl
  · rfl
  · omega
set_option maxRecDepth 1000000 in
set_option maxHeartbeats 8000000 in
theorem ordmapNil_walk (a0 : ByteArray) (a1 : ByteArray) (a2 : Int) (w : World) (w0 : a0.size ≤ maxLen) (w1 : a1.size ≤ maxLen) (_w2 : (Lit.int .i64 a2).wf = true) :
    Calls Try.prog 4 #[.string a0, .string a1, .int .i64 a2] w fun e w' => e = .returned (.bool true) ∧ Below w.heap.size w w' := by
  unfold maxLen at w0 w1
  clear _w2
  by_cases h0 : 1000 < a0.size
  · have h0' : (1000 : Int) < (a0.size : Int) := by omega
    go_enter Try.func4, Try.ntmps4
    go_wp2_with (go_at_call 10; refine (works_any _).mono ?_; rintro e w' ⟨rfl, hB⟩)
    go_ret
    exact ⟨rfl, hB⟩
  have h0' : ¬ (1000 : Int) < (a0.size : Int) := by omega
  by_cases h1 : 1000 < a1.size
  · have h1' : (1000 : Int) < (a1.size : Int) := by omega
    go_enter Try.func4, Try.ntmps4
    go_wp2_with (go_at_call 10; refine (works_any _).mono ?_; rintro e w' ⟨rfl, hB⟩)
    go_ret
    exact ⟨rfl, hB⟩
  have h1' : ¬ (1000 : Int) < (a1.size : Int) := by omega
  clear h0 h1
  go_enter Try.func4, Try.ntmps4
  go_wp2
  have bA := below2x w (.cells #[.pointer none, .slice none 0 0] 40) (.cells #[.pointer none, .pointer (some ⟨w.heap.size, 0, none⟩)] 24)
  have gA := Lib.hid (nil_start w)
  go_loopw [32] (fun i wr => ∃ k : Nat, k ≤ 2 ∧ i = .int .i64 k ∧ Hid (NilRow wr w.heap.size (w.heap.size + 1) ∧ Below w.heap.size w wr)) (fun i _ => 2 - (intOf i).toNat)
  case atStart => exact ⟨0, by omega, rfl, gA.out⟩
  case round =>
    obtain ⟨k, hk, rfl, gI⟩ := hrel
    by_cases hlt : k < 2
    · have c0 := gI.out.1.2 k hlt
      have gb := Lib.hid (gI.out.1.bad k)
      have gB := Lib.hid gI.out.2
      have gR := Lib.hid gI.out.1
      obtain ⟨p, hp⟩ : ∃ p, p = nilP w.heap.size k := ⟨_, rfl⟩
      rw [← hp] at c0 gb
      clear gI gA bA hp
      go_wp2_with (first
        | (go_at_call 13; refine (SS.set_bad _ _ _ _ gb.out).mono ?_; rintro e w' ⟨rfl, rfl⟩)
        | (go_at_call 21; refine (SS.at_bad _ _ _ gb.out).mono ?_; rintro e w' ⟨rfl, hB⟩; have gb' := Lib.hid (gb.out.below hB); have gB' := Lib.hid (gB.out.trans (hB.mono gB.out.size)); have gR' := Lib.hid (gR.out.below hB); clear hB gb gB gR; have gb := gb'; have gB := gB'; have gR := gR'; clear gb' gB' gR')
        | (go_at_call 19; refine (shows_bad _ _ _ _ gb.out).mono ?_; rintro e w' ⟨rfl, hB⟩; have gb' := Lib.hid (gb.out.below hB); have gB' := Lib.hid (gB.out.trans (hB.mono gB.out.size)); have gR' := Lib.hid (gR.out.below hB); clear hB gb gB gR; have gb := gb'; have gB := gB'; have gR := gR'; clear gb' gB' gR')
        | (go_at_call 17; refine (copy_bad _ _ gb.out).mono ?_; rintro e w' ⟨rfl, rfl⟩)
        | (go_at_call 15; refine (bdel gb.out _).mono ?_; rintro e w' ⟨rfl, hB⟩; have gb' := Lib.hid (gb.out.below hB); have gB' := Lib.hid (gB.out.trans (hB.mono gB.out.size)); have gR' := Lib.hid (gR.out.below hB); clear hB gb gB gR; have gb := gb'; have gB := gB'; have gR := gR'; clear gb' gB' gR'))
      exact ⟨⟨k + 1, by omega, by simp, ⟨gR.out, gB.out⟩⟩, by simp [intOf]; omega⟩
    · obtain rfl : k = 2 := by omega
      clear gA bA
      go_wp2_with (go_at_call 10; refine (works_any _).mono ?_; rintro e w' ⟨rfl, hB⟩)
      go_ret
      exact ⟨rfl, gI.out.2.trans (hB.mono gI.out.2.size)⟩
end Go.Proofs.Ytlfigdembgkkoaa
