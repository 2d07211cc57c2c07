/- HistoryNil: the walk. -/
import Derived.Test.YtidkdidlndfbfaaRefNil
namespace Go.Proofs.Ytidkdidlndfbfaa
open Go.RowKit HS
theorem nils_at {w V : World} (hV : V = (w.alloc (.cells #[.pointer none, .int .i64 0, .int .i64 0, .slice none 0 0] 41)).alloc (.cells #[.pointer none, .pointer (some ⟨w.heap.size, 0, none⟩)] 24)) (k : Nat) (hk : k < 2) :
    ∃ p, V.cell? ⟨w.heap.size + 1, k, none⟩ = some (.pointer p) ∧ Bad V p := by
  have e : ∀ i, V.cell? ⟨w.heap.size + 1, i, none⟩ = (#[.pointer none, .pointer (some ⟨w.heap.size, 0, none⟩)] : Array Value)[i]? := fun i => by
    rw [hV]
    have := World.cell?_alloc_new (w.alloc (.cells #[.pointer none, .int .i64 0, .int .i64 0, .slice none 0 0] 41)) #[.pointer none, .pointer (some ⟨w.heap.size, 0, none⟩)] 24 i
    rwa [World.size_alloc] at this
  rcases k with _ | _ | k
  · exact ⟨none, e 0, .inl rfl⟩
  · exact ⟨_, e 1, .inr ⟨_, rfl, by rw [hV]; exact World.cell?_alloc2_first _ _ _ 0⟩⟩
  · omega
set_option maxRecDepth 1000000 in
set_option maxHeartbeats 16000000 in
theorem historyNil_walk (a0 : ByteArray) (a1 : Int) (w : World) (_w0 : a0.size ≤ maxLen) (_w1 : (Lit.int .i64 a1).wf = true) :
    Calls Try.prog 4 #[.string a0, .int .i64 a1] w fun e w' => e = .returned (.bool true) ∧ Below w.heap.size w w' := by
  clear _w0 _w1
  by_cases hsz : (1000 : Int) < (a0.size : Int)
  · go_enter Try.func4, Try.ntmps4
    go_wp2_with fail
    refine (works_any _).mono ?_
    rintro e w1 ⟨rfl, hb⟩
    go_wp2_with fail
    go_ret
    exact ⟨rfl, hb⟩
  · go_enter Try.func4, Try.ntmps4
    go_wp2_with fail
    obtain ⟨D, hD⟩ : ∃ D, D = w.heap.size + 1 := ⟨_, rfl⟩
    obtain ⟨V, hV⟩ : ∃ V, V = (w.alloc (.cells #[.pointer none, .int .i64 0, .int .i64 0, .slice none 0 0] 41)).alloc (.cells #[.pointer none, .pointer (some ⟨w.heap.size, 0, none⟩)] 24) := ⟨_, rfl⟩
    have gN := Lib.hid (nils_at hV)
    have gV := Lib.hid (show Below w.heap.size w V by rw [hV]; exact ((Below.refl _ w).alloc (Nat.le_refl _) _).alloc (by simp) _)
    have gDV := Lib.hid (show D < V.heap.size by rw [hV, hD]; simp)
    rw [← hV]
    rw [← hD] at gN ⊢
    clear hV hD
    go_loopw [17] (fun i wr => ∃ k : Nat, k ≤ 2 ∧ i = .int .i64 (k : Nat) ∧ Hid (Below V.heap.size V wr)) (fun i _ => 2 - (intOf i).toNat)
    case atStart => exact ⟨0, by omega, rfl, Below.refl _ _⟩
    case round =>
      obtain ⟨k, hk, rfl, gR⟩ := hrel
      by_cases hlt : k < 2
      · obtain ⟨p, hc0, hbad⟩ := gN.out k hlt
        have gb := Lib.hid (hbad.below gR.out)
        have hc := (gR.out.cell (p := ⟨D, k, none⟩) gDV.out).trans hc0
        clear hc0 hbad
        go_wp2_with fail
        refine (mark_bad _ _ gb.out).mono ?_
        rintro e _ ⟨rfl, rfl⟩
        go_wp2_with fail
        refine (clear_bad _ _ gb.out).mono ?_
        rintro e _ ⟨rfl, rfl⟩
        go_wp2_with fail
        refine (add_bad _ _ _ gb.out).mono ?_
        rintro e _ ⟨rfl, rfl⟩
        go_wp2_with fail
        refine (cut_bad _ _ _ gb.out).mono ?_
        rintro e _ ⟨rfl, rfl⟩
        go_wp2_with fail
        refine (shows_ok (both_bad gb.out) (by simp) _).mono ?_
        rintro e w2 ⟨rfl, hb2⟩
        have gb2 := Lib.hid (gb.out.below hb2)
        have gR2 := Lib.hid (gR.out.trans (hb2.mono gR.out.size))
        clear hb2 gb gR hc
        go_wp2_with fail
        refine (copy_bad _ _ gb2.out).mono ?_
        rintro e _ ⟨rfl, rfl⟩
        go_wp2_with fail
        go_roundw
        case rel => exact ⟨k + 1, by omega, by simp, gR2.out⟩
        case measure => simp [intOf]; omega
      · obtain rfl : k = 2 := by omega
        go_wp2_with fail
        refine (works_any _).mono ?_
        rintro e w4 ⟨rfl, hb4⟩
        have gE := Lib.hid (gV.out.trans ((gR.out.trans (hb4.mono gR.out.size)).mono gV.out.size))
        clear hb4 gR
        go_wp2_with fail
        go_ret
        exact ⟨rfl, gE.out⟩
end Go.Proofs.Ytidkdidlndfbfaa
