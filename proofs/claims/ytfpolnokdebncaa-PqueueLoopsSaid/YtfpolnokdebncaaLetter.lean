/- letter, Priority, count. -/
import Derived.Test.YtfpolnokdebncaaTurns
import Derived.Laws.IdiomStrings
namespace Go.Proofs.Ytfpolnokdebncaa
open Go.RowKit
theorem letter_any (p : Nat) (hp : p < 256) (w : World) : Calls Try.prog 36 #[.int .u8 (p : Nat)] w fun e w' => e = .returned (.string (QT.lett p)) ∧ Below w.heap.size w w' := by
  have hcv : (convert 117 9 (.slice (some ⟨w.heap.size, 0, none⟩) 1 1)).run Try.prog (w.alloc (.cells #[.int .u8 (p : Nat)] 5)) = .ok (.string (QT.lett p)) (w.alloc (.cells #[.int .u8 (p : Nat)] 5)) := by
    refine run_convert_bytes_back (P := Try.prog) _ 117 9 5 ⟨w.heap.size, 0, none⟩ 1 [UInt8.ofNat p] Try.underlying117 Try.underlying5 Try.underlying9 fun j hj => ?_
    obtain rfl : j = 0 := by simpa using hj
    rw [QT.add_plain]
    have e : ((UInt8.ofNat p).toNat : Int) = (p : Int) := by simp; omega
    simp only [List.getElem_cons_zero, e]
    exact (cell_of_row _ w.heap.size 0 _ _ (0, 0) (World.alloc_heap_new w _)).trans rfl
  go_enter Try.func36, Try.ntmps36
  go_wp2
  go_ret
  exact ⟨rfl, (Below.refl _ w).alloc (Nat.le_refl _) _⟩
namespace QT
section
variable {w0 w : World} {P n : Nat} {S : List It}
theorem has_priority (h : QHas w0 w P n S) (y : It) (hy : y ∈ S) : Calls Try.prog 40 #[.pointer (some ⟨P, 0, none⟩), .int .i64 (y.1 : Nat)] w fun e w' => e = .returned (.tuple #[.string y.2, .bool true]) ∧ w = w' := by
  obtain ⟨v, G, pl, hO, hp, _⟩ := h
  obtain ⟨k, hk⟩ := mem_at (hp.mem_iff.2 hy)
  have hyn := hO.ids y (List.mem_of_getElem? hk)
  have hk4 : k < 1024 := by have := lt_of_some hk; have := hO.len; have := hO.hn; omega
  have hl := lt_of_some hk
  obtain ⟨g, c, rfl, hc, _⟩ := hO.qs.shape (by omega)
  obtain ⟨u0, u1⟩ := hO.qs.item hk
  have c2 := hO.qs.c2
  have gO := Lib.hid hO
  have gp := Lib.hid ((hO.plc y.1 (by rw [hO.qs.len]; have := hO.hn; omega) (by simp)).1 k y hk rfl)
  have hkl : (k : Int) < (G.length : Int) := by omega
  have hk0 : (0 : Int) ≤ (k : Int) := by omega
  have gk := Lib.hid hk
  clear hO hk hp
  go_enter Try.func40, Try.ntmps40
  go_wp2_with (go_at_call 74; refine (find_at gO.out.qs y.1 k hyn gO.out.hn hk4 gp.out).mono ?_; rintro e w' ⟨rfl, rfl⟩)
  go_ret2
  have e2 : G[k]'hl = y := (List.getElem?_eq_some_iff.1 gk.out).2
  exact ⟨by simp only [e2]; rfl, rfl⟩
theorem has_priority_none (h : QHas w0 w P n S) (i : Nat) (hi : i < n) (hno : ∀ y ∈ S, y.1 ≠ i) : Calls Try.prog 40 #[.pointer (some ⟨P, 0, none⟩), .int .i64 (i : Nat)] w fun e w' => e = .returned (.tuple #[.string ⟨#[]⟩, .bool false]) ∧ w = w' := by
  obtain ⟨v, G, pl, h, hG, _⟩ := h
  have hp0 : pl[i]? = some 0 := by
    rcases h.place hi with ⟨k, x, hx, e, _⟩ | ⟨_, h0⟩
    · exact absurd e (hno x (hG.mem_iff.1 (List.mem_of_getElem? hx)))
    · exact h0
  have g := Lib.hid h
  have gp := Lib.hid hp0
  clear h hno hp0 hG
  go_enter Try.func40, Try.ntmps40
  go_wp2_with (go_at_call 74; refine (find_none g.out.qs i hi g.out.hn gp.out).mono ?_; rintro e w' ⟨rfl, rfl⟩)
  go_ret2
  exact ⟨rfl, rfl⟩
end
end QT
end Go.Proofs.Ytfpolnokdebncaa
