/- Get, At, last, Floor, Max. -/
import Derived.Test.YtmjdkmdpegcalaaBQRank
namespace Go.Proofs.Ytmjdkmdpegcalaa.BQ
open Go.RowKit Go.Shelf Go.Sort Go.Lib

/-- A value and whether there is one. -/
def GetOf (w : World) (l : List (K × V)) (k : K) (e : Ending) (w' : World) : Prop := e = .returned (.tuple #[(.pointer (getL lt l k z0)), .bool (hasB lt (keysOf l) k)]) ∧ Below w.heap.size w w'
theorem Has.lives {w : World} {p A : Option Addr} {c : Nat} {l : List (K × V)} (h : Has w p A c l) (hl : 0 < l.length) : ∃ P, p = some ⟨P, 0, none⟩ ∧ w.cell? ⟨P, 0, none⟩ = some (.pointer (some ⟨P, 0, none⟩)) ∧ w.cell? ⟨P, 1, none⟩ = some (.slice A l.length c) := by
  rcases h.way with ⟨_, _, _, rfl⟩ | h
  · simp at hl
  · exact h
theorem has_lt {l : List (K × V)} {k : K} (h : hasB lt (keysOf l) k = true) : rkB lt (keysOf l) k < l.length := by have := hasB_lt h; simpa using this
set_option maxHeartbeats 2000000 in
theorem get_any (p : Option Addr) (A : Option Addr) (c : Nat) (l : List (K × V)) (k : K) (w : World) (h : Has w p A c l) :
    Calls Try.prog 48 #[.pointer p, (.int .u8 (k))] w (GetOf w l k) := by
  have g := Lib.hid h
  unfold GetOf
  have hc := h.cap
  cases hh : hasB lt (keysOf l) k with
  | true =>
    have hlt := has_lt hh
    have e1 : getL lt l k z0 = (l.getD (rkB lt (keysOf l) k) z0).2 := by unfold getL; rw [hh]; rfl
    rw [e1]
    obtain ⟨P, rfl, _, hP⟩ := h.lives (by omega)
    obtain ⟨b, o, rfl, hbw, _, h1⟩ := h.it.at hlt
    have hPw := lt_of_cell hP
    generalize (l.getD (rkB lt (keysOf l) k) z0).2 = y at h1 ⊢
    clear h e1
    have gh := Lib.hid hh
    clear hh
    obtain ⟨r, hr⟩ : ∃ r, r = rkB lt (keysOf l) k := ⟨_, rfl⟩
    rw [← hr] at hlt h1
    have gr := Lib.hid hr
    clear hr
    obtain ⟨n, hn⟩ : ∃ n, n = l.length := ⟨_, rfl⟩
    rw [← hn] at hlt hc hP
    have gn := Lib.hid hn
    clear hn
    have i0 : (0 : Int) ≤ (r : Int) := by omega
    have i1 : (r : Int) < (n : Int) := by omega
    go_enter Try.func48, Try.ntmps48
    go_wp2_with (go_at_call 113; refine (find_any _ _ c l k _ g.out).mono ?_; rintro e w' ⟨rfl, hB⟩; rw [← gr.out, gh.out]; have h1' := (hB.cell hbw).trans h1; have h2' := (hB.cell hPw).trans hP)
    go_ret2
    exact ⟨rfl, hB⟩
  | false =>
    have e1 : getL lt l k z0 = z0.2 := by unfold getL; rw [hh]; rfl
    rw [e1]
    have gh := Lib.hid hh
    clear h hh e1
    obtain ⟨r, hr⟩ : ∃ r, r = rkB lt (keysOf l) k := ⟨_, rfl⟩
    have gr := Lib.hid hr
    clear hr
    go_enter Try.func48, Try.ntmps48
    go_wp2_with (go_at_call 113; refine (find_any _ _ c l k _ g.out).mono ?_; rintro e w' ⟨rfl, hB⟩; rw [← gr.out, gh.out])
    go_ret2
    exact ⟨rfl, hB⟩

end Go.Proofs.Ytmjdkmdpegcalaa.BQ
