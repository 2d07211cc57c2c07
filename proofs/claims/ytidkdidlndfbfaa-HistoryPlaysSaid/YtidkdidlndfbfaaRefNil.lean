/- The reference's list that is nil. -/
import Derived.Test.YtidkdidlndfbfaaShows
namespace Go.Proofs.Ytidkdidlndfbfaa.HS
open Go.RowKit
theorem rvalid_nil (w : World) : Calls Try.prog 46 #[.pointer none] w fun e w' => e = .returned (.bool false) ∧ w = w' := by
  go_enter Try.func46, Try.ntmps46
  go_wp2
  go_ret
  exact ⟨rfl, rfl⟩
theorem rlen_nil (w : World) : Calls Try.prog 52 #[.pointer none] w fun e w' => e = .returned (.int .i64 (0 : Nat)) ∧ w = w' := by
  go_enter Try.func52, Try.ntmps52
  go_wp2_with (go_at_call 46; refine (rvalid_nil _).mono ?_; rintro e w' ⟨rfl, rfl⟩)
  go_ret
  exact ⟨rfl, rfl⟩
theorem rmarked_nil (w : World) : Calls Try.prog 53 #[.pointer none] w fun e w' => e = .returned (.int .i64 (0 : Nat)) ∧ w = w' := by
  go_enter Try.func53, Try.ntmps53
  go_wp2_with (go_at_call 46; refine (rvalid_nil _).mono ?_; rintro e w' ⟨rfl, rfl⟩)
  go_ret
  exact ⟨rfl, rfl⟩
theorem rall_nil (w : World) : Calls Try.prog 50 #[.pointer none] w fun e w' => e = .returned (.slice none 0 0) ∧ w = w' := by
  go_enter Try.func50, Try.ntmps50
  go_wp2_with (go_at_call 46; refine (rvalid_nil _).mono ?_; rintro e w' ⟨rfl, rfl⟩)
  go_ret
  exact ⟨rfl, rfl⟩
theorem rsince_nil (w : World) : Calls Try.prog 51 #[.pointer none] w fun e w' => e = .returned (.slice none 0 0) ∧ w = w' := by
  go_enter Try.func51, Try.ntmps51
  go_wp2_with (go_at_call 46; refine (rvalid_nil _).mono ?_; rintro e w' ⟨rfl, rfl⟩)
  go_ret
  exact ⟨rfl, rfl⟩
theorem rat_nil (i : Int) (w : World) : Calls Try.prog 48 #[.pointer none, .int .i64 i] w fun e w' => e = .returned (.tuple #[.string ⟨#[]⟩, .int .i64 1]) ∧ w = w' := by
  go_enter Try.func48, Try.ntmps48
  go_wp2_with (go_at_call 46; refine (rvalid_nil _).mono ?_; rintro e w' ⟨rfl, rfl⟩)
  go_ret2
  exact ⟨rfl, rfl⟩
theorem nil_row (w : World) : w.ownsRow w.heap.size 9 1 (.slice none 0 0) 0 [] := World.ownsRow_nil _ _ _ _
theorem both_bad {w : World} {p : Option Addr} (h : Bad w p) : Both w p none 0 [] where
  rd := reads_bad h
  ats i := ⟨_, _, fun W hb => (at_bad p i W (h.below hb)).mono fun e w' hw => ⟨hw.1, by rw [← hw.2]; exact Below.refl _ _⟩, fun W _ => rat_nil i W⟩
  len W hb := len_bad p W (h.below hb)
  rlen W _ := rlen_nil W
  rmark W _ := rmarked_nil W
  rall W _ := (rall_nil W).mono fun e w' hw => ⟨_, hw.1, by rw [← hw.2]; exact ⟨nil_row W, Below.refl _ _⟩⟩
  rsince W _ := (rsince_nil W).mono fun e w' hw => ⟨_, hw.1, by rw [← hw.2]; exact ⟨nil_row W, Below.refl _ _⟩⟩
end Go.Proofs.Ytidkdidlndfbfaa.HS
