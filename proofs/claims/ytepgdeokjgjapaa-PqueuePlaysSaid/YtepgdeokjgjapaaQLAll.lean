/- All of a queue that is not valid yields nothing. -/
import Derived.Test.YtepgdeokjgjapaaQLBad
import Derived.RangeFuncNested
import Derived.RangeFuncBound
import Derived.RangeFuncCalls
import Derived.RangeFuncLeaves
import Derived.RangeFuncBox
import Derived.Shelf.Abstract
import Derived.Shelf.RegionOpen
import Derived.OwnWalkIn
import Derived.TacticsInMore
import Derived.LoopNIn
import Derived.LoopIn
import Derived.LoopN
namespace Go.Proofs.Ytepgdeokjgjapaa.QL
open Go.RowKit Go.Shelf
attribute [local go_sem] Oper.semAt_some

theorem yieldless (lp Bm : Nat) (p : Option Addr) (W : World) (hm : W.cell? ⟨Bm, 0, none⟩ = some (.pointer p)) (h : Bad W p) :
    Calls Try.prog 69 #[.func (.yield lp) #[] #[], .pointer (some ⟨Bm, 0, none⟩)] W fun e w' => e = .returned (.tuple #[]) ∧ W = w' := by
  have g := Lib.hid h
  have gn := Lib.hid (show Bad W none from Or.inl rfl)
  clear h
  go_enter Try.func69, Try.ntmps69
  go_wp2_with (go_at_call 22; refine (copy_bad _ _ g.out).mono ?_; rintro e w' ⟨rfl, rfl⟩)
  refine wp_loop_rounds 1 ?_
  rw [rounds_succ]
  go_wp2_with (go_at_call 20; refine (pop_bad _ _ gn.out).mono ?_; rintro e w' ⟨rfl, rfl⟩)
  refine bodyPost_ret (results_none rfl _ _ _) rfl ?_
  exact ⟨rfl, rfl⟩
def encs (_ : Unit) : Array Value := #[.int .i64 0, .int .i64 0]
theorem all_stops (n n₀ Bm : Nat) (p : Option Addr) (w : World) (hm : w.cell? ⟨Bm, 0, none⟩ = some (.pointer p)) (h : Bad w p)  :
    SeqStopsK Fence.wide n Try.prog 69 #[.pointer (some ⟨Bm, 0, none⟩)] encs (Below n₀) (fun ys => ys = []) (fun pre => pre <+: []) 0 w := fun lp _ _ W hb _ _ _ h0 =>
  callsIn_wide.2 ((yieldless lp Bm p W ((hb.cell (QI.lt_of_cell hm)).trans hm) (QI.Bad.below h hb)).mono fun _ _ h => ⟨⟨_, h.1⟩, .inl ⟨[], rfl, h.2 ▸ h0⟩⟩)
end Go.Proofs.Ytepgdeokjgjapaa.QL
