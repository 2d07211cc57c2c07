/- The walk of CrcTables: Table against the reference. -/
import Derived.Test.YtcaodblmdaifjaaFrame
import Derived.Test.YtcaodblmdaifjaaWorks
import Derived.Deep.RegionWith
import Derived.BigQuiet
namespace Go.Proofs.Ytcaodblmdaifjaa
open Go.RowKit

theorem feed0 (b : Nat) (hb : b < 256) (w : World) : Calls Try.prog 22 #[.int .u32 0, .int .u8 b] w fun e w' => e = .returned (.int .u32 (csteps 8 b : Nat)) ∧ w = w' := by
  have := feed_any 0 b (by decide) hb w
  rw [show cfeed 0 b = csteps 8 b from by unfold cfeed; rw [Nat.zero_xor]] at this
  exact this

set_option maxRecDepth 100000 in
set_option maxHeartbeats 2000000 in
theorem crcTables_walk (a0 : Int) (w : World) (w0 : (Lit.int .u8 a0).wf = true) :
    Calls Try.prog 6 #[.int .u8 a0] w fun e w' => e = .returned (.bool true) ∧ Below w.heap.size w w' := by
  obtain ⟨b, rfl, hb⟩ := nat_of_u8 w0
  clear w0
  obtain ⟨hz, hs⟩ := zero_of_info info33
  go_enter Try.func6, Try.ntmps6
  go_wp2_with fail
  refine (table_any _).mono ?_
  rintro e wE ⟨rfl, hE⟩
  have hst := store_new33 hs wE (fun _ => 0) (csteps 8)
  have hR0 := Row32.new wE 33 (csteps 8) 256
  have hc := hR0.cell hb
  clear hR0
  go_wp2_with fail
  go_region_with (first | (go_at_call 22; refine (feed0 b hb _).mono ?_; rintro e _ ⟨rfl, rfl⟩) | (go_at_call 13; refine (works_any _).mono ?_; rintro e wD ⟨rfl, hD⟩))
  all_goals go_wp2_with fail
  all_goals go_ret
  all_goals exact ⟨rfl, bchain (bchain hE (below_alloc wE _)).drew hD⟩
end Go.Proofs.Ytcaodblmdaifjaa
