/- slices.Clone at items of int64: the shelf's contract at this program. -/
import Derived.Shelf.SlicesE.Clone
import Derived.Ground.SlgnProg
import Derived.Test.YtepgdeokjgjapaaChecked
namespace Go.Proofs
open Go.Shelf
def Try.cloneJJ_ren : Go.Shelf.Ren := ⟨fun | 41 => 65 | n => n, fun | 22 => 50 | 23 => 104 | 4 => 4 | n => n, fun | n => n⟩
theorem Try.cloneJJ : Go.Proofs.SlLaysE0.n41 Try.prog Try.cloneJJ_ren := {
  mixed := by kernel_rfl
  f41 := ⟨Try.f65.name, by decide, Try.func65.trans (congrArg some (by kernel_rfl))⟩
  t4 := Try.underlying4
  a4 := Try.isAgg4
  z4 := Try.sizeOf4
  v4 := Try.zeroValue4
  t22 := Try.underlying50
  a22 := Try.isAgg50
  z22 := Try.sizeOf50
  v22 := Try.zeroValue50 }
end Go.Proofs
