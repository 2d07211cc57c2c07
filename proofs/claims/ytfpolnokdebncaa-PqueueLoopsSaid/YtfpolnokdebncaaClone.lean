/- slices.Clone at items of strings: the shelf's contract at this program. -/
import Derived.Shelf.SlicesE.Clone
import Derived.Ground.SlgnProg
import Derived.Test.YtfpolnokdebncaaChecked
namespace Go.Proofs
open Go.Shelf
def Try.cloneTT_ren : Go.Shelf.Ren := ⟨fun | 41 => 76 | n => n, fun | 22 => 110 | 23 => 115 | 4 => 4 | n => n, fun | n => n⟩
theorem Try.cloneTT : Go.Proofs.SlLaysE0.n41 Try.prog Try.cloneTT_ren := {
  mixed := by kernel_rfl
  f41 := ⟨Try.f76.name, by decide, Try.func76.trans (congrArg some (by kernel_rfl))⟩
  t4 := Try.underlying4
  a4 := Try.isAgg4
  z4 := Try.sizeOf4
  v4 := Try.zeroValue4
  t22 := Try.underlying110
  a22 := Try.isAgg110
  z22 := Try.sizeOf110
  v22 := Try.zeroValue110 }
end Go.Proofs
