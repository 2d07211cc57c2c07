/- sort.Search, by the library's contract. -/
import Derived.Shelf.SlSorted.Search
import Derived.Test.YtmjdkmdpegcalaaChecked
namespace Go.Proofs
open Go.Shelf
def Try.search_ren : Go.Shelf.Ren := ⟨fun | 16 => 98 | n => n, fun | 3 => 3 | 35 => 142 | 4 => 4 | 38 => 150 | n => n, fun | n => n⟩
theorem Try.search : Go.Proofs.SlLaysO.n16 Try.prog Try.search_ren := {
  mixed := by kernel_rfl
  f16 := Try.func98.trans (congrArg some (by kernel_rfl))
  t3 := Try.underlying3
  a3 := Try.isAgg3
  z3 := Try.sizeOf3
  v3 := Try.zeroValue3
  t4 := Try.underlying4
  a4 := Try.isAgg4
  z4 := Try.sizeOf4
  v4 := Try.zeroValue4
  t35 := Try.underlying142
  a35 := Try.isAgg142
  z35 := Try.sizeOf142
  v35 := Try.zeroValue142
  t38 := Try.underlying150
  a38 := Try.isAgg150
  z38 := Try.sizeOf150
  v38 := Try.zeroValue150 }
end Go.Proofs
