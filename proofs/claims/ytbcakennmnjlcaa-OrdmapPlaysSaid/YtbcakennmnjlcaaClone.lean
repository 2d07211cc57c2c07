/-
  DERIVED: THE SHELF's CONTRACTS AT THIS DUMP, IN PLAIN WORDS (tools/lay-plain.mjs out of 'TryClone.lean', which tools/lay-shelf.mjs wrote): THE SAME DECLARATIONS UNDER THE SAME NAMES: 'import', 'namespace', 'open', 'def', 'theorem' AND NOTHING ELSE: no command of the shelf's: FOR A HAND-IN. Each laying: the table of numbers ('.._ren') and one theorem, a field a fact of the dump's own or the kernel's comparison; each contract: ONE APPLICATION.
-/
import Derived.Shelf.SlicesE.Clone
import Derived.Ground.SlgnProg
import Derived.Test.YtbcakennmnjlcaaChecked
namespace Go.Proofs
open Go.Shelf
def Try.cloneII_ren : Go.Shelf.Ren := ⟨fun | 41 => 106 | n => n, fun | 22 => 139 | 23 => 146 | 4 => 4 | n => n, fun | n => n⟩
theorem Try.cloneII : Go.Proofs.SlLaysE0.n41 Try.prog Try.cloneII_ren := {
  mixed := by kernel_rfl
  f41 := ⟨Try.f106.name, by decide, Try.func106.trans (congrArg some (by kernel_rfl))⟩
  t4 := Try.underlying4
  a4 := Try.isAgg4
  z4 := Try.sizeOf4
  v4 := Try.zeroValue4
  t22 := Try.underlying139
  a22 := Try.isAgg139
  z22 := Try.sizeOf139
  v22 := Try.zeroValue139 }
def Try.cloneSS_ren : Go.Shelf.Ren := ⟨fun | 41 => 69 | n => n, fun | 22 => 38 | 23 => 123 | 4 => 4 | n => n, fun | n => n⟩
theorem Try.cloneSS : Go.Proofs.SlLaysE0.n41 Try.prog Try.cloneSS_ren := {
  mixed := by kernel_rfl
  f41 := ⟨Try.f69.name, by decide, Try.func69.trans (congrArg some (by kernel_rfl))⟩
  t4 := Try.underlying4
  a4 := Try.isAgg4
  z4 := Try.sizeOf4
  v4 := Try.zeroValue4
  t22 := Try.underlying38
  a22 := Try.isAgg38
  z22 := Try.sizeOf38
  v22 := Try.zeroValue38 }
end Go.Proofs
