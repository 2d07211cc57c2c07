/- The table of powers of ten out of the row's listed variables. -/
import Derived.Test.YtfkkpgklciehoaaDoorFrame
import Derived.Test.YtfkkpgklciehoaaDoorFmt
namespace Go.Proofs.YtfkkpgklciehoaaDoor
open Go.ChangeShapes Go.WideShapes Go.ChangeAt Go.RowKit

theorem pow_of_laid {W : World} {laid : List (String × DataW Unit)} (hp : (laid.all fun x => x.2.handleName?.isNone) = true) (hm : ("internal/strconv.uint64pow10", Lib.tabData .u64 Lib.pow10Tab) ∈ laid) (h : laidMetH Tryd.prog laid W) : Pow W := by
  rw [MakeChecks.laidMetH_plain _ _ _ hp] at h
  obtain ⟨ps, hL, _⟩ := h
  have hg : Tryd.prog.globalNamed "internal/strconv.uint64pow10" = some 0 := by kernel_rfl
  exact tab_of_laid hg (by kernel_rfl) Tryd.underlying66 Tryd.underlying50 (by kernel_rfl) (by kernel_rfl) laid ps hL hm
end Go.Proofs.YtfkkpgklciehoaaDoor
