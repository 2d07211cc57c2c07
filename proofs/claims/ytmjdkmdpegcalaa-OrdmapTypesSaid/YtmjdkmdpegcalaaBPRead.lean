/- Get, At, last, Floor, Max. -/
import Derived.Test.YtmjdkmdpegcalaaBPRank
namespace Go.Proofs.Ytmjdkmdpegcalaa.BP
open Go.RowKit Go.Shelf Go.Sort Go.Lib

/-- A value and whether there is one. -/
def GetOf (w : World) (l : List (K × V)) (k : K) (e : Ending) (w' : World) : Prop := e = .returned (.tuple #[(.agg #[.int .i64 (getL lt l k z0).1, .string (getL lt l k z0).2]), .bool (hasB lt (keysOf l) k)]) ∧ Below w.heap.size w w'
theorem Has.lives {w : World} {p A : Option Addr} {c : Nat} {l : List (K × V)} (h : Has w p A c l) (hl : 0 < l.length) : ∃ P, p = some ⟨P, 0, none⟩ ∧ w.cell? ⟨P, 0, none⟩ = some (.pointer (some ⟨P, 0, none⟩)) ∧ w.cell? ⟨P, 1, none⟩ = some (.slice A l.length c) := by
  rcases h.way with ⟨_, _, _, rfl⟩ | h
  · simp at hl
  · exact h
theorem has_lt {l : List (K × V)} {k : K} (h : hasB lt (keysOf l) k = true) : rkB lt (keysOf l) k < l.length := by have := hasB_lt h; simpa using this

end Go.Proofs.Ytmjdkmdpegcalaa.BP
