/-
  No cell of these rows narrows 'for every input' (looked for: loops, veiled, ifaces, maps, wideKeys, modest, calm, conditions, laid).
  DERIVED. THE GIVEN ROWS OF THIS SEAT. 7 by the template 'for every input the law returns true; each argument reads behind the call as it read before'; 0 by the template 'total and deterministic' (their statements: YtidkdidlndfbfaaTotals.lean).
  GIVEN WITH THE SEED: the statements are not yours to turn. If you find one false, say at which input.
  Laid BY PROGRAM, IN A SANDBOX (cutbox-rows.mjs): the forced cells as the released guide's own fill.sh prints them over the translation 0b87dfa6e0f9cb88… (all of the seat's roots in one cut). By AI agents, Wed Nov 11 2026. No macro, syntax, notation, axiom, sorry.
-/
import Derived.Test.YtidkdidlndfbfaaChecked
import GoSem.Claim
import GoSem.ClaimJoined
import GoSem.ClaimMapViews
import Derived.JoinedTies
import Derived.KernelRfl
namespace Go.Proofs.Ytidkdidlndfbfaa
/- THE CELL 'sum', in the pinned program and in every row, IS THE sha256 OF THE DUMP (.gsa) THAT YtidkdidlndfbfaaProg.lean LOADS. Nothing in Lean hashes anything: it is a label: what it is worth is what the hold of that sum in a sandbox is worth. -/
noncomputable def Try.pinned : Pinned := { name := "ytidkdidlndfbfaa", sum := "0b87dfa6e0f9cb8841621e421582d5655c850f2d96c4e3bc2ace2c4bbed6913a", checked := Try.checked }
namespace Rows
def none {H : Type} : Left H := { results := [], args := [] }

/-- 'drumlinlaw07.HistoryPlays': WHATEVER THE INPUT: true; the input reads as it did. -/
def historyPlaysSpec : ChangeSpec := { name := "historyPlays", fn := fun _ => fun
  | [d1, d2, d3] => { results := [.lit (.bool true)], args := [d1, d2, d3] }
  | _ => none }
def historyPlaysRow : OpenClaim := { program := "ytidkdidlndfbfaa", sum := "0b87dfa6e0f9cb8841621e421582d5655c850f2d96c4e3bc2ace2c4bbed6913a", func := "drumlin/drumlinlaw07.HistoryPlays", spec := "historyPlays", unfollowed := true, recurses := true, apart := false }
def HistoryPlaysSaid : Prop := historyPlaysRow.holds Try.pinned (OpenSpec.ofChange historyPlaysSpec)

/-- ITS FALSE NEIGHBOUR: 'it returns false'. Refute it at one input. -/
def historyPlaysWrong : ChangeSpec := { name := "historyPlays", fn := fun _ => fun
  | [d1, d2, d3] => { results := [.lit (.bool false)], args := [d1, d2, d3] }
  | _ => none }
def HistoryPlaysWrongFalsely : Prop := historyPlaysRow.holds Try.pinned (OpenSpec.ofChange historyPlaysWrong)

/-- 'drumlinlaw07.HistoryNil': WHATEVER THE INPUT: true; the input reads as it did. -/
def historyNilSpec : ChangeSpec := { name := "historyNil", fn := fun _ => fun
  | [d1, d2] => { results := [.lit (.bool true)], args := [d1, d2] }
  | _ => none }
def historyNilRow : OpenClaim := { program := "ytidkdidlndfbfaa", sum := "0b87dfa6e0f9cb8841621e421582d5655c850f2d96c4e3bc2ace2c4bbed6913a", func := "drumlin/drumlinlaw07.HistoryNil", spec := "historyNil", unfollowed := true, recurses := true, apart := false }
def HistoryNilSaid : Prop := historyNilRow.holds Try.pinned (OpenSpec.ofChange historyNilSpec)

/-- ITS FALSE NEIGHBOUR: 'it returns false'. Refute it at one input. -/
def historyNilWrong : ChangeSpec := { name := "historyNil", fn := fun _ => fun
  | [d1, d2] => { results := [.lit (.bool false)], args := [d1, d2] }
  | _ => none }
def HistoryNilWrongFalsely : Prop := historyNilRow.holds Try.pinned (OpenSpec.ofChange historyNilWrong)

/-- 'drumlinlaw07.HistoryPrefix': WHATEVER THE INPUT: true; the input reads as it did. -/
def historyPrefixSpec : ChangeSpec := { name := "historyPrefix", fn := fun _ => fun
  | [d1, d2] => { results := [.lit (.bool true)], args := [d1, d2] }
  | _ => none }
def historyPrefixRow : OpenClaim := { program := "ytidkdidlndfbfaa", sum := "0b87dfa6e0f9cb8841621e421582d5655c850f2d96c4e3bc2ace2c4bbed6913a", func := "drumlin/drumlinlaw07.HistoryPrefix", spec := "historyPrefix", unfollowed := true, recurses := true, apart := false }
def HistoryPrefixSaid : Prop := historyPrefixRow.holds Try.pinned (OpenSpec.ofChange historyPrefixSpec)

/-- ITS FALSE NEIGHBOUR: 'it returns false'. Refute it at one input. -/
def historyPrefixWrong : ChangeSpec := { name := "historyPrefix", fn := fun _ => fun
  | [d1, d2] => { results := [.lit (.bool false)], args := [d1, d2] }
  | _ => none }
def HistoryPrefixWrongFalsely : Prop := historyPrefixRow.holds Try.pinned (OpenSpec.ofChange historyPrefixWrong)

/-- 'drumlinlaw07.HistoryParts': WHATEVER THE INPUT: true; the input reads as it did. -/
def historyPartsSpec : ChangeSpec := { name := "historyParts", fn := fun _ => fun
  | [d1, d2] => { results := [.lit (.bool true)], args := [d1, d2] }
  | _ => none }
def historyPartsRow : OpenClaim := { program := "ytidkdidlndfbfaa", sum := "0b87dfa6e0f9cb8841621e421582d5655c850f2d96c4e3bc2ace2c4bbed6913a", func := "drumlin/drumlinlaw07.HistoryParts", spec := "historyParts", unfollowed := true, recurses := true, apart := false }
def HistoryPartsSaid : Prop := historyPartsRow.holds Try.pinned (OpenSpec.ofChange historyPartsSpec)

/-- ITS FALSE NEIGHBOUR: 'it returns false'. Refute it at one input. -/
def historyPartsWrong : ChangeSpec := { name := "historyParts", fn := fun _ => fun
  | [d1, d2] => { results := [.lit (.bool false)], args := [d1, d2] }
  | _ => none }
def HistoryPartsWrongFalsely : Prop := historyPartsRow.holds Try.pinned (OpenSpec.ofChange historyPartsWrong)

/-- 'drumlinlaw07.HistoryStops': WHATEVER THE INPUT: true; the input reads as it did. -/
def historyStopsSpec : ChangeSpec := { name := "historyStops", fn := fun _ => fun
  | [d1, d2, d3, d4] => { results := [.lit (.bool true)], args := [d1, d2, d3, d4] }
  | _ => none }
def historyStopsRow : OpenClaim := { program := "ytidkdidlndfbfaa", sum := "0b87dfa6e0f9cb8841621e421582d5655c850f2d96c4e3bc2ace2c4bbed6913a", func := "drumlin/drumlinlaw07.HistoryStops", spec := "historyStops", unfollowed := true, recurses := true, apart := false }
def HistoryStopsSaid : Prop := historyStopsRow.holds Try.pinned (OpenSpec.ofChange historyStopsSpec)

/-- ITS FALSE NEIGHBOUR: 'it returns false'. Refute it at one input. -/
def historyStopsWrong : ChangeSpec := { name := "historyStops", fn := fun _ => fun
  | [d1, d2, d3, d4] => { results := [.lit (.bool false)], args := [d1, d2, d3, d4] }
  | _ => none }
def HistoryStopsWrongFalsely : Prop := historyStopsRow.holds Try.pinned (OpenSpec.ofChange historyStopsWrong)

/-- 'drumlinlaw07.HistoryCopies': WHATEVER THE INPUT: true; the input reads as it did. -/
def historyCopiesSpec : ChangeSpec := { name := "historyCopies", fn := fun _ => fun
  | [d1, d2, d3] => { results := [.lit (.bool true)], args := [d1, d2, d3] }
  | _ => none }
def historyCopiesRow : OpenClaim := { program := "ytidkdidlndfbfaa", sum := "0b87dfa6e0f9cb8841621e421582d5655c850f2d96c4e3bc2ace2c4bbed6913a", func := "drumlin/drumlinlaw07.HistoryCopies", spec := "historyCopies", unfollowed := true, recurses := true, apart := false }
def HistoryCopiesSaid : Prop := historyCopiesRow.holds Try.pinned (OpenSpec.ofChange historyCopiesSpec)

/-- ITS FALSE NEIGHBOUR: 'it returns false'. Refute it at one input. -/
def historyCopiesWrong : ChangeSpec := { name := "historyCopies", fn := fun _ => fun
  | [d1, d2, d3] => { results := [.lit (.bool false)], args := [d1, d2, d3] }
  | _ => none }
def HistoryCopiesWrongFalsely : Prop := historyCopiesRow.holds Try.pinned (OpenSpec.ofChange historyCopiesWrong)

/-- 'drumlinlaw07.HistoryTypes': WHATEVER THE INPUT: true; the input reads as it did. -/
def historyTypesSpec : ChangeSpec := { name := "historyTypes", fn := fun _ => fun
  | [d1, d2] => { results := [.lit (.bool true)], args := [d1, d2] }
  | _ => none }
def historyTypesRow : OpenClaim := { program := "ytidkdidlndfbfaa", sum := "0b87dfa6e0f9cb8841621e421582d5655c850f2d96c4e3bc2ace2c4bbed6913a", func := "drumlin/drumlinlaw07.HistoryTypes", spec := "historyTypes", unfollowed := true, recurses := true, apart := false }
def HistoryTypesSaid : Prop := historyTypesRow.holds Try.pinned (OpenSpec.ofChange historyTypesSpec)

/-- ITS FALSE NEIGHBOUR: 'it returns false'. Refute it at one input. -/
def historyTypesWrong : ChangeSpec := { name := "historyTypes", fn := fun _ => fun
  | [d1, d2] => { results := [.lit (.bool false)], args := [d1, d2] }
  | _ => none }
def HistoryTypesWrongFalsely : Prop := historyTypesRow.holds Try.pinned (OpenSpec.ofChange historyTypesWrong)

/- THE SECOND FORM. 'bulk': how many values and letters a reading holds, each counted each time it is reached (what is shared counts as often as it is met; a slice's spare places count too). A statement '..UptoSaid' is the law's where the arguments, and the package variables that the reading takes, are together of bulk at most 1048576: NARROWER than '..Said'. Prove '..Said' where nothing that the law and all that it calls make is longer than what came in: it says more and counts as full. Else prove '..UptoSaid'. A law counts once. -/
mutual
def uptoBulk {H : Type} : DataW H → Nat
  | .lit (.string bytes) => bytes.length + 1
  | .lit _ => 1
  | .nil => 1
  | .ptr d => uptoBulk d + 1
  | .slice elems spare => uptoBulkAll elems + uptoBulkAll spare + 1
  | .agg parts => uptoBulkAll parts + 1
  | .iface _ d => uptoBulk d + 1
  | .map entries => uptoBulkEntries entries + 1
  | .held _ => 1
def uptoBulkAll {H : Type} : List (DataW H) → Nat
  | [] => 0
  | d :: r => uptoBulk d + uptoBulkAll r
def uptoBulkEntries {H : Type} : List (Lit × DataW H) → Nat
  | [] => 0
  | x :: r => uptoBulkEntry x + uptoBulkEntries r
def uptoBulkEntry {H : Type} : Lit × DataW H → Nat
  | (.string bytes, d) => bytes.length + uptoBulk d + 1
  | (_, d) => uptoBulk d + 1
 end
def uptoSmall : (H : Type) → List (DataW H) → Bool := fun _ ds => decide (uptoBulkAll ds ≤ 1048576)
def OpenSpec.upto (s : _root_.Go.ChangeSpec) : _root_.Go.OpenSpec := { _root_.Go.OpenSpec.ofChange s with cond := some uptoSmall }

/-- 'drumlinlaw07.HistoryPlays', WHERE WHAT IT READS IS OF BULK AT MOST 1048576: true; the input reads as it did. -/
def historyPlaysUptoRow : OpenClaim := { program := "ytidkdidlndfbfaa", sum := "0b87dfa6e0f9cb8841621e421582d5655c850f2d96c4e3bc2ace2c4bbed6913a", func := "drumlin/drumlinlaw07.HistoryPlays", spec := "historyPlays", unfollowed := true, recurses := true, apart := false, narrowed := true }
def HistoryPlaysUptoSaid : Prop := historyPlaysUptoRow.holds Try.pinned (OpenSpec.upto historyPlaysSpec)

/-- 'drumlinlaw07.HistoryNil', WHERE WHAT IT READS IS OF BULK AT MOST 1048576: true; the input reads as it did. -/
def historyNilUptoRow : OpenClaim := { program := "ytidkdidlndfbfaa", sum := "0b87dfa6e0f9cb8841621e421582d5655c850f2d96c4e3bc2ace2c4bbed6913a", func := "drumlin/drumlinlaw07.HistoryNil", spec := "historyNil", unfollowed := true, recurses := true, apart := false, narrowed := true }
def HistoryNilUptoSaid : Prop := historyNilUptoRow.holds Try.pinned (OpenSpec.upto historyNilSpec)

/-- 'drumlinlaw07.HistoryPrefix', WHERE WHAT IT READS IS OF BULK AT MOST 1048576: true; the input reads as it did. -/
def historyPrefixUptoRow : OpenClaim := { program := "ytidkdidlndfbfaa", sum := "0b87dfa6e0f9cb8841621e421582d5655c850f2d96c4e3bc2ace2c4bbed6913a", func := "drumlin/drumlinlaw07.HistoryPrefix", spec := "historyPrefix", unfollowed := true, recurses := true, apart := false, narrowed := true }
def HistoryPrefixUptoSaid : Prop := historyPrefixUptoRow.holds Try.pinned (OpenSpec.upto historyPrefixSpec)

/-- 'drumlinlaw07.HistoryParts', WHERE WHAT IT READS IS OF BULK AT MOST 1048576: true; the input reads as it did. -/
def historyPartsUptoRow : OpenClaim := { program := "ytidkdidlndfbfaa", sum := "0b87dfa6e0f9cb8841621e421582d5655c850f2d96c4e3bc2ace2c4bbed6913a", func := "drumlin/drumlinlaw07.HistoryParts", spec := "historyParts", unfollowed := true, recurses := true, apart := false, narrowed := true }
def HistoryPartsUptoSaid : Prop := historyPartsUptoRow.holds Try.pinned (OpenSpec.upto historyPartsSpec)

/-- 'drumlinlaw07.HistoryStops', WHERE WHAT IT READS IS OF BULK AT MOST 1048576: true; the input reads as it did. -/
def historyStopsUptoRow : OpenClaim := { program := "ytidkdidlndfbfaa", sum := "0b87dfa6e0f9cb8841621e421582d5655c850f2d96c4e3bc2ace2c4bbed6913a", func := "drumlin/drumlinlaw07.HistoryStops", spec := "historyStops", unfollowed := true, recurses := true, apart := false, narrowed := true }
def HistoryStopsUptoSaid : Prop := historyStopsUptoRow.holds Try.pinned (OpenSpec.upto historyStopsSpec)

/-- 'drumlinlaw07.HistoryCopies', WHERE WHAT IT READS IS OF BULK AT MOST 1048576: true; the input reads as it did. -/
def historyCopiesUptoRow : OpenClaim := { program := "ytidkdidlndfbfaa", sum := "0b87dfa6e0f9cb8841621e421582d5655c850f2d96c4e3bc2ace2c4bbed6913a", func := "drumlin/drumlinlaw07.HistoryCopies", spec := "historyCopies", unfollowed := true, recurses := true, apart := false, narrowed := true }
def HistoryCopiesUptoSaid : Prop := historyCopiesUptoRow.holds Try.pinned (OpenSpec.upto historyCopiesSpec)

/-- 'drumlinlaw07.HistoryTypes', WHERE WHAT IT READS IS OF BULK AT MOST 1048576: true; the input reads as it did. -/
def historyTypesUptoRow : OpenClaim := { program := "ytidkdidlndfbfaa", sum := "0b87dfa6e0f9cb8841621e421582d5655c850f2d96c4e3bc2ace2c4bbed6913a", func := "drumlin/drumlinlaw07.HistoryTypes", spec := "historyTypes", unfollowed := true, recurses := true, apart := false, narrowed := true }
def HistoryTypesUptoSaid : Prop := historyTypesUptoRow.holds Try.pinned (OpenSpec.upto historyTypesSpec)

end Rows
end Go.Proofs.Ytidkdidlndfbfaa
