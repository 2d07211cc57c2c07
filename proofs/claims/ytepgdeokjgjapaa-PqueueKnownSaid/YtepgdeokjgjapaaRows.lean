/-
  No cell of these rows narrows 'for every input' (looked for: loops, veiled, ifaces, maps, wideKeys, modest, calm, conditions, laid).
  DERIVED. THE GIVEN ROWS OF THIS SEAT. 8 by the template 'for every input the law returns true; each argument reads behind the call as it read before'; 0 by the template 'total and deterministic' (their statements: YtepgdeokjgjapaaTotals.lean).
  GIVEN WITH THE SEED: the statements are not yours to turn. If you find one false, say at which input.
  Laid BY PROGRAM, IN A SANDBOX (cutbox-rows.mjs): the forced cells as the released guide's own fill.sh prints them over the translation a408da23c6451e47… (all of the seat's roots in one cut). By AI agents, Wed Nov 11 2026. No macro, syntax, notation, axiom, sorry.
-/
import Derived.Test.YtepgdeokjgjapaaChecked
import GoSem.Claim
import GoSem.ClaimJoined
import GoSem.ClaimMapViews
import Derived.JoinedTies
import Derived.KernelRfl
namespace Go.Proofs.Ytepgdeokjgjapaa
/- THE CELL 'sum', in the pinned program and in every row, IS THE sha256 OF THE DUMP (.gsa) THAT YtepgdeokjgjapaaProg.lean LOADS. Nothing in Lean hashes anything: it is a label: what it is worth is what the hold of that sum in a sandbox is worth. -/
noncomputable def Try.pinned : Pinned := { name := "ytepgdeokjgjapaa", sum := "a408da23c6451e47d4afb9dd52e8b79595dedd8845b27fb1d28671be8cd35e04", checked := Try.checked }
namespace Rows
def none {H : Type} : Left H := { results := [], args := [] }

/-- 'drumlinlaw04.PqueuePlays': WHATEVER THE INPUT: true; the input reads as it did. -/
def pqueuePlaysSpec : ChangeSpec := { name := "pqueuePlays", fn := fun _ => fun
  | [d1, d2, d3] => { results := [.lit (.bool true)], args := [d1, d2, d3] }
  | _ => none }
def pqueuePlaysRow : OpenClaim := { program := "ytepgdeokjgjapaa", sum := "a408da23c6451e47d4afb9dd52e8b79595dedd8845b27fb1d28671be8cd35e04", func := "drumlin/drumlinlaw04.PqueuePlays", spec := "pqueuePlays", unfollowed := true, recurses := true, apart := false }
def PqueuePlaysSaid : Prop := pqueuePlaysRow.holds Try.pinned (OpenSpec.ofChange pqueuePlaysSpec)

/-- ITS FALSE NEIGHBOUR: 'it returns false'. Refute it at one input. -/
def pqueuePlaysWrong : ChangeSpec := { name := "pqueuePlays", fn := fun _ => fun
  | [d1, d2, d3] => { results := [.lit (.bool false)], args := [d1, d2, d3] }
  | _ => none }
def PqueuePlaysWrongFalsely : Prop := pqueuePlaysRow.holds Try.pinned (OpenSpec.ofChange pqueuePlaysWrong)

/-- 'drumlinlaw04.PqueueNil': WHATEVER THE INPUT: true; the input reads as it did. -/
def pqueueNilSpec : ChangeSpec := { name := "pqueueNil", fn := fun _ => fun
  | [d1, d2] => { results := [.lit (.bool true)], args := [d1, d2] }
  | _ => none }
def pqueueNilRow : OpenClaim := { program := "ytepgdeokjgjapaa", sum := "a408da23c6451e47d4afb9dd52e8b79595dedd8845b27fb1d28671be8cd35e04", func := "drumlin/drumlinlaw04.PqueueNil", spec := "pqueueNil", unfollowed := true, recurses := true, apart := false }
def PqueueNilSaid : Prop := pqueueNilRow.holds Try.pinned (OpenSpec.ofChange pqueueNilSpec)

/-- ITS FALSE NEIGHBOUR: 'it returns false'. Refute it at one input. -/
def pqueueNilWrong : ChangeSpec := { name := "pqueueNil", fn := fun _ => fun
  | [d1, d2] => { results := [.lit (.bool false)], args := [d1, d2] }
  | _ => none }
def PqueueNilWrongFalsely : Prop := pqueueNilRow.holds Try.pinned (OpenSpec.ofChange pqueueNilWrong)

/-- 'drumlinlaw04.PqueueOrder': WHATEVER THE INPUT: true; the input reads as it did. -/
def pqueueOrderSpec : ChangeSpec := { name := "pqueueOrder", fn := fun _ => fun
  | [d1, d2] => { results := [.lit (.bool true)], args := [d1, d2] }
  | _ => none }
def pqueueOrderRow : OpenClaim := { program := "ytepgdeokjgjapaa", sum := "a408da23c6451e47d4afb9dd52e8b79595dedd8845b27fb1d28671be8cd35e04", func := "drumlin/drumlinlaw04.PqueueOrder", spec := "pqueueOrder", unfollowed := true, recurses := true, apart := false }
def PqueueOrderSaid : Prop := pqueueOrderRow.holds Try.pinned (OpenSpec.ofChange pqueueOrderSpec)

/-- ITS FALSE NEIGHBOUR: 'it returns false'. Refute it at one input. -/
def pqueueOrderWrong : ChangeSpec := { name := "pqueueOrder", fn := fun _ => fun
  | [d1, d2] => { results := [.lit (.bool false)], args := [d1, d2] }
  | _ => none }
def PqueueOrderWrongFalsely : Prop := pqueueOrderRow.holds Try.pinned (OpenSpec.ofChange pqueueOrderWrong)

/-- 'drumlinlaw04.PqueueSame': WHATEVER THE INPUT: true; the input reads as it did. -/
def pqueueSameSpec : ChangeSpec := { name := "pqueueSame", fn := fun _ => fun
  | [d1, d2, d3] => { results := [.lit (.bool true)], args := [d1, d2, d3] }
  | _ => none }
def pqueueSameRow : OpenClaim := { program := "ytepgdeokjgjapaa", sum := "a408da23c6451e47d4afb9dd52e8b79595dedd8845b27fb1d28671be8cd35e04", func := "drumlin/drumlinlaw04.PqueueSame", spec := "pqueueSame", apart := false }
def PqueueSameSaid : Prop := pqueueSameRow.holds Try.pinned (OpenSpec.ofChange pqueueSameSpec)

/-- ITS FALSE NEIGHBOUR: 'it returns false'. Refute it at one input. -/
def pqueueSameWrong : ChangeSpec := { name := "pqueueSame", fn := fun _ => fun
  | [d1, d2, d3] => { results := [.lit (.bool false)], args := [d1, d2, d3] }
  | _ => none }
def PqueueSameWrongFalsely : Prop := pqueueSameRow.holds Try.pinned (OpenSpec.ofChange pqueueSameWrong)

/-- 'drumlinlaw04.PqueueApart': WHATEVER THE INPUT: true; the input reads as it did. -/
def pqueueApartSpec : ChangeSpec := { name := "pqueueApart", fn := fun _ => fun
  | [d1, d2, d3, d4] => { results := [.lit (.bool true)], args := [d1, d2, d3, d4] }
  | _ => none }
def pqueueApartRow : OpenClaim := { program := "ytepgdeokjgjapaa", sum := "a408da23c6451e47d4afb9dd52e8b79595dedd8845b27fb1d28671be8cd35e04", func := "drumlin/drumlinlaw04.PqueueApart", spec := "pqueueApart", apart := false }
def PqueueApartSaid : Prop := pqueueApartRow.holds Try.pinned (OpenSpec.ofChange pqueueApartSpec)

/-- ITS FALSE NEIGHBOUR: 'it returns false'. Refute it at one input. -/
def pqueueApartWrong : ChangeSpec := { name := "pqueueApart", fn := fun _ => fun
  | [d1, d2, d3, d4] => { results := [.lit (.bool false)], args := [d1, d2, d3, d4] }
  | _ => none }
def PqueueApartWrongFalsely : Prop := pqueueApartRow.holds Try.pinned (OpenSpec.ofChange pqueueApartWrong)

/-- 'drumlinlaw04.PqueueLoops': WHATEVER THE INPUT: true; the input reads as it did. -/
def pqueueLoopsSpec : ChangeSpec := { name := "pqueueLoops", fn := fun _ => fun
  | [d1, d2, d3] => { results := [.lit (.bool true)], args := [d1, d2, d3] }
  | _ => none }
def pqueueLoopsRow : OpenClaim := { program := "ytepgdeokjgjapaa", sum := "a408da23c6451e47d4afb9dd52e8b79595dedd8845b27fb1d28671be8cd35e04", func := "drumlin/drumlinlaw04.PqueueLoops", spec := "pqueueLoops", unfollowed := true, recurses := true, apart := false }
def PqueueLoopsSaid : Prop := pqueueLoopsRow.holds Try.pinned (OpenSpec.ofChange pqueueLoopsSpec)

/-- ITS FALSE NEIGHBOUR: 'it returns false'. Refute it at one input. -/
def pqueueLoopsWrong : ChangeSpec := { name := "pqueueLoops", fn := fun _ => fun
  | [d1, d2, d3] => { results := [.lit (.bool false)], args := [d1, d2, d3] }
  | _ => none }
def PqueueLoopsWrongFalsely : Prop := pqueueLoopsRow.holds Try.pinned (OpenSpec.ofChange pqueueLoopsWrong)

/-- 'drumlinlaw04.PqueueCopies': WHATEVER THE INPUT: true; the input reads as it did. -/
def pqueueCopiesSpec : ChangeSpec := { name := "pqueueCopies", fn := fun _ => fun
  | [d1, d2, d3] => { results := [.lit (.bool true)], args := [d1, d2, d3] }
  | _ => none }
def pqueueCopiesRow : OpenClaim := { program := "ytepgdeokjgjapaa", sum := "a408da23c6451e47d4afb9dd52e8b79595dedd8845b27fb1d28671be8cd35e04", func := "drumlin/drumlinlaw04.PqueueCopies", spec := "pqueueCopies", apart := false }
def PqueueCopiesSaid : Prop := pqueueCopiesRow.holds Try.pinned (OpenSpec.ofChange pqueueCopiesSpec)

/-- ITS FALSE NEIGHBOUR: 'it returns false'. Refute it at one input. -/
def pqueueCopiesWrong : ChangeSpec := { name := "pqueueCopies", fn := fun _ => fun
  | [d1, d2, d3] => { results := [.lit (.bool false)], args := [d1, d2, d3] }
  | _ => none }
def PqueueCopiesWrongFalsely : Prop := pqueueCopiesRow.holds Try.pinned (OpenSpec.ofChange pqueueCopiesWrong)

/-- 'drumlinlaw04.PqueueKnown': WHATEVER THE INPUT: true; the input reads as it did. -/
def pqueueKnownSpec : ChangeSpec := { name := "pqueueKnown", fn := fun _ => fun
  | [] => { results := [.lit (.bool true)], args := [] }
  | _ => none }
def pqueueKnownRow : OpenClaim := { program := "ytepgdeokjgjapaa", sum := "a408da23c6451e47d4afb9dd52e8b79595dedd8845b27fb1d28671be8cd35e04", func := "drumlin/drumlinlaw04.PqueueKnown", spec := "pqueueKnown", apart := false }
def PqueueKnownSaid : Prop := pqueueKnownRow.holds Try.pinned (OpenSpec.ofChange pqueueKnownSpec)

/-- ITS FALSE NEIGHBOUR: 'it returns false'. Refute it at one input. -/
def pqueueKnownWrong : ChangeSpec := { name := "pqueueKnown", fn := fun _ => fun
  | [] => { results := [.lit (.bool false)], args := [] }
  | _ => none }
def PqueueKnownWrongFalsely : Prop := pqueueKnownRow.holds Try.pinned (OpenSpec.ofChange pqueueKnownWrong)

/- THE SECOND FORM. 'bulk': how many values and letters a reading holds, each counted each time it is reached (what is shared counts as often as it is met; a slice's spare places count too). A statement '..UptoSaid' is the law's where the arguments, and the package variables that the reading takes, are together of bulk at most 1048576: NARROWER than '..Said'. Prove '..Said' where nothing that the law and all that it calls make is longer than what came in: it says more and counts as full. Else prove '..UptoSaid'. A law counts once. -/
mutual
def uptoBulk {H : Type} : DataW H → Nat
  | .lit (.string bytes) => bytes.length + 1
  | .lit _ => 1
  | .nil => 1
  | .ptr d => uptoBulk d + 1
  | .slice elems spare => uptoBulkAll elems + uptoBulkAll spare + 1
  | .agg parts => uptoBulkAll parts + 1
  | .iface _ d => uptoBulk d + 1
  | .map entries => uptoBulkEntries entries + 1
  | .held _ => 1
def uptoBulkAll {H : Type} : List (DataW H) → Nat
  | [] => 0
  | d :: r => uptoBulk d + uptoBulkAll r
def uptoBulkEntries {H : Type} : List (Lit × DataW H) → Nat
  | [] => 0
  | x :: r => uptoBulkEntry x + uptoBulkEntries r
def uptoBulkEntry {H : Type} : Lit × DataW H → Nat
  | (.string bytes, d) => bytes.length + uptoBulk d + 1
  | (_, d) => uptoBulk d + 1
 end
def uptoSmall : (H : Type) → List (DataW H) → Bool := fun _ ds => decide (uptoBulkAll ds ≤ 1048576)
def OpenSpec.upto (s : _root_.Go.ChangeSpec) : _root_.Go.OpenSpec := { _root_.Go.OpenSpec.ofChange s with cond := some uptoSmall }

/-- 'drumlinlaw04.PqueuePlays', WHERE WHAT IT READS IS OF BULK AT MOST 1048576: true; the input reads as it did. -/
def pqueuePlaysUptoRow : OpenClaim := { program := "ytepgdeokjgjapaa", sum := "a408da23c6451e47d4afb9dd52e8b79595dedd8845b27fb1d28671be8cd35e04", func := "drumlin/drumlinlaw04.PqueuePlays", spec := "pqueuePlays", unfollowed := true, recurses := true, apart := false, narrowed := true }
def PqueuePlaysUptoSaid : Prop := pqueuePlaysUptoRow.holds Try.pinned (OpenSpec.upto pqueuePlaysSpec)

/-- 'drumlinlaw04.PqueueNil', WHERE WHAT IT READS IS OF BULK AT MOST 1048576: true; the input reads as it did. -/
def pqueueNilUptoRow : OpenClaim := { program := "ytepgdeokjgjapaa", sum := "a408da23c6451e47d4afb9dd52e8b79595dedd8845b27fb1d28671be8cd35e04", func := "drumlin/drumlinlaw04.PqueueNil", spec := "pqueueNil", unfollowed := true, recurses := true, apart := false, narrowed := true }
def PqueueNilUptoSaid : Prop := pqueueNilUptoRow.holds Try.pinned (OpenSpec.upto pqueueNilSpec)

/-- 'drumlinlaw04.PqueueOrder', WHERE WHAT IT READS IS OF BULK AT MOST 1048576: true; the input reads as it did. -/
def pqueueOrderUptoRow : OpenClaim := { program := "ytepgdeokjgjapaa", sum := "a408da23c6451e47d4afb9dd52e8b79595dedd8845b27fb1d28671be8cd35e04", func := "drumlin/drumlinlaw04.PqueueOrder", spec := "pqueueOrder", unfollowed := true, recurses := true, apart := false, narrowed := true }
def PqueueOrderUptoSaid : Prop := pqueueOrderUptoRow.holds Try.pinned (OpenSpec.upto pqueueOrderSpec)

/-- 'drumlinlaw04.PqueueSame', WHERE WHAT IT READS IS OF BULK AT MOST 1048576: true; the input reads as it did. -/
def pqueueSameUptoRow : OpenClaim := { program := "ytepgdeokjgjapaa", sum := "a408da23c6451e47d4afb9dd52e8b79595dedd8845b27fb1d28671be8cd35e04", func := "drumlin/drumlinlaw04.PqueueSame", spec := "pqueueSame", apart := false, narrowed := true }
def PqueueSameUptoSaid : Prop := pqueueSameUptoRow.holds Try.pinned (OpenSpec.upto pqueueSameSpec)

/-- 'drumlinlaw04.PqueueApart', WHERE WHAT IT READS IS OF BULK AT MOST 1048576: true; the input reads as it did. -/
def pqueueApartUptoRow : OpenClaim := { program := "ytepgdeokjgjapaa", sum := "a408da23c6451e47d4afb9dd52e8b79595dedd8845b27fb1d28671be8cd35e04", func := "drumlin/drumlinlaw04.PqueueApart", spec := "pqueueApart", apart := false, narrowed := true }
def PqueueApartUptoSaid : Prop := pqueueApartUptoRow.holds Try.pinned (OpenSpec.upto pqueueApartSpec)

/-- 'drumlinlaw04.PqueueLoops', WHERE WHAT IT READS IS OF BULK AT MOST 1048576: true; the input reads as it did. -/
def pqueueLoopsUptoRow : OpenClaim := { program := "ytepgdeokjgjapaa", sum := "a408da23c6451e47d4afb9dd52e8b79595dedd8845b27fb1d28671be8cd35e04", func := "drumlin/drumlinlaw04.PqueueLoops", spec := "pqueueLoops", unfollowed := true, recurses := true, apart := false, narrowed := true }
def PqueueLoopsUptoSaid : Prop := pqueueLoopsUptoRow.holds Try.pinned (OpenSpec.upto pqueueLoopsSpec)

/-- 'drumlinlaw04.PqueueCopies', WHERE WHAT IT READS IS OF BULK AT MOST 1048576: true; the input reads as it did. -/
def pqueueCopiesUptoRow : OpenClaim := { program := "ytepgdeokjgjapaa", sum := "a408da23c6451e47d4afb9dd52e8b79595dedd8845b27fb1d28671be8cd35e04", func := "drumlin/drumlinlaw04.PqueueCopies", spec := "pqueueCopies", apart := false, narrowed := true }
def PqueueCopiesUptoSaid : Prop := pqueueCopiesUptoRow.holds Try.pinned (OpenSpec.upto pqueueCopiesSpec)

/-- 'drumlinlaw04.PqueueKnown', WHERE WHAT IT READS IS OF BULK AT MOST 1048576: true; the input reads as it did. -/
def pqueueKnownUptoRow : OpenClaim := { program := "ytepgdeokjgjapaa", sum := "a408da23c6451e47d4afb9dd52e8b79595dedd8845b27fb1d28671be8cd35e04", func := "drumlin/drumlinlaw04.PqueueKnown", spec := "pqueueKnown", apart := false, narrowed := true }
def PqueueKnownUptoSaid : Prop := pqueueKnownUptoRow.holds Try.pinned (OpenSpec.upto pqueueKnownSpec)

end Rows
end Go.Proofs.Ytepgdeokjgjapaa
