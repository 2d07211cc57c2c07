/-
  DERIVED. GIVEN WITH THE SEED: THE CARDS: each row of YtipammomoeklnaaDoorRows.lean that lists a variable, with what it lists TIED to the program's text (the seventh form; the later family's looks); each row that meets fmt, with fmt's text TOLD by the authors' own Lean function (tested against real Go, not proved from fmt's source: count such statements apart). THE CARD IS WHAT COUNTS. Prove the row's statement (the work); the ties are given (YtipammomoeklnaaDoorTie.lean); close each card by the builder's one call (the guide's Derived/Test/ToyasCard.lean, 'card_holds'). Laid BY PROGRAM, IN A SANDBOX (cutbox-door.mjs). By AI agents, Wed Nov 11 2026. No macro, syntax, notation, axiom, sorry.
-/
import Derived.Test.YtipammomoeklnaaDoorRows
import GoSem.ClaimSeven
namespace Go.Proofs.YtipammomoeklnaaDoor
namespace Rows

/-- THE TIED CARD OF 'drumlinlaw05.KeyChecks'. -/
def keyChecksCard : Claim7 := { stood := { row := keyChecksRow, standIns := [], harness := (true, "e7c864a9ed82dba5c30f767352d78982afb9714020aae9926f8c468cdd7fd2c3"), looks := false }, kinds := [], alts := [], laidByText := true, laidKinds := [.data, .data, .data], laidTests := true, laidLooks := .later }
def KeyChecksCardSaid : Prop := Claim7.holds Tryd.pinned (.plain (OpenSpec.ofChange keyChecksSpec)) keyChecksCard

/-- THE TIED CARD OF 'drumlinlaw05.KeyOrders'. -/
def keyOrdersCard : Claim7 := { stood := { row := keyOrdersRow, standIns := [], harness := (true, "e7c864a9ed82dba5c30f767352d78982afb9714020aae9926f8c468cdd7fd2c3"), looks := false }, kinds := [], alts := [], laidByText := true, laidKinds := [.data, .data, .data], laidTests := true, laidLooks := .later }
def KeyOrdersCardSaid : Prop := Claim7.holds Tryd.pinned (.plain (OpenSpec.ofChange keyOrdersSpec)) keyOrdersCard

/-- THE TIED CARD OF 'drumlinlaw05.KeyNexts'. -/
def keyNextsCard : Claim7 := { stood := { row := keyNextsRow, standIns := [], harness := (true, "e7c864a9ed82dba5c30f767352d78982afb9714020aae9926f8c468cdd7fd2c3"), looks := false }, kinds := [], alts := [], laidByText := true, laidKinds := [.data, .data, .data], laidTests := true, laidLooks := .later }
def KeyNextsCardSaid : Prop := Claim7.holds Tryd.pinned (.plain (OpenSpec.ofChange keyNextsSpec)) keyNextsCard

/-- THE TIED CARD OF 'drumlinlaw05.KeySuccessor'. -/
def keySuccessorCard : Claim7 := { stood := { row := keySuccessorRow, standIns := [], harness := (true, "e7c864a9ed82dba5c30f767352d78982afb9714020aae9926f8c468cdd7fd2c3"), looks := false }, kinds := [], alts := [], laidByText := true, laidKinds := [.data, .data, .data], laidTests := true, laidLooks := .later }
def KeySuccessorCardSaid : Prop := Claim7.holds Tryd.pinned (.plain (OpenSpec.ofChange keySuccessorSpec)) keySuccessorCard

/-- THE TIED CARD OF 'drumlinlaw05.KeyTotal'. -/
def keyTotalCard : Claim7 := { stood := { row := keyTotalRow, standIns := [], harness := (true, "e7c864a9ed82dba5c30f767352d78982afb9714020aae9926f8c468cdd7fd2c3"), looks := false }, kinds := [], alts := [], laidByText := true, laidKinds := [.data, .data, .data], laidTests := true, laidLooks := .later }
def KeyTotalCardSaid : Prop := Claim7.holds Tryd.pinned (.plain (OpenSpec.ofChange keyTotalSpec)) keyTotalCard

/-- THE TIED CARD OF 'drumlinlaw05.KeyBytes'. -/
def keyBytesCard : Claim7 := { stood := { row := keyBytesRow, standIns := [], harness := (true, "e7c864a9ed82dba5c30f767352d78982afb9714020aae9926f8c468cdd7fd2c3"), looks := false }, kinds := [], alts := [], laidByText := true, laidKinds := [.data, .data, .data], laidTests := true, laidLooks := .later }
def KeyBytesCardSaid : Prop := Claim7.holds Tryd.pinned (.plain (OpenSpec.ofChange keyBytesSpec)) keyBytesCard

/-- THE TIED CARD OF 'drumlinlaw05.KeyNames'. -/
def keyNamesCard : Claim7 := { stood := { row := keyNamesRow, standIns := [], harness := (true, "e7c864a9ed82dba5c30f767352d78982afb9714020aae9926f8c468cdd7fd2c3"), looks := false }, kinds := [], alts := [], laidByText := true, laidKinds := [.data, .data, .data], laidTests := true, laidLooks := .later }
def KeyNamesCardSaid : Prop := Claim7.holds Tryd.pinned (.plain (OpenSpec.ofChange keyNamesSpec)) keyNamesCard

/-- THE TIED CARD OF 'drumlinlaw05.KeyRefuses'. -/
def keyRefusesCard : Claim7 := { stood := { row := keyRefusesRow, standIns := [], harness := (true, "e7c864a9ed82dba5c30f767352d78982afb9714020aae9926f8c468cdd7fd2c3"), looks := false }, kinds := [], alts := [], laidByText := true, laidKinds := [.data, .data, .data], laidTests := true, laidLooks := .later }
def KeyRefusesCardSaid : Prop := Claim7.holds Tryd.pinned (.plain (OpenSpec.ofChange keyRefusesSpec)) keyRefusesCard

/-- THE SECOND FORM's CARD OF 'drumlinlaw05.KeyChecks'. -/
def keyChecksUptoCard : Claim7 := { stood := { row := keyChecksUptoRow, standIns := [], harness := (true, "e7c864a9ed82dba5c30f767352d78982afb9714020aae9926f8c468cdd7fd2c3"), looks := false }, kinds := [], alts := [], laidByText := true, laidKinds := [.data, .data, .data], laidTests := true, laidLooks := .later }
def KeyChecksUptoCardSaid : Prop := Claim7.holds Tryd.pinned (.plain (OpenSpec.upto keyChecksSpec)) keyChecksUptoCard

/-- THE SECOND FORM's CARD OF 'drumlinlaw05.KeyOrders'. -/
def keyOrdersUptoCard : Claim7 := { stood := { row := keyOrdersUptoRow, standIns := [], harness := (true, "e7c864a9ed82dba5c30f767352d78982afb9714020aae9926f8c468cdd7fd2c3"), looks := false }, kinds := [], alts := [], laidByText := true, laidKinds := [.data, .data, .data], laidTests := true, laidLooks := .later }
def KeyOrdersUptoCardSaid : Prop := Claim7.holds Tryd.pinned (.plain (OpenSpec.upto keyOrdersSpec)) keyOrdersUptoCard

/-- THE SECOND FORM's CARD OF 'drumlinlaw05.KeyNexts'. -/
def keyNextsUptoCard : Claim7 := { stood := { row := keyNextsUptoRow, standIns := [], harness := (true, "e7c864a9ed82dba5c30f767352d78982afb9714020aae9926f8c468cdd7fd2c3"), looks := false }, kinds := [], alts := [], laidByText := true, laidKinds := [.data, .data, .data], laidTests := true, laidLooks := .later }
def KeyNextsUptoCardSaid : Prop := Claim7.holds Tryd.pinned (.plain (OpenSpec.upto keyNextsSpec)) keyNextsUptoCard

/-- THE SECOND FORM's CARD OF 'drumlinlaw05.KeySuccessor'. -/
def keySuccessorUptoCard : Claim7 := { stood := { row := keySuccessorUptoRow, standIns := [], harness := (true, "e7c864a9ed82dba5c30f767352d78982afb9714020aae9926f8c468cdd7fd2c3"), looks := false }, kinds := [], alts := [], laidByText := true, laidKinds := [.data, .data, .data], laidTests := true, laidLooks := .later }
def KeySuccessorUptoCardSaid : Prop := Claim7.holds Tryd.pinned (.plain (OpenSpec.upto keySuccessorSpec)) keySuccessorUptoCard

/-- THE SECOND FORM's CARD OF 'drumlinlaw05.KeyTotal'. -/
def keyTotalUptoCard : Claim7 := { stood := { row := keyTotalUptoRow, standIns := [], harness := (true, "e7c864a9ed82dba5c30f767352d78982afb9714020aae9926f8c468cdd7fd2c3"), looks := false }, kinds := [], alts := [], laidByText := true, laidKinds := [.data, .data, .data], laidTests := true, laidLooks := .later }
def KeyTotalUptoCardSaid : Prop := Claim7.holds Tryd.pinned (.plain (OpenSpec.upto keyTotalSpec)) keyTotalUptoCard

/-- THE SECOND FORM's CARD OF 'drumlinlaw05.KeyBytes'. -/
def keyBytesUptoCard : Claim7 := { stood := { row := keyBytesUptoRow, standIns := [], harness := (true, "e7c864a9ed82dba5c30f767352d78982afb9714020aae9926f8c468cdd7fd2c3"), looks := false }, kinds := [], alts := [], laidByText := true, laidKinds := [.data, .data, .data], laidTests := true, laidLooks := .later }
def KeyBytesUptoCardSaid : Prop := Claim7.holds Tryd.pinned (.plain (OpenSpec.upto keyBytesSpec)) keyBytesUptoCard

/-- THE SECOND FORM's CARD OF 'drumlinlaw05.KeyNames'. -/
def keyNamesUptoCard : Claim7 := { stood := { row := keyNamesUptoRow, standIns := [], harness := (true, "e7c864a9ed82dba5c30f767352d78982afb9714020aae9926f8c468cdd7fd2c3"), looks := false }, kinds := [], alts := [], laidByText := true, laidKinds := [.data, .data, .data], laidTests := true, laidLooks := .later }
def KeyNamesUptoCardSaid : Prop := Claim7.holds Tryd.pinned (.plain (OpenSpec.upto keyNamesSpec)) keyNamesUptoCard

/-- THE SECOND FORM's CARD OF 'drumlinlaw05.KeyRefuses'. -/
def keyRefusesUptoCard : Claim7 := { stood := { row := keyRefusesUptoRow, standIns := [], harness := (true, "e7c864a9ed82dba5c30f767352d78982afb9714020aae9926f8c468cdd7fd2c3"), looks := false }, kinds := [], alts := [], laidByText := true, laidKinds := [.data, .data, .data], laidTests := true, laidLooks := .later }
def KeyRefusesUptoCardSaid : Prop := Claim7.holds Tryd.pinned (.plain (OpenSpec.upto keyRefusesSpec)) keyRefusesUptoCard
end Rows
end Go.Proofs.YtipammomoeklnaaDoor
