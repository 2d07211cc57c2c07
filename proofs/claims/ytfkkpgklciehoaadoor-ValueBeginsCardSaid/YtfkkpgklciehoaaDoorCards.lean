/-
  DERIVED. GIVEN WITH THE SEED: THE CARDS: each row of YtfkkpgklciehoaaDoorRows.lean that lists a variable, with what it lists TIED to the program's text (the seventh form; the later family's looks); each row that meets fmt, with fmt's text TOLD by the authors' own Lean function (tested against real Go, not proved from fmt's source: count such statements apart). THE CARD IS WHAT COUNTS. Prove the row's statement (the work); the ties are given (YtfkkpgklciehoaaDoorTie.lean); close each card by the builder's one call (the guide's Derived/Test/ToyasCard.lean, 'card_holds'). Laid BY PROGRAM, IN A SANDBOX (cutbox-door.mjs). By AI agents, Wed Nov 11 2026. No macro, syntax, notation, axiom, sorry.
-/
import Derived.Test.YtfkkpgklciehoaaDoorRows
import GoSem.ClaimSeven
namespace Go.Proofs.YtfkkpgklciehoaaDoor
namespace Rows

/-- THE TIED CARD OF 'drumlinlaw06.ValueChecks'. -/
def valueChecksCard : Claim7 := { stood := { row := valueChecksRow, standIns := [], harness := (true, "59cddd5b15dbf660a227a6f78a943ff4346a3e9329be42e3944a4d6f73bd427b"), looks := false }, kinds := [], alts := [], laidByText := true, laidKinds := [.data, .data, .data], laidTests := true, laidLooks := .later }
def ValueChecksCardSaid : Prop := Claim7.holds Tryd.pinned (.plain (OpenSpec.ofChange valueChecksSpec)) valueChecksCard

/-- THE TIED CARD OF 'drumlinlaw06.ValueTexts'. -/
def valueTextsCard : Claim7 := { stood := { row := valueTextsRow, standIns := [], harness := (true, "59cddd5b15dbf660a227a6f78a943ff4346a3e9329be42e3944a4d6f73bd427b"), looks := false }, kinds := [], alts := [], laidByText := true, laidKinds := [.data, .data, .data], laidTests := true, laidLooks := .later }
def ValueTextsCardSaid : Prop := Claim7.holds Tryd.pinned (.plain (OpenSpec.ofChange valueTextsSpec)) valueTextsCard

/-- THE TIED CARD OF 'drumlinlaw06.ValueRepeats'. -/
def valueRepeatsCard : Claim7 := { stood := { row := valueRepeatsRow, standIns := [], harness := (true, "59cddd5b15dbf660a227a6f78a943ff4346a3e9329be42e3944a4d6f73bd427b"), looks := false }, kinds := [], alts := [], laidByText := true, laidKinds := [.data, .data, .data], laidTests := true, laidLooks := .later }
def ValueRepeatsCardSaid : Prop := Claim7.holds Tryd.pinned (.plain (OpenSpec.ofChange valueRepeatsSpec)) valueRepeatsCard

/-- THE TIED CARD OF 'drumlinlaw06.ValueShorts'. -/
def valueShortsCard : Claim7 := { stood := { row := valueShortsRow, standIns := [], harness := (true, "59cddd5b15dbf660a227a6f78a943ff4346a3e9329be42e3944a4d6f73bd427b"), looks := false }, kinds := [], alts := [], laidByText := true, laidKinds := [.data, .data, .data], laidTests := true, laidLooks := .later }
def ValueShortsCardSaid : Prop := Claim7.holds Tryd.pinned (.plain (OpenSpec.ofChange valueShortsSpec)) valueShortsCard

/-- THE TIED CARD OF 'drumlinlaw06.ValueBack'. -/
def valueBackCard : Claim7 := { stood := { row := valueBackRow, standIns := [], harness := (true, "59cddd5b15dbf660a227a6f78a943ff4346a3e9329be42e3944a4d6f73bd427b"), looks := false }, kinds := [], alts := [], laidByText := true, laidKinds := [.data, .data, .data], laidTests := true, laidLooks := .later }
def ValueBackCardSaid : Prop := Claim7.holds Tryd.pinned (.plain (OpenSpec.ofChange valueBackSpec)) valueBackCard

/-- THE TIED CARD OF 'drumlinlaw06.ValueReads'. -/
def valueReadsCard : Claim7 := { stood := { row := valueReadsRow, standIns := [], harness := (true, "59cddd5b15dbf660a227a6f78a943ff4346a3e9329be42e3944a4d6f73bd427b"), looks := false }, kinds := [], alts := [], laidByText := true, laidKinds := [.data, .data, .data], laidTests := true, laidLooks := .later }
def ValueReadsCardSaid : Prop := Claim7.holds Tryd.pinned (.plain (OpenSpec.ofChange valueReadsSpec)) valueReadsCard

/-- THE TIED CARD OF 'drumlinlaw06.ValueJoins'. -/
def valueJoinsCard : Claim7 := { stood := { row := valueJoinsRow, standIns := [], harness := (true, "59cddd5b15dbf660a227a6f78a943ff4346a3e9329be42e3944a4d6f73bd427b"), looks := false }, kinds := [], alts := [], laidByText := true, laidKinds := [.data, .data, .data], laidTests := true, laidLooks := .later }
def ValueJoinsCardSaid : Prop := Claim7.holds Tryd.pinned (.plain (OpenSpec.ofChange valueJoinsSpec)) valueJoinsCard

/-- THE TIED CARD OF 'drumlinlaw06.ValuePeriods'. -/
def valuePeriodsCard : Claim7 := { stood := { row := valuePeriodsRow, standIns := [], harness := (true, "59cddd5b15dbf660a227a6f78a943ff4346a3e9329be42e3944a4d6f73bd427b"), looks := false }, kinds := [], alts := [], laidByText := true, laidKinds := [.data, .data, .data], laidTests := true, laidLooks := .later }
def ValuePeriodsCardSaid : Prop := Claim7.holds Tryd.pinned (.plain (OpenSpec.ofChange valuePeriodsSpec)) valuePeriodsCard

/-- THE TIED CARD OF 'drumlinlaw06.ValueLarge'. -/
def valueLargeCard : Claim7 := { stood := { row := valueLargeRow, standIns := [], harness := (true, "59cddd5b15dbf660a227a6f78a943ff4346a3e9329be42e3944a4d6f73bd427b"), looks := false }, kinds := [], alts := [], laidByText := true, laidKinds := [.data, .data, .data], laidTests := true, laidLooks := .later }
def ValueLargeCardSaid : Prop := Claim7.holds Tryd.pinned (.plain (OpenSpec.ofChange valueLargeSpec)) valueLargeCard

/-- THE TIED CARD OF 'drumlinlaw06.ValueBegins'. -/
def valueBeginsCard : Claim7 := { stood := { row := valueBeginsRow, standIns := [], harness := (true, "59cddd5b15dbf660a227a6f78a943ff4346a3e9329be42e3944a4d6f73bd427b"), looks := false }, kinds := [], alts := [], laidByText := true, laidKinds := [.data, .data, .data], laidTests := true, laidLooks := .later }
def ValueBeginsCardSaid : Prop := Claim7.holds Tryd.pinned (.plain (OpenSpec.ofChange valueBeginsSpec)) valueBeginsCard

/-- THE SECOND FORM's CARD OF 'drumlinlaw06.ValueChecks'. -/
def valueChecksUptoCard : Claim7 := { stood := { row := valueChecksUptoRow, standIns := [], harness := (true, "59cddd5b15dbf660a227a6f78a943ff4346a3e9329be42e3944a4d6f73bd427b"), looks := false }, kinds := [], alts := [], laidByText := true, laidKinds := [.data, .data, .data], laidTests := true, laidLooks := .later }
def ValueChecksUptoCardSaid : Prop := Claim7.holds Tryd.pinned (.plain (OpenSpec.upto valueChecksSpec)) valueChecksUptoCard

/-- THE SECOND FORM's CARD OF 'drumlinlaw06.ValueTexts'. -/
def valueTextsUptoCard : Claim7 := { stood := { row := valueTextsUptoRow, standIns := [], harness := (true, "59cddd5b15dbf660a227a6f78a943ff4346a3e9329be42e3944a4d6f73bd427b"), looks := false }, kinds := [], alts := [], laidByText := true, laidKinds := [.data, .data, .data], laidTests := true, laidLooks := .later }
def ValueTextsUptoCardSaid : Prop := Claim7.holds Tryd.pinned (.plain (OpenSpec.upto valueTextsSpec)) valueTextsUptoCard

/-- THE SECOND FORM's CARD OF 'drumlinlaw06.ValueRepeats'. -/
def valueRepeatsUptoCard : Claim7 := { stood := { row := valueRepeatsUptoRow, standIns := [], harness := (true, "59cddd5b15dbf660a227a6f78a943ff4346a3e9329be42e3944a4d6f73bd427b"), looks := false }, kinds := [], alts := [], laidByText := true, laidKinds := [.data, .data, .data], laidTests := true, laidLooks := .later }
def ValueRepeatsUptoCardSaid : Prop := Claim7.holds Tryd.pinned (.plain (OpenSpec.upto valueRepeatsSpec)) valueRepeatsUptoCard

/-- THE SECOND FORM's CARD OF 'drumlinlaw06.ValueShorts'. -/
def valueShortsUptoCard : Claim7 := { stood := { row := valueShortsUptoRow, standIns := [], harness := (true, "59cddd5b15dbf660a227a6f78a943ff4346a3e9329be42e3944a4d6f73bd427b"), looks := false }, kinds := [], alts := [], laidByText := true, laidKinds := [.data, .data, .data], laidTests := true, laidLooks := .later }
def ValueShortsUptoCardSaid : Prop := Claim7.holds Tryd.pinned (.plain (OpenSpec.upto valueShortsSpec)) valueShortsUptoCard

/-- THE SECOND FORM's CARD OF 'drumlinlaw06.ValueBack'. -/
def valueBackUptoCard : Claim7 := { stood := { row := valueBackUptoRow, standIns := [], harness := (true, "59cddd5b15dbf660a227a6f78a943ff4346a3e9329be42e3944a4d6f73bd427b"), looks := false }, kinds := [], alts := [], laidByText := true, laidKinds := [.data, .data, .data], laidTests := true, laidLooks := .later }
def ValueBackUptoCardSaid : Prop := Claim7.holds Tryd.pinned (.plain (OpenSpec.upto valueBackSpec)) valueBackUptoCard

/-- THE SECOND FORM's CARD OF 'drumlinlaw06.ValueReads'. -/
def valueReadsUptoCard : Claim7 := { stood := { row := valueReadsUptoRow, standIns := [], harness := (true, "59cddd5b15dbf660a227a6f78a943ff4346a3e9329be42e3944a4d6f73bd427b"), looks := false }, kinds := [], alts := [], laidByText := true, laidKinds := [.data, .data, .data], laidTests := true, laidLooks := .later }
def ValueReadsUptoCardSaid : Prop := Claim7.holds Tryd.pinned (.plain (OpenSpec.upto valueReadsSpec)) valueReadsUptoCard

/-- THE SECOND FORM's CARD OF 'drumlinlaw06.ValueJoins'. -/
def valueJoinsUptoCard : Claim7 := { stood := { row := valueJoinsUptoRow, standIns := [], harness := (true, "59cddd5b15dbf660a227a6f78a943ff4346a3e9329be42e3944a4d6f73bd427b"), looks := false }, kinds := [], alts := [], laidByText := true, laidKinds := [.data, .data, .data], laidTests := true, laidLooks := .later }
def ValueJoinsUptoCardSaid : Prop := Claim7.holds Tryd.pinned (.plain (OpenSpec.upto valueJoinsSpec)) valueJoinsUptoCard

/-- THE SECOND FORM's CARD OF 'drumlinlaw06.ValuePeriods'. -/
def valuePeriodsUptoCard : Claim7 := { stood := { row := valuePeriodsUptoRow, standIns := [], harness := (true, "59cddd5b15dbf660a227a6f78a943ff4346a3e9329be42e3944a4d6f73bd427b"), looks := false }, kinds := [], alts := [], laidByText := true, laidKinds := [.data, .data, .data], laidTests := true, laidLooks := .later }
def ValuePeriodsUptoCardSaid : Prop := Claim7.holds Tryd.pinned (.plain (OpenSpec.upto valuePeriodsSpec)) valuePeriodsUptoCard

/-- THE SECOND FORM's CARD OF 'drumlinlaw06.ValueLarge'. -/
def valueLargeUptoCard : Claim7 := { stood := { row := valueLargeUptoRow, standIns := [], harness := (true, "59cddd5b15dbf660a227a6f78a943ff4346a3e9329be42e3944a4d6f73bd427b"), looks := false }, kinds := [], alts := [], laidByText := true, laidKinds := [.data, .data, .data], laidTests := true, laidLooks := .later }
def ValueLargeUptoCardSaid : Prop := Claim7.holds Tryd.pinned (.plain (OpenSpec.upto valueLargeSpec)) valueLargeUptoCard

/-- THE SECOND FORM's CARD OF 'drumlinlaw06.ValueBegins'. -/
def valueBeginsUptoCard : Claim7 := { stood := { row := valueBeginsUptoRow, standIns := [], harness := (true, "59cddd5b15dbf660a227a6f78a943ff4346a3e9329be42e3944a4d6f73bd427b"), looks := false }, kinds := [], alts := [], laidByText := true, laidKinds := [.data, .data, .data], laidTests := true, laidLooks := .later }
def ValueBeginsUptoCardSaid : Prop := Claim7.holds Tryd.pinned (.plain (OpenSpec.upto valueBeginsSpec)) valueBeginsUptoCard
end Rows
end Go.Proofs.YtfkkpgklciehoaaDoor
