/-
  DERIVED. GIVEN WITH THE SEED: THE CARDS: each row of YtjhhkfigdamaeaaDoorRows.lean that lists a variable, with what it lists TIED to the program's text (the seventh form; the later family's looks); each row that meets fmt, with fmt's text TOLD by the authors' own Lean function (tested against real Go, not proved from fmt's source: count such statements apart). THE CARD IS WHAT COUNTS. Prove the row's statement (the work); the ties are given (YtjhhkfigdamaeaaDoorTie.lean); close each card by the builder's one call (the guide's Derived/Test/ToyasCard.lean, 'card_holds'). Laid BY PROGRAM, IN A SANDBOX (cutbox-door.mjs). By AI agents, Wed Nov 11 2026. No macro, syntax, notation, axiom, sorry.
-/
import Derived.Test.YtjhhkfigdamaeaaDoorRows
import GoSem.ClaimSeven
namespace Go.Proofs.YtjhhkfigdamaeaaDoor
namespace Rows

/-- THE TIED CARD OF 'consignorlaw04.CsvPrint'. -/
def csvPrintCard : Claim7 := { stood := { row := csvPrintRow, standIns := [], harness := (true, "ac89bbf6db56d3a241fbf29f890199332d1944804a72e3f3b81d717e0f295193"), looks := false }, kinds := [], alts := [], laidByText := true, laidKinds := [.data, .pinned], laidTests := true, laidLooks := .later }
def CsvPrintCardSaid : Prop := Claim7.holds Tryd.pinned (.plain (OpenSpec.ofChange csvPrintSpec)) csvPrintCard

/-- THE TIED CARD OF 'consignorlaw04.CsvParse'. -/
def csvParseCard : Claim7 := { stood := { row := csvParseRow, standIns := [], harness := (true, "ac89bbf6db56d3a241fbf29f890199332d1944804a72e3f3b81d717e0f295193"), looks := false }, kinds := [], alts := [], laidByText := true, laidKinds := [.data, .pinned], laidTests := true, laidLooks := .later }
def CsvParseCardSaid : Prop := Claim7.holds Tryd.pinned (.plain (OpenSpec.ofChange csvParseSpec)) csvParseCard

/-- THE TIED CARD OF 'consignorlaw04.CsvBack'. -/
def csvBackCard : Claim7 := { stood := { row := csvBackRow, standIns := [], harness := (true, "ac89bbf6db56d3a241fbf29f890199332d1944804a72e3f3b81d717e0f295193"), looks := false }, kinds := [], alts := [], laidByText := true, laidKinds := [.data, .pinned], laidTests := true, laidLooks := .later }
def CsvBackCardSaid : Prop := Claim7.holds Tryd.pinned (.plain (OpenSpec.ofChange csvBackSpec)) csvBackCard

/-- THE TIED CARD OF 'consignorlaw04.CsvAgain'. -/
def csvAgainCard : Claim7 := { stood := { row := csvAgainRow, standIns := [], harness := (true, "ac89bbf6db56d3a241fbf29f890199332d1944804a72e3f3b81d717e0f295193"), looks := false }, kinds := [], alts := [], laidByText := true, laidKinds := [.data, .pinned], laidTests := true, laidLooks := .later }
def CsvAgainCardSaid : Prop := Claim7.holds Tryd.pinned (.plain (OpenSpec.ofChange csvAgainSpec)) csvAgainCard

/-- THE TIED CARD OF 'consignorlaw04.CsvLong'. -/
def csvLongCard : Claim7 := { stood := { row := csvLongRow, standIns := [], harness := (true, "ac89bbf6db56d3a241fbf29f890199332d1944804a72e3f3b81d717e0f295193"), looks := false }, kinds := [], alts := [], laidByText := true, laidKinds := [.data, .pinned], laidTests := true, laidLooks := .later }
def CsvLongCardSaid : Prop := Claim7.holds Tryd.pinned (.plain (OpenSpec.ofChange csvLongSpec)) csvLongCard

/-- THE SECOND FORM's CARD OF 'consignorlaw04.CsvPrint'. -/
def csvPrintUptoCard : Claim7 := { stood := { row := csvPrintUptoRow, standIns := [], harness := (true, "ac89bbf6db56d3a241fbf29f890199332d1944804a72e3f3b81d717e0f295193"), looks := false }, kinds := [], alts := [], laidByText := true, laidKinds := [.data, .pinned], laidTests := true, laidLooks := .later }
def CsvPrintUptoCardSaid : Prop := Claim7.holds Tryd.pinned (.plain (OpenSpec.upto csvPrintSpec)) csvPrintUptoCard

/-- THE SECOND FORM's CARD OF 'consignorlaw04.CsvParse'. -/
def csvParseUptoCard : Claim7 := { stood := { row := csvParseUptoRow, standIns := [], harness := (true, "ac89bbf6db56d3a241fbf29f890199332d1944804a72e3f3b81d717e0f295193"), looks := false }, kinds := [], alts := [], laidByText := true, laidKinds := [.data, .pinned], laidTests := true, laidLooks := .later }
def CsvParseUptoCardSaid : Prop := Claim7.holds Tryd.pinned (.plain (OpenSpec.upto csvParseSpec)) csvParseUptoCard

/-- THE SECOND FORM's CARD OF 'consignorlaw04.CsvBack'. -/
def csvBackUptoCard : Claim7 := { stood := { row := csvBackUptoRow, standIns := [], harness := (true, "ac89bbf6db56d3a241fbf29f890199332d1944804a72e3f3b81d717e0f295193"), looks := false }, kinds := [], alts := [], laidByText := true, laidKinds := [.data, .pinned], laidTests := true, laidLooks := .later }
def CsvBackUptoCardSaid : Prop := Claim7.holds Tryd.pinned (.plain (OpenSpec.upto csvBackSpec)) csvBackUptoCard

/-- THE SECOND FORM's CARD OF 'consignorlaw04.CsvAgain'. -/
def csvAgainUptoCard : Claim7 := { stood := { row := csvAgainUptoRow, standIns := [], harness := (true, "ac89bbf6db56d3a241fbf29f890199332d1944804a72e3f3b81d717e0f295193"), looks := false }, kinds := [], alts := [], laidByText := true, laidKinds := [.data, .pinned], laidTests := true, laidLooks := .later }
def CsvAgainUptoCardSaid : Prop := Claim7.holds Tryd.pinned (.plain (OpenSpec.upto csvAgainSpec)) csvAgainUptoCard

/-- THE SECOND FORM's CARD OF 'consignorlaw04.CsvLong'. -/
def csvLongUptoCard : Claim7 := { stood := { row := csvLongUptoRow, standIns := [], harness := (true, "ac89bbf6db56d3a241fbf29f890199332d1944804a72e3f3b81d717e0f295193"), looks := false }, kinds := [], alts := [], laidByText := true, laidKinds := [.data, .pinned], laidTests := true, laidLooks := .later }
def CsvLongUptoCardSaid : Prop := Claim7.holds Tryd.pinned (.plain (OpenSpec.upto csvLongSpec)) csvLongUptoCard
end Rows
end Go.Proofs.YtjhhkfigdamaeaaDoor
