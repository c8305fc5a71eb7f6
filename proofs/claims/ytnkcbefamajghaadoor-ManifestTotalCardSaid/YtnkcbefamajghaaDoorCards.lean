/-
  DERIVED. GIVEN WITH THE SEED: THE CARDS: each row of YtnkcbefamajghaaDoorRows.lean that lists a variable, with what it lists TIED to the program's text (the seventh form; the later family's looks); each row that meets fmt, with fmt's text TOLD by the authors' own Lean function (tested against real Go, not proved from fmt's source: count such statements apart). THE CARD IS WHAT COUNTS. Prove the row's statement (the work); the ties are given (YtnkcbefamajghaaDoorTie.lean); close each card by the builder's one call (the guide's Derived/Test/ToyasCard.lean, 'card_holds'). Laid BY PROGRAM, IN A SANDBOX (cutbox-door.mjs). By AI agents, Wed Nov 11 2026. No macro, syntax, notation, axiom, sorry.
-/
import Derived.Test.YtnkcbefamajghaaDoorRows
import GoSem.ClaimSeven
namespace Go.Proofs.YtnkcbefamajghaaDoor
namespace Rows

/-- THE TIED CARD OF 'consignorlaw15.ManifestPrint'. -/
def manifestPrintCard : Claim7 := { stood := { row := manifestPrintRow, standIns := [], harness := (true, "fe5b6a678c0ab4a76e2b1e00aae6cc73af7814a76dc611152b9fc9cd2ff5ec3c"), looks := false }, kinds := [], alts := [], laidByText := true, laidKinds := [.data, .data, .pinned], laidTests := true, laidLooks := .later }
def ManifestPrintCardSaid : Prop := Claim7.holds Tryd.pinned (.plain (OpenSpec.ofChange manifestPrintSpec)) manifestPrintCard

/-- THE TIED CARD OF 'consignorlaw15.ManifestParse'. -/
def manifestParseCard : Claim7 := { stood := { row := manifestParseRow, standIns := [], harness := (true, "fe5b6a678c0ab4a76e2b1e00aae6cc73af7814a76dc611152b9fc9cd2ff5ec3c"), looks := false }, kinds := [], alts := [], laidByText := true, laidKinds := [.data, .data, .pinned], laidTests := true, laidLooks := .later }
def ManifestParseCardSaid : Prop := Claim7.holds Tryd.pinned (.plain (OpenSpec.ofChange manifestParseSpec)) manifestParseCard

/-- THE TIED CARD OF 'consignorlaw15.ManifestCells'. -/
def manifestCellsCard : Claim7 := { stood := { row := manifestCellsRow, standIns := [], harness := (true, "fe5b6a678c0ab4a76e2b1e00aae6cc73af7814a76dc611152b9fc9cd2ff5ec3c"), looks := false }, kinds := [], alts := [], laidByText := true, laidKinds := [.data, .data, .pinned], laidTests := true, laidLooks := .later }
def ManifestCellsCardSaid : Prop := Claim7.holds Tryd.pinned (.plain (OpenSpec.ofChange manifestCellsSpec)) manifestCellsCard

/-- THE TIED CARD OF 'consignorlaw15.ManifestBack'. -/
def manifestBackCard : Claim7 := { stood := { row := manifestBackRow, standIns := [], harness := (true, "fe5b6a678c0ab4a76e2b1e00aae6cc73af7814a76dc611152b9fc9cd2ff5ec3c"), looks := false }, kinds := [], alts := [], laidByText := true, laidKinds := [.data, .data, .pinned], laidTests := true, laidLooks := .later }
def ManifestBackCardSaid : Prop := Claim7.holds Tryd.pinned (.plain (OpenSpec.ofChange manifestBackSpec)) manifestBackCard

/-- THE TIED CARD OF 'consignorlaw15.ManifestForm'. -/
def manifestFormCard : Claim7 := { stood := { row := manifestFormRow, standIns := [], harness := (true, "fe5b6a678c0ab4a76e2b1e00aae6cc73af7814a76dc611152b9fc9cd2ff5ec3c"), looks := false }, kinds := [], alts := [], laidByText := true, laidKinds := [.data, .data, .pinned], laidTests := true, laidLooks := .later }
def ManifestFormCardSaid : Prop := Claim7.holds Tryd.pinned (.plain (OpenSpec.ofChange manifestFormSpec)) manifestFormCard

/-- THE TIED CARD OF 'consignorlaw15.ManifestTotal'. -/
def manifestTotalCard : Claim7 := { stood := { row := manifestTotalRow, standIns := [], harness := (true, "fe5b6a678c0ab4a76e2b1e00aae6cc73af7814a76dc611152b9fc9cd2ff5ec3c"), looks := false }, kinds := [], alts := [], laidByText := true, laidKinds := [.data, .data, .pinned], laidTests := true, laidLooks := .later }
def ManifestTotalCardSaid : Prop := Claim7.holds Tryd.pinned (.plain (OpenSpec.ofChange manifestTotalSpec)) manifestTotalCard

/-- THE SECOND FORM's CARD OF 'consignorlaw15.ManifestPrint'. -/
def manifestPrintUptoCard : Claim7 := { stood := { row := manifestPrintUptoRow, standIns := [], harness := (true, "fe5b6a678c0ab4a76e2b1e00aae6cc73af7814a76dc611152b9fc9cd2ff5ec3c"), looks := false }, kinds := [], alts := [], laidByText := true, laidKinds := [.data, .data, .pinned], laidTests := true, laidLooks := .later }
def ManifestPrintUptoCardSaid : Prop := Claim7.holds Tryd.pinned (.plain (OpenSpec.upto manifestPrintSpec)) manifestPrintUptoCard

/-- THE SECOND FORM's CARD OF 'consignorlaw15.ManifestParse'. -/
def manifestParseUptoCard : Claim7 := { stood := { row := manifestParseUptoRow, standIns := [], harness := (true, "fe5b6a678c0ab4a76e2b1e00aae6cc73af7814a76dc611152b9fc9cd2ff5ec3c"), looks := false }, kinds := [], alts := [], laidByText := true, laidKinds := [.data, .data, .pinned], laidTests := true, laidLooks := .later }
def ManifestParseUptoCardSaid : Prop := Claim7.holds Tryd.pinned (.plain (OpenSpec.upto manifestParseSpec)) manifestParseUptoCard

/-- THE SECOND FORM's CARD OF 'consignorlaw15.ManifestCells'. -/
def manifestCellsUptoCard : Claim7 := { stood := { row := manifestCellsUptoRow, standIns := [], harness := (true, "fe5b6a678c0ab4a76e2b1e00aae6cc73af7814a76dc611152b9fc9cd2ff5ec3c"), looks := false }, kinds := [], alts := [], laidByText := true, laidKinds := [.data, .data, .pinned], laidTests := true, laidLooks := .later }
def ManifestCellsUptoCardSaid : Prop := Claim7.holds Tryd.pinned (.plain (OpenSpec.upto manifestCellsSpec)) manifestCellsUptoCard

/-- THE SECOND FORM's CARD OF 'consignorlaw15.ManifestBack'. -/
def manifestBackUptoCard : Claim7 := { stood := { row := manifestBackUptoRow, standIns := [], harness := (true, "fe5b6a678c0ab4a76e2b1e00aae6cc73af7814a76dc611152b9fc9cd2ff5ec3c"), looks := false }, kinds := [], alts := [], laidByText := true, laidKinds := [.data, .data, .pinned], laidTests := true, laidLooks := .later }
def ManifestBackUptoCardSaid : Prop := Claim7.holds Tryd.pinned (.plain (OpenSpec.upto manifestBackSpec)) manifestBackUptoCard

/-- THE SECOND FORM's CARD OF 'consignorlaw15.ManifestForm'. -/
def manifestFormUptoCard : Claim7 := { stood := { row := manifestFormUptoRow, standIns := [], harness := (true, "fe5b6a678c0ab4a76e2b1e00aae6cc73af7814a76dc611152b9fc9cd2ff5ec3c"), looks := false }, kinds := [], alts := [], laidByText := true, laidKinds := [.data, .data, .pinned], laidTests := true, laidLooks := .later }
def ManifestFormUptoCardSaid : Prop := Claim7.holds Tryd.pinned (.plain (OpenSpec.upto manifestFormSpec)) manifestFormUptoCard

/-- THE SECOND FORM's CARD OF 'consignorlaw15.ManifestTotal'. -/
def manifestTotalUptoCard : Claim7 := { stood := { row := manifestTotalUptoRow, standIns := [], harness := (true, "fe5b6a678c0ab4a76e2b1e00aae6cc73af7814a76dc611152b9fc9cd2ff5ec3c"), looks := false }, kinds := [], alts := [], laidByText := true, laidKinds := [.data, .data, .pinned], laidTests := true, laidLooks := .later }
def ManifestTotalUptoCardSaid : Prop := Claim7.holds Tryd.pinned (.plain (OpenSpec.upto manifestTotalSpec)) manifestTotalUptoCard
end Rows
end Go.Proofs.YtnkcbefamajghaaDoor
