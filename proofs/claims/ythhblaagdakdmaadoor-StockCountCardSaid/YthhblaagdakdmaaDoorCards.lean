/-
  DERIVED. GIVEN WITH THE SEED: THE CARDS: each row of YthhblaagdakdmaaDoorRows.lean that lists a variable, with what it lists TIED to the program's text (the seventh form; the later family's looks); each row that meets fmt, with fmt's text TOLD by the authors' own Lean function (tested against real Go, not proved from fmt's source: count such statements apart). THE CARD IS WHAT COUNTS. Prove the row's statement (the work); the ties are given (YthhblaagdakdmaaDoorTie.lean); close each card by the builder's one call (the guide's Derived/Test/ToyasCard.lean, 'card_holds'). Laid BY PROGRAM, IN A SANDBOX (cutbox-door.mjs). By AI agents, Wed Nov 11 2026. No macro, syntax, notation, axiom, sorry.
-/
import Derived.Test.YthhblaagdakdmaaDoorRows
import GoSem.ClaimSeven
namespace Go.Proofs.YthhblaagdakdmaaDoor
namespace Rows

/-- THE TIED CARD OF 'consignorlaw14.StockPrint'. -/
def stockPrintCard : Claim7 := { stood := { row := stockPrintRow, standIns := [], harness := (true, "b653bc323d8f9483b44f119630f84ff5b01ac53cfdb5bf7524ac3f2a551ad038"), looks := false }, kinds := [], alts := [], laidByText := true, laidKinds := [.data, .data, .pinned], laidTests := true, laidLooks := .later }
def StockPrintCardSaid : Prop := Claim7.holds Tryd.pinned (.plain (OpenSpec.ofChange stockPrintSpec)) stockPrintCard

/-- THE TIED CARD OF 'consignorlaw14.StockParse'. -/
def stockParseCard : Claim7 := { stood := { row := stockParseRow, standIns := [], harness := (true, "b653bc323d8f9483b44f119630f84ff5b01ac53cfdb5bf7524ac3f2a551ad038"), looks := false }, kinds := [], alts := [], laidByText := true, laidKinds := [.data, .data, .pinned], laidTests := true, laidLooks := .later }
def StockParseCardSaid : Prop := Claim7.holds Tryd.pinned (.plain (OpenSpec.ofChange stockParseSpec)) stockParseCard

/-- THE TIED CARD OF 'consignorlaw14.StockBack'. -/
def stockBackCard : Claim7 := { stood := { row := stockBackRow, standIns := [], harness := (true, "b653bc323d8f9483b44f119630f84ff5b01ac53cfdb5bf7524ac3f2a551ad038"), looks := false }, kinds := [], alts := [], laidByText := true, laidKinds := [.data, .data, .pinned], laidTests := true, laidLooks := .later }
def StockBackCardSaid : Prop := Claim7.holds Tryd.pinned (.plain (OpenSpec.ofChange stockBackSpec)) stockBackCard

/-- THE TIED CARD OF 'consignorlaw14.StockForm'. -/
def stockFormCard : Claim7 := { stood := { row := stockFormRow, standIns := [], harness := (true, "b653bc323d8f9483b44f119630f84ff5b01ac53cfdb5bf7524ac3f2a551ad038"), looks := false }, kinds := [], alts := [], laidByText := true, laidKinds := [.data, .data, .pinned], laidTests := true, laidLooks := .later }
def StockFormCardSaid : Prop := Claim7.holds Tryd.pinned (.plain (OpenSpec.ofChange stockFormSpec)) stockFormCard

/-- THE TIED CARD OF 'consignorlaw14.StockCount'. -/
def stockCountCard : Claim7 := { stood := { row := stockCountRow, standIns := [], harness := (true, "b653bc323d8f9483b44f119630f84ff5b01ac53cfdb5bf7524ac3f2a551ad038"), looks := false }, kinds := [], alts := [], laidByText := true, laidKinds := [.data, .data, .pinned], laidTests := true, laidLooks := .later }
def StockCountCardSaid : Prop := Claim7.holds Tryd.pinned (.plain (OpenSpec.ofChange stockCountSpec)) stockCountCard

/-- THE SECOND FORM's CARD OF 'consignorlaw14.StockPrint'. -/
def stockPrintUptoCard : Claim7 := { stood := { row := stockPrintUptoRow, standIns := [], harness := (true, "b653bc323d8f9483b44f119630f84ff5b01ac53cfdb5bf7524ac3f2a551ad038"), looks := false }, kinds := [], alts := [], laidByText := true, laidKinds := [.data, .data, .pinned], laidTests := true, laidLooks := .later }
def StockPrintUptoCardSaid : Prop := Claim7.holds Tryd.pinned (.plain (OpenSpec.upto stockPrintSpec)) stockPrintUptoCard

/-- THE SECOND FORM's CARD OF 'consignorlaw14.StockParse'. -/
def stockParseUptoCard : Claim7 := { stood := { row := stockParseUptoRow, standIns := [], harness := (true, "b653bc323d8f9483b44f119630f84ff5b01ac53cfdb5bf7524ac3f2a551ad038"), looks := false }, kinds := [], alts := [], laidByText := true, laidKinds := [.data, .data, .pinned], laidTests := true, laidLooks := .later }
def StockParseUptoCardSaid : Prop := Claim7.holds Tryd.pinned (.plain (OpenSpec.upto stockParseSpec)) stockParseUptoCard

/-- THE SECOND FORM's CARD OF 'consignorlaw14.StockBack'. -/
def stockBackUptoCard : Claim7 := { stood := { row := stockBackUptoRow, standIns := [], harness := (true, "b653bc323d8f9483b44f119630f84ff5b01ac53cfdb5bf7524ac3f2a551ad038"), looks := false }, kinds := [], alts := [], laidByText := true, laidKinds := [.data, .data, .pinned], laidTests := true, laidLooks := .later }
def StockBackUptoCardSaid : Prop := Claim7.holds Tryd.pinned (.plain (OpenSpec.upto stockBackSpec)) stockBackUptoCard

/-- THE SECOND FORM's CARD OF 'consignorlaw14.StockForm'. -/
def stockFormUptoCard : Claim7 := { stood := { row := stockFormUptoRow, standIns := [], harness := (true, "b653bc323d8f9483b44f119630f84ff5b01ac53cfdb5bf7524ac3f2a551ad038"), looks := false }, kinds := [], alts := [], laidByText := true, laidKinds := [.data, .data, .pinned], laidTests := true, laidLooks := .later }
def StockFormUptoCardSaid : Prop := Claim7.holds Tryd.pinned (.plain (OpenSpec.upto stockFormSpec)) stockFormUptoCard

/-- THE SECOND FORM's CARD OF 'consignorlaw14.StockCount'. -/
def stockCountUptoCard : Claim7 := { stood := { row := stockCountUptoRow, standIns := [], harness := (true, "b653bc323d8f9483b44f119630f84ff5b01ac53cfdb5bf7524ac3f2a551ad038"), looks := false }, kinds := [], alts := [], laidByText := true, laidKinds := [.data, .data, .pinned], laidTests := true, laidLooks := .later }
def StockCountUptoCardSaid : Prop := Claim7.holds Tryd.pinned (.plain (OpenSpec.upto stockCountSpec)) stockCountUptoCard
end Rows
end Go.Proofs.YthhblaagdakdmaaDoor
