/-
  DERIVED. GIVEN WITH THE SEED: THE CARDS: each row of YtomonhghioamfaaDoorRows.lean that lists a variable, with what it lists TIED to the program's text (the seventh form; the later family's looks); each row that meets fmt, with fmt's text TOLD by the authors' own Lean function (tested against real Go, not proved from fmt's source: count such statements apart). THE CARD IS WHAT COUNTS. Prove the row's statement (the work); the ties are given (YtomonhghioamfaaDoorTie.lean); close each card by the builder's one call (the guide's Derived/Test/ToyasCard.lean, 'card_holds'). Laid BY PROGRAM, IN A SANDBOX (cutbox-door.mjs). By AI agents, Wed Nov 11 2026. No macro, syntax, notation, axiom, sorry.
-/
import Derived.Test.YtomonhghioamfaaDoorRows
import GoSem.ClaimSeven
namespace Go.Proofs.YtomonhghioamfaaDoor
namespace Rows

/-- THE TIED CARD OF 'consignorlaw12.RowsTell'. -/
def rowsTellCard : Claim7 := { stood := { row := rowsTellRow, standIns := [], harness := (true, "8e50de9a0da9b1e8b0e7e9d022b6a84c782b7f75b9e1dd6c62a19f60e1c77275"), looks := false }, kinds := [], alts := [], laidByText := true, laidKinds := [.data], laidTests := true, laidLooks := .later }
def RowsTellCardSaid : Prop := Claim7.holds Tryd.pinned (.plain (OpenSpec.ofChange rowsTellSpec)) rowsTellCard

/-- THE TIED CARD OF 'consignorlaw12.RowsGet'. -/
def rowsGetCard : Claim7 := { stood := { row := rowsGetRow, standIns := [], harness := (true, "8e50de9a0da9b1e8b0e7e9d022b6a84c782b7f75b9e1dd6c62a19f60e1c77275"), looks := false }, kinds := [], alts := [], laidByText := true, laidKinds := [.data], laidTests := true, laidLooks := .later }
def RowsGetCardSaid : Prop := Claim7.holds Tryd.pinned (.plain (OpenSpec.ofChange rowsGetSpec)) rowsGetCard

/-- THE TIED CARD OF 'consignorlaw12.RowsBack'. -/
def rowsBackCard : Claim7 := { stood := { row := rowsBackRow, standIns := [], harness := (true, "8e50de9a0da9b1e8b0e7e9d022b6a84c782b7f75b9e1dd6c62a19f60e1c77275"), looks := false }, kinds := [], alts := [], laidByText := true, laidKinds := [.data], laidTests := true, laidLooks := .later }
def RowsBackCardSaid : Prop := Claim7.holds Tryd.pinned (.plain (OpenSpec.ofChange rowsBackSpec)) rowsBackCard

/-- THE TIED CARD OF 'consignorlaw12.RowsFew'. -/
def rowsFewCard : Claim7 := { stood := { row := rowsFewRow, standIns := [], harness := (true, "8e50de9a0da9b1e8b0e7e9d022b6a84c782b7f75b9e1dd6c62a19f60e1c77275"), looks := false }, kinds := [], alts := [], laidByText := true, laidKinds := [.data], laidTests := true, laidLooks := .later }
def RowsFewCardSaid : Prop := Claim7.holds Tryd.pinned (.plain (OpenSpec.ofChange rowsFewSpec)) rowsFewCard

/-- THE TIED CARD OF 'consignorlaw13.SettleMore'. -/
def settleMoreCard : Claim7 := { stood := { row := settleMoreRow, standIns := [], harness := (true, "8e50de9a0da9b1e8b0e7e9d022b6a84c782b7f75b9e1dd6c62a19f60e1c77275"), looks := false }, kinds := [], alts := [], laidByText := true, laidKinds := [.data, .data, .pinned], laidTests := true, laidLooks := .later }
def SettleMoreCardSaid : Prop := Claim7.holds Tryd.pinned (.plain (OpenSpec.ofChange settleMoreSpec)) settleMoreCard

/-- THE SECOND FORM's CARD OF 'consignorlaw12.RowsTell'. -/
def rowsTellUptoCard : Claim7 := { stood := { row := rowsTellUptoRow, standIns := [], harness := (true, "8e50de9a0da9b1e8b0e7e9d022b6a84c782b7f75b9e1dd6c62a19f60e1c77275"), looks := false }, kinds := [], alts := [], laidByText := true, laidKinds := [.data], laidTests := true, laidLooks := .later }
def RowsTellUptoCardSaid : Prop := Claim7.holds Tryd.pinned (.plain (OpenSpec.upto rowsTellSpec)) rowsTellUptoCard

/-- THE SECOND FORM's CARD OF 'consignorlaw12.RowsGet'. -/
def rowsGetUptoCard : Claim7 := { stood := { row := rowsGetUptoRow, standIns := [], harness := (true, "8e50de9a0da9b1e8b0e7e9d022b6a84c782b7f75b9e1dd6c62a19f60e1c77275"), looks := false }, kinds := [], alts := [], laidByText := true, laidKinds := [.data], laidTests := true, laidLooks := .later }
def RowsGetUptoCardSaid : Prop := Claim7.holds Tryd.pinned (.plain (OpenSpec.upto rowsGetSpec)) rowsGetUptoCard

/-- THE SECOND FORM's CARD OF 'consignorlaw12.RowsBack'. -/
def rowsBackUptoCard : Claim7 := { stood := { row := rowsBackUptoRow, standIns := [], harness := (true, "8e50de9a0da9b1e8b0e7e9d022b6a84c782b7f75b9e1dd6c62a19f60e1c77275"), looks := false }, kinds := [], alts := [], laidByText := true, laidKinds := [.data], laidTests := true, laidLooks := .later }
def RowsBackUptoCardSaid : Prop := Claim7.holds Tryd.pinned (.plain (OpenSpec.upto rowsBackSpec)) rowsBackUptoCard

/-- THE SECOND FORM's CARD OF 'consignorlaw12.RowsFew'. -/
def rowsFewUptoCard : Claim7 := { stood := { row := rowsFewUptoRow, standIns := [], harness := (true, "8e50de9a0da9b1e8b0e7e9d022b6a84c782b7f75b9e1dd6c62a19f60e1c77275"), looks := false }, kinds := [], alts := [], laidByText := true, laidKinds := [.data], laidTests := true, laidLooks := .later }
def RowsFewUptoCardSaid : Prop := Claim7.holds Tryd.pinned (.plain (OpenSpec.upto rowsFewSpec)) rowsFewUptoCard

/-- THE SECOND FORM's CARD OF 'consignorlaw13.SettleMore'. -/
def settleMoreUptoCard : Claim7 := { stood := { row := settleMoreUptoRow, standIns := [], harness := (true, "8e50de9a0da9b1e8b0e7e9d022b6a84c782b7f75b9e1dd6c62a19f60e1c77275"), looks := false }, kinds := [], alts := [], laidByText := true, laidKinds := [.data, .data, .pinned], laidTests := true, laidLooks := .later }
def SettleMoreUptoCardSaid : Prop := Claim7.holds Tryd.pinned (.plain (OpenSpec.upto settleMoreSpec)) settleMoreUptoCard
end Rows
end Go.Proofs.YtomonhghioamfaaDoor
