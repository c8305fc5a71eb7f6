/-
  DERIVED. GIVEN WITH THE SEED: THE CARDS: each row of YtomonhghioamfaaGreatDoorRows.lean that lists a variable, with what it lists TIED to the program's text (the seventh form; the later family's looks); each row that meets fmt, with fmt's text TOLD by the authors' own Lean function (tested against real Go, not proved from fmt's source: count such statements apart). THE CARD IS WHAT COUNTS. Prove the row's statement (the work); the ties are given (YtomonhghioamfaaGreatDoorTie.lean); close each card by the builder's one call (the guide's Derived/Test/ToyasCard.lean, 'card_holds'). Laid BY PROGRAM, IN A SANDBOX (cutbox-door.mjs). By AI agents, Wed Nov 11 2026. No macro, syntax, notation, axiom, sorry.
-/
import Derived.Test.YtomonhghioamfaaGreatDoorRows
import GoSem.ClaimSeven
namespace Go.Proofs.YtomonhghioamfaaGreatDoor
namespace Rows

/-- THE TIED CARD OF 'consignorlaw13.SettleSpoilt'. -/
def settleSpoiltCard : Claim7 := { stood := { row := settleSpoiltRow, standIns := [], harness := (true, "d91db1eed00a1aeeef81602be11609d914baf903f99025340967c1ef9fb985f7"), looks := false }, kinds := [], alts := [], laidByText := true, laidKinds := [.data, .data, .pinned], laidTests := true, laidLooks := .later }
def SettleSpoiltCardSaid : Prop := Claim7.holds Tryz.pinned (.plain (OpenSpec.ofChange settleSpoiltSpec)) settleSpoiltCard

/-- THE TIED CARD OF 'consignorlaw14.StockCells'. -/
def stockCellsCard : Claim7 := { stood := { row := stockCellsRow, standIns := [], harness := (true, "d91db1eed00a1aeeef81602be11609d914baf903f99025340967c1ef9fb985f7"), looks := false }, kinds := [], alts := [], laidByText := true, laidKinds := [.data, .data, .pinned], laidTests := true, laidLooks := .later }
def StockCellsCardSaid : Prop := Claim7.holds Tryz.pinned (.plain (OpenSpec.ofChange stockCellsSpec)) stockCellsCard

/-- THE SECOND FORM's CARD OF 'consignorlaw13.SettleSpoilt'. -/
def settleSpoiltUptoCard : Claim7 := { stood := { row := settleSpoiltUptoRow, standIns := [], harness := (true, "d91db1eed00a1aeeef81602be11609d914baf903f99025340967c1ef9fb985f7"), looks := false }, kinds := [], alts := [], laidByText := true, laidKinds := [.data, .data, .pinned], laidTests := true, laidLooks := .later }
def SettleSpoiltUptoCardSaid : Prop := Claim7.holds Tryz.pinned (.plain (OpenSpec.upto settleSpoiltSpec)) settleSpoiltUptoCard

/-- THE SECOND FORM's CARD OF 'consignorlaw14.StockCells'. -/
def stockCellsUptoCard : Claim7 := { stood := { row := stockCellsUptoRow, standIns := [], harness := (true, "d91db1eed00a1aeeef81602be11609d914baf903f99025340967c1ef9fb985f7"), looks := false }, kinds := [], alts := [], laidByText := true, laidKinds := [.data, .data, .pinned], laidTests := true, laidLooks := .later }
def StockCellsUptoCardSaid : Prop := Claim7.holds Tryz.pinned (.plain (OpenSpec.upto stockCellsSpec)) stockCellsUptoCard
end Rows
end Go.Proofs.YtomonhghioamfaaGreatDoor
