/-
  DERIVED. GIVEN WITH THE SEED: THE CARDS: each row of YthhblaagdakdmaaGreatDoorRows.lean that lists a variable, with what it lists TIED to the program's text (the seventh form; the later family's looks); each row that meets fmt, with fmt's text TOLD by the authors' own Lean function (tested against real Go, not proved from fmt's source: count such statements apart). THE CARD IS WHAT COUNTS. Prove the row's statement (the work); the ties are given (YthhblaagdakdmaaGreatDoorTie.lean); close each card by the builder's one call (the guide's Derived/Test/ToyasCard.lean, 'card_holds'). Laid BY PROGRAM, IN A SANDBOX (cutbox-door.mjs). By AI agents, Wed Nov 11 2026. No macro, syntax, notation, axiom, sorry.
-/
import Derived.Test.YthhblaagdakdmaaGreatDoorRows
import GoSem.ClaimSeven
namespace Go.Proofs.YthhblaagdakdmaaGreatDoor
namespace Rows

/-- THE TIED CARD OF 'consignorlaw14.StockCells'. -/
def stockCellsCard : Claim7 := { stood := { row := stockCellsRow, standIns := [], harness := (true, "454f56a74d3df4c95a62cbdb9cc1de1a9b817eef86cd429a2bf9d48c782a81ab"), looks := false }, kinds := [], alts := [], laidByText := true, laidKinds := [.data, .data, .pinned], laidTests := true, laidLooks := .later }
def StockCellsCardSaid : Prop := Claim7.holds Tryz.pinned (.plain (OpenSpec.ofChange stockCellsSpec)) stockCellsCard

/-- THE SECOND FORM's CARD OF 'consignorlaw14.StockCells'. -/
def stockCellsUptoCard : Claim7 := { stood := { row := stockCellsUptoRow, standIns := [], harness := (true, "454f56a74d3df4c95a62cbdb9cc1de1a9b817eef86cd429a2bf9d48c782a81ab"), looks := false }, kinds := [], alts := [], laidByText := true, laidKinds := [.data, .data, .pinned], laidTests := true, laidLooks := .later }
def StockCellsUptoCardSaid : Prop := Claim7.holds Tryz.pinned (.plain (OpenSpec.upto stockCellsSpec)) stockCellsUptoCard
end Rows
end Go.Proofs.YthhblaagdakdmaaGreatDoor
