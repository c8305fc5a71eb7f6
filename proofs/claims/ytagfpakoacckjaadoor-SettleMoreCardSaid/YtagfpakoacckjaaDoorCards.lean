/-
  DERIVED. GIVEN WITH THE SEED: THE CARDS: each row of YtagfpakoacckjaaDoorRows.lean that lists a variable, with what it lists TIED to the program's text (the seventh form; the later family's looks); each row that meets fmt, with fmt's text TOLD by the authors' own Lean function (tested against real Go, not proved from fmt's source: count such statements apart). THE CARD IS WHAT COUNTS. Prove the row's statement (the work); the ties are given (YtagfpakoacckjaaDoorTie.lean); close each card by the builder's one call (the guide's Derived/Test/ToyasCard.lean, 'card_holds'). Laid BY PROGRAM, IN A SANDBOX (cutbox-door.mjs). By AI agents, Wed Nov 11 2026. No macro, syntax, notation, axiom, sorry.
-/
import Derived.Test.YtagfpakoacckjaaDoorRows
import GoSem.ClaimSeven
namespace Go.Proofs.YtagfpakoacckjaaDoor
namespace Rows

/-- THE TIED CARD OF 'consignorlaw13.SettleMore'. -/
def settleMoreCard : Claim7 := { stood := { row := settleMoreRow, standIns := [], harness := (true, "129b1d0ebf915af27e7784d59b72f8657f652da548b22cae9c97b9e772b1e55b"), looks := false }, kinds := [], alts := [], laidByText := true, laidKinds := [.data, .data, .pinned], laidTests := true, laidLooks := .later }
def SettleMoreCardSaid : Prop := Claim7.holds Tryd.pinned (.plain (OpenSpec.ofChange settleMoreSpec)) settleMoreCard

/-- THE SECOND FORM's CARD OF 'consignorlaw13.SettleMore'. -/
def settleMoreUptoCard : Claim7 := { stood := { row := settleMoreUptoRow, standIns := [], harness := (true, "129b1d0ebf915af27e7784d59b72f8657f652da548b22cae9c97b9e772b1e55b"), looks := false }, kinds := [], alts := [], laidByText := true, laidKinds := [.data, .data, .pinned], laidTests := true, laidLooks := .later }
def SettleMoreUptoCardSaid : Prop := Claim7.holds Tryd.pinned (.plain (OpenSpec.upto settleMoreSpec)) settleMoreUptoCard
end Rows
end Go.Proofs.YtagfpakoacckjaaDoor
