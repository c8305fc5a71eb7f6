/-
  DERIVED. GIVEN WITH THE SEED: THE CARDS: each row of YtjmaldikpdlngaaDoorRows.lean that lists a variable, with what it lists TIED to the program's text (the seventh form; the later family's looks); each row that meets fmt, with fmt's text TOLD by the authors' own Lean function (tested against real Go, not proved from fmt's source: count such statements apart). THE CARD IS WHAT COUNTS. Prove the row's statement (the work); the ties are given (YtjmaldikpdlngaaDoorTie.lean); close each card by the builder's one call (the guide's Derived/Test/ToyasCard.lean, 'card_holds'). Laid BY PROGRAM, IN A SANDBOX (cutbox-door.mjs). By AI agents, Wed Nov 11 2026. No macro, syntax, notation, axiom, sorry.
-/
import Derived.Test.YtjmaldikpdlngaaDoorRows
import GoSem.ClaimSeven
namespace Go.Proofs.YtjmaldikpdlngaaDoor
namespace Rows

/-- THE TIED CARD OF 'consignorlaw13.SettlePrint'. -/
def settlePrintCard : Claim7 := { stood := { row := settlePrintRow, standIns := [], harness := (true, "09094ba115dd630c881303f8bdf0a08c4c8f6bdd7e5584b9cbdc5db338dc2e1c"), looks := false }, kinds := [], alts := [], laidByText := true, laidKinds := [.data, .data, .pinned], laidTests := true, laidLooks := .later }
def SettlePrintCardSaid : Prop := Claim7.holds Tryd.pinned (.plain (OpenSpec.ofChange settlePrintSpec)) settlePrintCard

/-- THE TIED CARD OF 'consignorlaw13.SettleParse'. -/
def settleParseCard : Claim7 := { stood := { row := settleParseRow, standIns := [], harness := (true, "09094ba115dd630c881303f8bdf0a08c4c8f6bdd7e5584b9cbdc5db338dc2e1c"), looks := false }, kinds := [], alts := [], laidByText := true, laidKinds := [.data, .data, .pinned], laidTests := true, laidLooks := .later }
def SettleParseCardSaid : Prop := Claim7.holds Tryd.pinned (.plain (OpenSpec.ofChange settleParseSpec)) settleParseCard

/-- THE TIED CARD OF 'consignorlaw13.SettleBack'. -/
def settleBackCard : Claim7 := { stood := { row := settleBackRow, standIns := [], harness := (true, "09094ba115dd630c881303f8bdf0a08c4c8f6bdd7e5584b9cbdc5db338dc2e1c"), looks := false }, kinds := [], alts := [], laidByText := true, laidKinds := [.data, .data, .pinned], laidTests := true, laidLooks := .later }
def SettleBackCardSaid : Prop := Claim7.holds Tryd.pinned (.plain (OpenSpec.ofChange settleBackSpec)) settleBackCard

/-- THE TIED CARD OF 'consignorlaw13.SettleForm'. -/
def settleFormCard : Claim7 := { stood := { row := settleFormRow, standIns := [], harness := (true, "09094ba115dd630c881303f8bdf0a08c4c8f6bdd7e5584b9cbdc5db338dc2e1c"), looks := false }, kinds := [], alts := [], laidByText := true, laidKinds := [.data, .data, .pinned], laidTests := true, laidLooks := .later }
def SettleFormCardSaid : Prop := Claim7.holds Tryd.pinned (.plain (OpenSpec.ofChange settleFormSpec)) settleFormCard

/-- THE TIED CARD OF 'consignorlaw13.SettleMore'. -/
def settleMoreCard : Claim7 := { stood := { row := settleMoreRow, standIns := [], harness := (true, "09094ba115dd630c881303f8bdf0a08c4c8f6bdd7e5584b9cbdc5db338dc2e1c"), looks := false }, kinds := [], alts := [], laidByText := true, laidKinds := [.data, .data, .pinned], laidTests := true, laidLooks := .later }
def SettleMoreCardSaid : Prop := Claim7.holds Tryd.pinned (.plain (OpenSpec.ofChange settleMoreSpec)) settleMoreCard

/-- THE SECOND FORM's CARD OF 'consignorlaw13.SettlePrint'. -/
def settlePrintUptoCard : Claim7 := { stood := { row := settlePrintUptoRow, standIns := [], harness := (true, "09094ba115dd630c881303f8bdf0a08c4c8f6bdd7e5584b9cbdc5db338dc2e1c"), looks := false }, kinds := [], alts := [], laidByText := true, laidKinds := [.data, .data, .pinned], laidTests := true, laidLooks := .later }
def SettlePrintUptoCardSaid : Prop := Claim7.holds Tryd.pinned (.plain (OpenSpec.upto settlePrintSpec)) settlePrintUptoCard

/-- THE SECOND FORM's CARD OF 'consignorlaw13.SettleParse'. -/
def settleParseUptoCard : Claim7 := { stood := { row := settleParseUptoRow, standIns := [], harness := (true, "09094ba115dd630c881303f8bdf0a08c4c8f6bdd7e5584b9cbdc5db338dc2e1c"), looks := false }, kinds := [], alts := [], laidByText := true, laidKinds := [.data, .data, .pinned], laidTests := true, laidLooks := .later }
def SettleParseUptoCardSaid : Prop := Claim7.holds Tryd.pinned (.plain (OpenSpec.upto settleParseSpec)) settleParseUptoCard

/-- THE SECOND FORM's CARD OF 'consignorlaw13.SettleBack'. -/
def settleBackUptoCard : Claim7 := { stood := { row := settleBackUptoRow, standIns := [], harness := (true, "09094ba115dd630c881303f8bdf0a08c4c8f6bdd7e5584b9cbdc5db338dc2e1c"), looks := false }, kinds := [], alts := [], laidByText := true, laidKinds := [.data, .data, .pinned], laidTests := true, laidLooks := .later }
def SettleBackUptoCardSaid : Prop := Claim7.holds Tryd.pinned (.plain (OpenSpec.upto settleBackSpec)) settleBackUptoCard

/-- THE SECOND FORM's CARD OF 'consignorlaw13.SettleForm'. -/
def settleFormUptoCard : Claim7 := { stood := { row := settleFormUptoRow, standIns := [], harness := (true, "09094ba115dd630c881303f8bdf0a08c4c8f6bdd7e5584b9cbdc5db338dc2e1c"), looks := false }, kinds := [], alts := [], laidByText := true, laidKinds := [.data, .data, .pinned], laidTests := true, laidLooks := .later }
def SettleFormUptoCardSaid : Prop := Claim7.holds Tryd.pinned (.plain (OpenSpec.upto settleFormSpec)) settleFormUptoCard

/-- THE SECOND FORM's CARD OF 'consignorlaw13.SettleMore'. -/
def settleMoreUptoCard : Claim7 := { stood := { row := settleMoreUptoRow, standIns := [], harness := (true, "09094ba115dd630c881303f8bdf0a08c4c8f6bdd7e5584b9cbdc5db338dc2e1c"), looks := false }, kinds := [], alts := [], laidByText := true, laidKinds := [.data, .data, .pinned], laidTests := true, laidLooks := .later }
def SettleMoreUptoCardSaid : Prop := Claim7.holds Tryd.pinned (.plain (OpenSpec.upto settleMoreSpec)) settleMoreUptoCard
end Rows
end Go.Proofs.YtjmaldikpdlngaaDoor
