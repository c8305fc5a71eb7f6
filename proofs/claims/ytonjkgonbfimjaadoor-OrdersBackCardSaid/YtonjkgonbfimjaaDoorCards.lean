/-
  DERIVED. GIVEN WITH THE SEED: THE CARDS: each row of YtonjkgonbfimjaaDoorRows.lean that lists a variable, with what it lists TIED to the program's text (the seventh form; the later family's looks); each row that meets fmt, with fmt's text TOLD by the authors' own Lean function (tested against real Go, not proved from fmt's source: count such statements apart). THE CARD IS WHAT COUNTS. Prove the row's statement (the work); the ties are given (YtonjkgonbfimjaaDoorTie.lean); close each card by the builder's one call (the guide's Derived/Test/ToyasCard.lean, 'card_holds'). Laid BY PROGRAM, IN A SANDBOX (cutbox-door.mjs). By AI agents, Wed Nov 11 2026. No macro, syntax, notation, axiom, sorry.
-/
import Derived.Test.YtonjkgonbfimjaaDoorRows
import GoSem.ClaimSeven
namespace Go.Proofs.YtonjkgonbfimjaaDoor
namespace Rows

/-- THE TIED CARD OF 'consignorlaw11.OrdersTell'. -/
def ordersTellCard : Claim7 := { stood := { row := ordersTellRow, standIns := [], harness := (true, "d7347e78ca7e465f866152c7b089713e99d1fb12a8875ce52d6ecc7543c75a01"), looks := false }, kinds := [], alts := [], laidByText := true, laidKinds := [.data], laidTests := true, laidLooks := .later }
def OrdersTellCardSaid : Prop := Claim7.holds Tryd.pinned (.plain (OpenSpec.ofChange ordersTellSpec)) ordersTellCard

/-- THE TIED CARD OF 'consignorlaw11.OrdersGet'. -/
def ordersGetCard : Claim7 := { stood := { row := ordersGetRow, standIns := [], harness := (true, "d7347e78ca7e465f866152c7b089713e99d1fb12a8875ce52d6ecc7543c75a01"), looks := false }, kinds := [], alts := [], laidByText := true, laidKinds := [.data], laidTests := true, laidLooks := .later }
def OrdersGetCardSaid : Prop := Claim7.holds Tryd.pinned (.plain (OpenSpec.ofChange ordersGetSpec)) ordersGetCard

/-- THE TIED CARD OF 'consignorlaw11.OrdersBack'. -/
def ordersBackCard : Claim7 := { stood := { row := ordersBackRow, standIns := [], harness := (true, "d7347e78ca7e465f866152c7b089713e99d1fb12a8875ce52d6ecc7543c75a01"), looks := false }, kinds := [], alts := [], laidByText := true, laidKinds := [.data], laidTests := true, laidLooks := .later }
def OrdersBackCardSaid : Prop := Claim7.holds Tryd.pinned (.plain (OpenSpec.ofChange ordersBackSpec)) ordersBackCard

/-- THE TIED CARD OF 'consignorlaw11.OrdersForm'. -/
def ordersFormCard : Claim7 := { stood := { row := ordersFormRow, standIns := [], harness := (true, "d7347e78ca7e465f866152c7b089713e99d1fb12a8875ce52d6ecc7543c75a01"), looks := false }, kinds := [], alts := [], laidByText := true, laidKinds := [.data], laidTests := true, laidLooks := .later }
def OrdersFormCardSaid : Prop := Claim7.holds Tryd.pinned (.plain (OpenSpec.ofChange ordersFormSpec)) ordersFormCard

/-- THE SECOND FORM's CARD OF 'consignorlaw11.OrdersTell'. -/
def ordersTellUptoCard : Claim7 := { stood := { row := ordersTellUptoRow, standIns := [], harness := (true, "d7347e78ca7e465f866152c7b089713e99d1fb12a8875ce52d6ecc7543c75a01"), looks := false }, kinds := [], alts := [], laidByText := true, laidKinds := [.data], laidTests := true, laidLooks := .later }
def OrdersTellUptoCardSaid : Prop := Claim7.holds Tryd.pinned (.plain (OpenSpec.upto ordersTellSpec)) ordersTellUptoCard

/-- THE SECOND FORM's CARD OF 'consignorlaw11.OrdersGet'. -/
def ordersGetUptoCard : Claim7 := { stood := { row := ordersGetUptoRow, standIns := [], harness := (true, "d7347e78ca7e465f866152c7b089713e99d1fb12a8875ce52d6ecc7543c75a01"), looks := false }, kinds := [], alts := [], laidByText := true, laidKinds := [.data], laidTests := true, laidLooks := .later }
def OrdersGetUptoCardSaid : Prop := Claim7.holds Tryd.pinned (.plain (OpenSpec.upto ordersGetSpec)) ordersGetUptoCard

/-- THE SECOND FORM's CARD OF 'consignorlaw11.OrdersBack'. -/
def ordersBackUptoCard : Claim7 := { stood := { row := ordersBackUptoRow, standIns := [], harness := (true, "d7347e78ca7e465f866152c7b089713e99d1fb12a8875ce52d6ecc7543c75a01"), looks := false }, kinds := [], alts := [], laidByText := true, laidKinds := [.data], laidTests := true, laidLooks := .later }
def OrdersBackUptoCardSaid : Prop := Claim7.holds Tryd.pinned (.plain (OpenSpec.upto ordersBackSpec)) ordersBackUptoCard

/-- THE SECOND FORM's CARD OF 'consignorlaw11.OrdersForm'. -/
def ordersFormUptoCard : Claim7 := { stood := { row := ordersFormUptoRow, standIns := [], harness := (true, "d7347e78ca7e465f866152c7b089713e99d1fb12a8875ce52d6ecc7543c75a01"), looks := false }, kinds := [], alts := [], laidByText := true, laidKinds := [.data], laidTests := true, laidLooks := .later }
def OrdersFormUptoCardSaid : Prop := Claim7.holds Tryd.pinned (.plain (OpenSpec.upto ordersFormSpec)) ordersFormUptoCard
end Rows
end Go.Proofs.YtonjkgonbfimjaaDoor
