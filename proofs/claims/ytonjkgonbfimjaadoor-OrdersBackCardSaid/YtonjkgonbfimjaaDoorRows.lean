/-
  NARROWER THAN 'FOR EVERY INPUT', by the rows' own cells (each row's printed sentence says how): OrdersTell: laid · OrdersGet: laid · OrdersBack: laid · OrdersForm: laid.
  DERIVED. THE GIVEN ROWS OF THIS SEAT. 4 by the template 'for every input the law returns true; each argument reads behind the call as it read before'; 0 by the template 'total and deterministic' (their statements: YtonjkgonbfimjaaDoorTotals.lean).
  GIVEN WITH THE SEED: the statements are not yours to turn. If you find one false, say at which input.
  Laid BY PROGRAM, IN A SANDBOX (cutbox-rows.mjs): the forced cells as the released guide's own fill.sh prints them over the translation 2332e9158578dbcf… (all of the seat's roots in one cut). By AI agents, Wed Nov 11 2026. No macro, syntax, notation, axiom, sorry.
-/
import Derived.Test.YtonjkgonbfimjaaDoorChecked
import GoSem.Claim
import GoSem.ClaimJoined
import GoSem.ClaimMapViews
import Derived.JoinedTies
import Derived.KernelRfl
namespace Go.Proofs.YtonjkgonbfimjaaDoor
/- THE CELL 'sum', in the pinned program and in every row, IS THE sha256 OF THE DUMP (.gsa) THAT YtonjkgonbfimjaaDoorProg.lean LOADS. Nothing in Lean hashes anything: it is a label: what it is worth is what the hold of that sum in a sandbox is worth. -/
noncomputable def Tryd.pinned : Pinned := { name := "ytonjkgonbfimjaadoor", sum := "2332e9158578dbcf469a3ce9f1212e92a88abf0fdb2044d3df04b57834d54a0c", checked := Tryd.checked }
namespace Rows
def none {H : Type} : Left H := { results := [], args := [] }

/- WHAT THE LISTED PACKAGE-LEVEL VARIABLES READ AS WHEN THE CALL BEGINS. Each datum BY PROGRAM (the guide's laid-datum.mjs) off the statement by which the dump's own 'gosem.cut.vars' lays the variable. In a bare row this is a premise. The card (YtonjkgonbfimjaaDoorCards.lean) ties it to the program's text. -/
def laid_consignor_keys_parties {H : Type} : DataW H := .agg [.lit (.int .i64 1), .lit (.int .i64 0), .lit (.int .i64 2), .lit (.int .i64 1), .lit (.int .i64 0), .lit (.int .i64 2)]

/-- 'consignorlaw11.OrdersTell': WHATEVER THE INPUT: true; the input reads as it did. -/
def ordersTellSpec : ChangeSpec := { name := "ordersTell", fn := fun _ => fun
  | [d1, d2] => { results := [.lit (.bool true)], args := [d1, d2] }
  | _ => none }
def ordersTellRow : OpenClaim := { program := "ytonjkgonbfimjaadoor", sum := "2332e9158578dbcf469a3ce9f1212e92a88abf0fdb2044d3df04b57834d54a0c", func := "consignor/consignorlaw11.OrdersTell", spec := "ordersTell", recurses := true, named := ["consignor/keys.parties"], apart := false, laid := [("consignor/keys.parties", laid_consignor_keys_parties)] }
def OrdersTellSaid : Prop := ordersTellRow.holds Tryd.pinned (OpenSpec.ofChange ordersTellSpec)

/-- ITS FALSE NEIGHBOUR: 'it returns false'. Refute it at one input. -/
def ordersTellWrong : ChangeSpec := { name := "ordersTell", fn := fun _ => fun
  | [d1, d2] => { results := [.lit (.bool false)], args := [d1, d2] }
  | _ => none }
def OrdersTellWrongFalsely : Prop := ordersTellRow.holds Tryd.pinned (OpenSpec.ofChange ordersTellWrong)

/-- 'consignorlaw11.OrdersGet': WHATEVER THE INPUT: true; the input reads as it did. -/
def ordersGetSpec : ChangeSpec := { name := "ordersGet", fn := fun _ => fun
  | [d1, d2] => { results := [.lit (.bool true)], args := [d1, d2] }
  | _ => none }
def ordersGetRow : OpenClaim := { program := "ytonjkgonbfimjaadoor", sum := "2332e9158578dbcf469a3ce9f1212e92a88abf0fdb2044d3df04b57834d54a0c", func := "consignor/consignorlaw11.OrdersGet", spec := "ordersGet", recurses := true, named := ["consignor/keys.parties"], apart := false, laid := [("consignor/keys.parties", laid_consignor_keys_parties)] }
def OrdersGetSaid : Prop := ordersGetRow.holds Tryd.pinned (OpenSpec.ofChange ordersGetSpec)

/-- ITS FALSE NEIGHBOUR: 'it returns false'. Refute it at one input. -/
def ordersGetWrong : ChangeSpec := { name := "ordersGet", fn := fun _ => fun
  | [d1, d2] => { results := [.lit (.bool false)], args := [d1, d2] }
  | _ => none }
def OrdersGetWrongFalsely : Prop := ordersGetRow.holds Tryd.pinned (OpenSpec.ofChange ordersGetWrong)

/-- 'consignorlaw11.OrdersBack': WHATEVER THE INPUT: true; the input reads as it did. -/
def ordersBackSpec : ChangeSpec := { name := "ordersBack", fn := fun _ => fun
  | [d1, d2, d3] => { results := [.lit (.bool true)], args := [d1, d2, d3] }
  | _ => none }
def ordersBackRow : OpenClaim := { program := "ytonjkgonbfimjaadoor", sum := "2332e9158578dbcf469a3ce9f1212e92a88abf0fdb2044d3df04b57834d54a0c", func := "consignor/consignorlaw11.OrdersBack", spec := "ordersBack", named := ["consignor/keys.parties"], apart := false, laid := [("consignor/keys.parties", laid_consignor_keys_parties)] }
def OrdersBackSaid : Prop := ordersBackRow.holds Tryd.pinned (OpenSpec.ofChange ordersBackSpec)

/-- ITS FALSE NEIGHBOUR: 'it returns false'. Refute it at one input. -/
def ordersBackWrong : ChangeSpec := { name := "ordersBack", fn := fun _ => fun
  | [d1, d2, d3] => { results := [.lit (.bool false)], args := [d1, d2, d3] }
  | _ => none }
def OrdersBackWrongFalsely : Prop := ordersBackRow.holds Tryd.pinned (OpenSpec.ofChange ordersBackWrong)

/-- 'consignorlaw11.OrdersForm': WHATEVER THE INPUT: true; the input reads as it did. -/
def ordersFormSpec : ChangeSpec := { name := "ordersForm", fn := fun _ => fun
  | [d] => { results := [.lit (.bool true)], args := [d] }
  | _ => none }
def ordersFormRow : OpenClaim := { program := "ytonjkgonbfimjaadoor", sum := "2332e9158578dbcf469a3ce9f1212e92a88abf0fdb2044d3df04b57834d54a0c", func := "consignor/consignorlaw11.OrdersForm", spec := "ordersForm", named := ["consignor/keys.parties"], apart := false, laid := [("consignor/keys.parties", laid_consignor_keys_parties)] }
def OrdersFormSaid : Prop := ordersFormRow.holds Tryd.pinned (OpenSpec.ofChange ordersFormSpec)

/-- ITS FALSE NEIGHBOUR: 'it returns false'. Refute it at one input. -/
def ordersFormWrong : ChangeSpec := { name := "ordersForm", fn := fun _ => fun
  | [d] => { results := [.lit (.bool false)], args := [d] }
  | _ => none }
def OrdersFormWrongFalsely : Prop := ordersFormRow.holds Tryd.pinned (OpenSpec.ofChange ordersFormWrong)

/- THE SECOND FORM. 'bulk': how many values and letters a reading holds, each counted each time it is reached (what is shared counts as often as it is met; a slice's spare places count too). A statement '..UptoSaid' is the law's where the arguments, and the package variables that the reading takes, are together of bulk at most 1048576: NARROWER than '..Said'. Prove '..Said' where nothing that the law and all that it calls make is longer than what came in: it says more and counts as full. Else prove '..UptoSaid'. A law counts once. -/
mutual
def uptoBulk {H : Type} : DataW H → Nat
  | .lit (.string bytes) => bytes.length + 1
  | .lit _ => 1
  | .nil => 1
  | .ptr d => uptoBulk d + 1
  | .slice elems spare => uptoBulkAll elems + uptoBulkAll spare + 1
  | .agg parts => uptoBulkAll parts + 1
  | .iface _ d => uptoBulk d + 1
  | .map entries => uptoBulkEntries entries + 1
  | .held _ => 1
def uptoBulkAll {H : Type} : List (DataW H) → Nat
  | [] => 0
  | d :: r => uptoBulk d + uptoBulkAll r
def uptoBulkEntries {H : Type} : List (Lit × DataW H) → Nat
  | [] => 0
  | x :: r => uptoBulkEntry x + uptoBulkEntries r
def uptoBulkEntry {H : Type} : Lit × DataW H → Nat
  | (.string bytes, d) => bytes.length + uptoBulk d + 1
  | (_, d) => uptoBulk d + 1
 end
def uptoSmall : (H : Type) → List (DataW H) → Bool := fun _ ds => decide (uptoBulkAll ds ≤ 1048576)
def OpenSpec.upto (s : _root_.Go.ChangeSpec) : _root_.Go.OpenSpec := { _root_.Go.OpenSpec.ofChange s with cond := some uptoSmall }

/-- 'consignorlaw11.OrdersTell', WHERE WHAT IT READS IS OF BULK AT MOST 1048576: true; the input reads as it did. -/
def ordersTellUptoRow : OpenClaim := { program := "ytonjkgonbfimjaadoor", sum := "2332e9158578dbcf469a3ce9f1212e92a88abf0fdb2044d3df04b57834d54a0c", func := "consignor/consignorlaw11.OrdersTell", spec := "ordersTell", recurses := true, named := ["consignor/keys.parties"], apart := false, laid := [("consignor/keys.parties", laid_consignor_keys_parties)], narrowed := true }
def OrdersTellUptoSaid : Prop := ordersTellUptoRow.holds Tryd.pinned (OpenSpec.upto ordersTellSpec)

/-- 'consignorlaw11.OrdersGet', WHERE WHAT IT READS IS OF BULK AT MOST 1048576: true; the input reads as it did. -/
def ordersGetUptoRow : OpenClaim := { program := "ytonjkgonbfimjaadoor", sum := "2332e9158578dbcf469a3ce9f1212e92a88abf0fdb2044d3df04b57834d54a0c", func := "consignor/consignorlaw11.OrdersGet", spec := "ordersGet", recurses := true, named := ["consignor/keys.parties"], apart := false, laid := [("consignor/keys.parties", laid_consignor_keys_parties)], narrowed := true }
def OrdersGetUptoSaid : Prop := ordersGetUptoRow.holds Tryd.pinned (OpenSpec.upto ordersGetSpec)

/-- 'consignorlaw11.OrdersBack', WHERE WHAT IT READS IS OF BULK AT MOST 1048576: true; the input reads as it did. -/
def ordersBackUptoRow : OpenClaim := { program := "ytonjkgonbfimjaadoor", sum := "2332e9158578dbcf469a3ce9f1212e92a88abf0fdb2044d3df04b57834d54a0c", func := "consignor/consignorlaw11.OrdersBack", spec := "ordersBack", named := ["consignor/keys.parties"], apart := false, laid := [("consignor/keys.parties", laid_consignor_keys_parties)], narrowed := true }
def OrdersBackUptoSaid : Prop := ordersBackUptoRow.holds Tryd.pinned (OpenSpec.upto ordersBackSpec)

/-- 'consignorlaw11.OrdersForm', WHERE WHAT IT READS IS OF BULK AT MOST 1048576: true; the input reads as it did. -/
def ordersFormUptoRow : OpenClaim := { program := "ytonjkgonbfimjaadoor", sum := "2332e9158578dbcf469a3ce9f1212e92a88abf0fdb2044d3df04b57834d54a0c", func := "consignor/consignorlaw11.OrdersForm", spec := "ordersForm", named := ["consignor/keys.parties"], apart := false, laid := [("consignor/keys.parties", laid_consignor_keys_parties)], narrowed := true }
def OrdersFormUptoSaid : Prop := ordersFormUptoRow.holds Tryd.pinned (OpenSpec.upto ordersFormSpec)

end Rows
end Go.Proofs.YtonjkgonbfimjaaDoor
