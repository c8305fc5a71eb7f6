/-
  NARROWER THAN 'FOR EVERY INPUT', by the rows' own cells (each row's printed sentence says how): KeysTell: laid · KeysGet: laid · KeysBack: laid · KeysUndo: laid.
  DERIVED. THE GIVEN ROWS OF THIS SEAT. 4 by the template 'for every input the law returns true; each argument reads behind the call as it read before'; 0 by the template 'total and deterministic' (their statements: YtkjjadacpbbnhaaDoorTotals.lean).
  GIVEN WITH THE SEED: the statements are not yours to turn. If you find one false, say at which input.
  Laid BY PROGRAM, IN A SANDBOX (cutbox-rows.mjs): the forced cells as the released guide's own fill.sh prints them over the translation f55cb0636c14cd96… (all of the seat's roots in one cut). By AI agents, Wed Nov 11 2026. No macro, syntax, notation, axiom, sorry.
-/
import Derived.Test.YtkjjadacpbbnhaaDoorChecked
import GoSem.Claim
import GoSem.ClaimJoined
import GoSem.ClaimMapViews
import Derived.JoinedTies
import Derived.KernelRfl
namespace Go.Proofs.YtkjjadacpbbnhaaDoor
/- THE CELL 'sum', in the pinned program and in every row, IS THE sha256 OF THE DUMP (.gsa) THAT YtkjjadacpbbnhaaDoorProg.lean LOADS. Nothing in Lean hashes anything: it is a label: what it is worth is what the hold of that sum in a sandbox is worth. -/
noncomputable def Tryd.pinned : Pinned := { name := "ytkjjadacpbbnhaadoor", sum := "f55cb0636c14cd969aab5461f1396377b69b8694e67fb9edb2b6a3cb153b161d", checked := Tryd.checked }
namespace Rows
def none {H : Type} : Left H := { results := [], args := [] }

/- WHAT THE LISTED PACKAGE-LEVEL VARIABLES READ AS WHEN THE CALL BEGINS. Each datum BY PROGRAM (the guide's laid-datum.mjs) off the statement by which the dump's own 'gosem.cut.vars' lays the variable. In a bare row this is a premise. The card (YtkjjadacpbbnhaaDoorCards.lean) ties it to the program's text. -/
def laid_consignor_keys_parties {H : Type} : DataW H := .agg [.lit (.int .i64 1), .lit (.int .i64 0), .lit (.int .i64 2), .lit (.int .i64 1), .lit (.int .i64 0), .lit (.int .i64 2)]

/-- 'consignorlaw10.KeysTell': WHATEVER THE INPUT: true; the input reads as it did. -/
def keysTellSpec : ChangeSpec := { name := "keysTell", fn := fun _ => fun
  | [d1, d2, d3] => { results := [.lit (.bool true)], args := [d1, d2, d3] }
  | _ => none }
def keysTellRow : OpenClaim := { program := "ytkjjadacpbbnhaadoor", sum := "f55cb0636c14cd969aab5461f1396377b69b8694e67fb9edb2b6a3cb153b161d", func := "consignor/consignorlaw10.KeysTell", spec := "keysTell", inPlace := ["internal/bytealg.IndexByteString", "internal/bytealg.IndexString"], named := ["consignor/keys.parties", "internal/bytealg.MaxLen"], apart := false, laid := [("consignor/keys.parties", laid_consignor_keys_parties)] }
def KeysTellSaid : Prop := keysTellRow.holds Tryd.pinned (OpenSpec.ofChange keysTellSpec)

/-- ITS FALSE NEIGHBOUR: 'it returns false'. Refute it at one input. -/
def keysTellWrong : ChangeSpec := { name := "keysTell", fn := fun _ => fun
  | [d1, d2, d3] => { results := [.lit (.bool false)], args := [d1, d2, d3] }
  | _ => none }
def KeysTellWrongFalsely : Prop := keysTellRow.holds Tryd.pinned (OpenSpec.ofChange keysTellWrong)

/-- 'consignorlaw10.KeysGet': WHATEVER THE INPUT: true; the input reads as it did. -/
def keysGetSpec : ChangeSpec := { name := "keysGet", fn := fun _ => fun
  | [d] => { results := [.lit (.bool true)], args := [d] }
  | _ => none }
def keysGetRow : OpenClaim := { program := "ytkjjadacpbbnhaadoor", sum := "f55cb0636c14cd969aab5461f1396377b69b8694e67fb9edb2b6a3cb153b161d", func := "consignor/consignorlaw10.KeysGet", spec := "keysGet", inPlace := ["internal/bytealg.IndexByteString", "internal/bytealg.IndexString"], named := ["internal/bytealg.MaxLen", "consignor/keys.parties"], apart := false, laid := [("consignor/keys.parties", laid_consignor_keys_parties)] }
def KeysGetSaid : Prop := keysGetRow.holds Tryd.pinned (OpenSpec.ofChange keysGetSpec)

/-- ITS FALSE NEIGHBOUR: 'it returns false'. Refute it at one input. -/
def keysGetWrong : ChangeSpec := { name := "keysGet", fn := fun _ => fun
  | [d] => { results := [.lit (.bool false)], args := [d] }
  | _ => none }
def KeysGetWrongFalsely : Prop := keysGetRow.holds Tryd.pinned (OpenSpec.ofChange keysGetWrong)

/-- 'consignorlaw10.KeysBack': WHATEVER THE INPUT: true; the input reads as it did. -/
def keysBackSpec : ChangeSpec := { name := "keysBack", fn := fun _ => fun
  | [d1, d2] => { results := [.lit (.bool true)], args := [d1, d2] }
  | _ => none }
def keysBackRow : OpenClaim := { program := "ytkjjadacpbbnhaadoor", sum := "f55cb0636c14cd969aab5461f1396377b69b8694e67fb9edb2b6a3cb153b161d", func := "consignor/consignorlaw10.KeysBack", spec := "keysBack", inPlace := ["internal/bytealg.IndexByteString", "internal/bytealg.IndexString"], named := ["internal/bytealg.MaxLen", "consignor/keys.parties"], apart := false, laid := [("consignor/keys.parties", laid_consignor_keys_parties)] }
def KeysBackSaid : Prop := keysBackRow.holds Tryd.pinned (OpenSpec.ofChange keysBackSpec)

/-- ITS FALSE NEIGHBOUR: 'it returns false'. Refute it at one input. -/
def keysBackWrong : ChangeSpec := { name := "keysBack", fn := fun _ => fun
  | [d1, d2] => { results := [.lit (.bool false)], args := [d1, d2] }
  | _ => none }
def KeysBackWrongFalsely : Prop := keysBackRow.holds Tryd.pinned (OpenSpec.ofChange keysBackWrong)

/-- 'consignorlaw10.KeysUndo': WHATEVER THE INPUT: true; the input reads as it did. -/
def keysUndoSpec : ChangeSpec := { name := "keysUndo", fn := fun _ => fun
  | [d] => { results := [.lit (.bool true)], args := [d] }
  | _ => none }
def keysUndoRow : OpenClaim := { program := "ytkjjadacpbbnhaadoor", sum := "f55cb0636c14cd969aab5461f1396377b69b8694e67fb9edb2b6a3cb153b161d", func := "consignor/consignorlaw10.KeysUndo", spec := "keysUndo", inPlace := ["internal/bytealg.IndexByteString", "internal/bytealg.IndexString"], named := ["consignor/keys.parties", "internal/bytealg.MaxLen"], apart := false, laid := [("consignor/keys.parties", laid_consignor_keys_parties)] }
def KeysUndoSaid : Prop := keysUndoRow.holds Tryd.pinned (OpenSpec.ofChange keysUndoSpec)

/-- ITS FALSE NEIGHBOUR: 'it returns false'. Refute it at one input. -/
def keysUndoWrong : ChangeSpec := { name := "keysUndo", fn := fun _ => fun
  | [d] => { results := [.lit (.bool false)], args := [d] }
  | _ => none }
def KeysUndoWrongFalsely : Prop := keysUndoRow.holds Tryd.pinned (OpenSpec.ofChange keysUndoWrong)

/- THE SECOND FORM. 'bulk': how many values and letters a reading holds, each counted each time it is reached (what is shared counts as often as it is met; a slice's spare places count too). A statement '..UptoSaid' is the law's where the arguments, and the package variables that the reading takes, are together of bulk at most 1048576: NARROWER than '..Said'. Prove '..Said' where nothing that the law and all that it calls make is longer than what came in: it says more and counts as full. Else prove '..UptoSaid'. A law counts once. -/
mutual
def uptoBulk {H : Type} : DataW H → Nat
  | .lit (.string bytes) => bytes.length + 1
  | .lit _ => 1
  | .nil => 1
  | .ptr d => uptoBulk d + 1
  | .slice elems spare => uptoBulkAll elems + uptoBulkAll spare + 1
  | .agg parts => uptoBulkAll parts + 1
  | .iface _ d => uptoBulk d + 1
  | .map entries => uptoBulkEntries entries + 1
  | .held _ => 1
def uptoBulkAll {H : Type} : List (DataW H) → Nat
  | [] => 0
  | d :: r => uptoBulk d + uptoBulkAll r
def uptoBulkEntries {H : Type} : List (Lit × DataW H) → Nat
  | [] => 0
  | x :: r => uptoBulkEntry x + uptoBulkEntries r
def uptoBulkEntry {H : Type} : Lit × DataW H → Nat
  | (.string bytes, d) => bytes.length + uptoBulk d + 1
  | (_, d) => uptoBulk d + 1
 end
def uptoSmall : (H : Type) → List (DataW H) → Bool := fun _ ds => decide (uptoBulkAll ds ≤ 1048576)
def OpenSpec.upto (s : _root_.Go.ChangeSpec) : _root_.Go.OpenSpec := { _root_.Go.OpenSpec.ofChange s with cond := some uptoSmall }

/-- 'consignorlaw10.KeysTell', WHERE WHAT IT READS IS OF BULK AT MOST 1048576: true; the input reads as it did. -/
def keysTellUptoRow : OpenClaim := { program := "ytkjjadacpbbnhaadoor", sum := "f55cb0636c14cd969aab5461f1396377b69b8694e67fb9edb2b6a3cb153b161d", func := "consignor/consignorlaw10.KeysTell", spec := "keysTell", inPlace := ["internal/bytealg.IndexByteString", "internal/bytealg.IndexString"], named := ["consignor/keys.parties", "internal/bytealg.MaxLen"], apart := false, laid := [("consignor/keys.parties", laid_consignor_keys_parties)], narrowed := true }
def KeysTellUptoSaid : Prop := keysTellUptoRow.holds Tryd.pinned (OpenSpec.upto keysTellSpec)

/-- 'consignorlaw10.KeysGet', WHERE WHAT IT READS IS OF BULK AT MOST 1048576: true; the input reads as it did. -/
def keysGetUptoRow : OpenClaim := { program := "ytkjjadacpbbnhaadoor", sum := "f55cb0636c14cd969aab5461f1396377b69b8694e67fb9edb2b6a3cb153b161d", func := "consignor/consignorlaw10.KeysGet", spec := "keysGet", inPlace := ["internal/bytealg.IndexByteString", "internal/bytealg.IndexString"], named := ["internal/bytealg.MaxLen", "consignor/keys.parties"], apart := false, laid := [("consignor/keys.parties", laid_consignor_keys_parties)], narrowed := true }
def KeysGetUptoSaid : Prop := keysGetUptoRow.holds Tryd.pinned (OpenSpec.upto keysGetSpec)

/-- 'consignorlaw10.KeysBack', WHERE WHAT IT READS IS OF BULK AT MOST 1048576: true; the input reads as it did. -/
def keysBackUptoRow : OpenClaim := { program := "ytkjjadacpbbnhaadoor", sum := "f55cb0636c14cd969aab5461f1396377b69b8694e67fb9edb2b6a3cb153b161d", func := "consignor/consignorlaw10.KeysBack", spec := "keysBack", inPlace := ["internal/bytealg.IndexByteString", "internal/bytealg.IndexString"], named := ["internal/bytealg.MaxLen", "consignor/keys.parties"], apart := false, laid := [("consignor/keys.parties", laid_consignor_keys_parties)], narrowed := true }
def KeysBackUptoSaid : Prop := keysBackUptoRow.holds Tryd.pinned (OpenSpec.upto keysBackSpec)

/-- 'consignorlaw10.KeysUndo', WHERE WHAT IT READS IS OF BULK AT MOST 1048576: true; the input reads as it did. -/
def keysUndoUptoRow : OpenClaim := { program := "ytkjjadacpbbnhaadoor", sum := "f55cb0636c14cd969aab5461f1396377b69b8694e67fb9edb2b6a3cb153b161d", func := "consignor/consignorlaw10.KeysUndo", spec := "keysUndo", inPlace := ["internal/bytealg.IndexByteString", "internal/bytealg.IndexString"], named := ["consignor/keys.parties", "internal/bytealg.MaxLen"], apart := false, laid := [("consignor/keys.parties", laid_consignor_keys_parties)], narrowed := true }
def KeysUndoUptoSaid : Prop := keysUndoUptoRow.holds Tryd.pinned (OpenSpec.upto keysUndoSpec)

end Rows
end Go.Proofs.YtkjjadacpbbnhaaDoor
