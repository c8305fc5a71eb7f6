/-
  NARROWER THAN 'FOR EVERY INPUT', by the rows' own cells (each row's printed sentence says how): RowsTell: laid · RowsGet: laid · RowsBack: laid · RowsFew: laid · SettleMore: laid.
  DERIVED. THE GIVEN ROWS OF THIS SEAT. 5 by the template 'for every input the law returns true; each argument reads behind the call as it read before'; 0 by the template 'total and deterministic' (their statements: YtomonhghioamfaaDoorTotals.lean).
  GIVEN WITH THE SEED: the statements are not yours to turn. If you find one false, say at which input.
  Laid BY PROGRAM, IN A SANDBOX (cutbox-rows.mjs): the forced cells as the released guide's own fill.sh prints them over the translation d9b31b8eac91e95d… (all of the seat's roots in one cut). By AI agents, Wed Nov 11 2026. No macro, syntax, notation, axiom, sorry.
-/
import Derived.Test.YtomonhghioamfaaDoorChecked
import GoSem.PinnedTables
import GoSem.Claim
import GoSem.ClaimJoined
import GoSem.ClaimMapViews
import Derived.JoinedTies
import Derived.KernelRfl
namespace Go.Proofs.YtomonhghioamfaaDoor
/- THE CELL 'sum', in the pinned program and in every row, IS THE sha256 OF THE DUMP (.gsa) THAT YtomonhghioamfaaDoorProg.lean LOADS. Nothing in Lean hashes anything: it is a label: what it is worth is what the hold of that sum in a sandbox is worth. -/
noncomputable def Tryd.pinned : Pinned := { name := "ytomonhghioamfaadoor", sum := "d9b31b8eac91e95d89663ead088cc88490b0931ecd88b1d1b0c15e494196881e", checked := Tryd.checked }
namespace Rows
def none {H : Type} : Left H := { results := [], args := [] }

/- WHAT THE LISTED PACKAGE-LEVEL VARIABLES READ AS WHEN THE CALL BEGINS. Each datum BY PROGRAM (the guide's laid-datum.mjs) off the statement by which the dump's own 'gosem.cut.vars' lays the variable. In a bare row this is a premise. The card (YtomonhghioamfaaDoorCards.lean) ties it to the program's text. -/
def laid_consignor_keys_parties {H : Type} : DataW H := .agg [.lit (.int .i64 1), .lit (.int .i64 0), .lit (.int .i64 2), .lit (.int .i64 1), .lit (.int .i64 0), .lit (.int .i64 2)]
def laid_unicode_utf8_acceptRanges {H : Type} : DataW H := .agg [.agg [.lit (.int .u8 128), .lit (.int .u8 191)], .agg [.lit (.int .u8 160), .lit (.int .u8 191)], .agg [.lit (.int .u8 128), .lit (.int .u8 159)], .agg [.lit (.int .u8 144), .lit (.int .u8 191)], .agg [.lit (.int .u8 128), .lit (.int .u8 143)], .agg [.lit (.int .u8 0), .lit (.int .u8 0)], .agg [.lit (.int .u8 0), .lit (.int .u8 0)], .agg [.lit (.int .u8 0), .lit (.int .u8 0)], .agg [.lit (.int .u8 0), .lit (.int .u8 0)], .agg [.lit (.int .u8 0), .lit (.int .u8 0)], .agg [.lit (.int .u8 0), .lit (.int .u8 0)], .agg [.lit (.int .u8 0), .lit (.int .u8 0)], .agg [.lit (.int .u8 0), .lit (.int .u8 0)], .agg [.lit (.int .u8 0), .lit (.int .u8 0)], .agg [.lit (.int .u8 0), .lit (.int .u8 0)], .agg [.lit (.int .u8 0), .lit (.int .u8 0)]]
/-- One of Go's own tables, pinned by name: the form's constant. -/
def laid_unicode_utf8_first : DataW Unit := Go.Pinned.utf8First

/-- 'consignorlaw12.RowsTell': WHATEVER THE INPUT: true; the input reads as it did. -/
def rowsTellSpec : ChangeSpec := { name := "rowsTell", fn := fun _ => fun
  | [d1, d2, d3] => { results := [.lit (.bool true)], args := [d1, d2, d3] }
  | _ => none }
def rowsTellRow : OpenClaim := { program := "ytomonhghioamfaadoor", sum := "d9b31b8eac91e95d89663ead088cc88490b0931ecd88b1d1b0c15e494196881e", func := "consignor/consignorlaw12.RowsTell", spec := "rowsTell", inPlace := ["internal/abi.NoEscape"], recurses := true, named := ["consignor/keys.parties"], apart := false, laid := [("consignor/keys.parties", laid_consignor_keys_parties)] }
def RowsTellSaid : Prop := rowsTellRow.holds Tryd.pinned (OpenSpec.ofChange rowsTellSpec)

/-- ITS FALSE NEIGHBOUR: 'it returns false'. Refute it at one input. -/
def rowsTellWrong : ChangeSpec := { name := "rowsTell", fn := fun _ => fun
  | [d1, d2, d3] => { results := [.lit (.bool false)], args := [d1, d2, d3] }
  | _ => none }
def RowsTellWrongFalsely : Prop := rowsTellRow.holds Tryd.pinned (OpenSpec.ofChange rowsTellWrong)

/-- 'consignorlaw12.RowsGet': WHATEVER THE INPUT: true; the input reads as it did. -/
def rowsGetSpec : ChangeSpec := { name := "rowsGet", fn := fun _ => fun
  | [d1, d2, d3] => { results := [.lit (.bool true)], args := [d1, d2, d3] }
  | _ => none }
def rowsGetRow : OpenClaim := { program := "ytomonhghioamfaadoor", sum := "d9b31b8eac91e95d89663ead088cc88490b0931ecd88b1d1b0c15e494196881e", func := "consignor/consignorlaw12.RowsGet", spec := "rowsGet", inPlace := ["internal/abi.NoEscape"], recurses := true, named := ["consignor/keys.parties"], apart := false, laid := [("consignor/keys.parties", laid_consignor_keys_parties)] }
def RowsGetSaid : Prop := rowsGetRow.holds Tryd.pinned (OpenSpec.ofChange rowsGetSpec)

/-- ITS FALSE NEIGHBOUR: 'it returns false'. Refute it at one input. -/
def rowsGetWrong : ChangeSpec := { name := "rowsGet", fn := fun _ => fun
  | [d1, d2, d3] => { results := [.lit (.bool false)], args := [d1, d2, d3] }
  | _ => none }
def RowsGetWrongFalsely : Prop := rowsGetRow.holds Tryd.pinned (OpenSpec.ofChange rowsGetWrong)

/-- 'consignorlaw12.RowsBack': WHATEVER THE INPUT: true; the input reads as it did. -/
def rowsBackSpec : ChangeSpec := { name := "rowsBack", fn := fun _ => fun
  | [d1, d2, d3] => { results := [.lit (.bool true)], args := [d1, d2, d3] }
  | _ => none }
def rowsBackRow : OpenClaim := { program := "ytomonhghioamfaadoor", sum := "d9b31b8eac91e95d89663ead088cc88490b0931ecd88b1d1b0c15e494196881e", func := "consignor/consignorlaw12.RowsBack", spec := "rowsBack", inPlace := ["internal/abi.NoEscape"], named := ["consignor/keys.parties"], apart := false, laid := [("consignor/keys.parties", laid_consignor_keys_parties)] }
def RowsBackSaid : Prop := rowsBackRow.holds Tryd.pinned (OpenSpec.ofChange rowsBackSpec)

/-- ITS FALSE NEIGHBOUR: 'it returns false'. Refute it at one input. -/
def rowsBackWrong : ChangeSpec := { name := "rowsBack", fn := fun _ => fun
  | [d1, d2, d3] => { results := [.lit (.bool false)], args := [d1, d2, d3] }
  | _ => none }
def RowsBackWrongFalsely : Prop := rowsBackRow.holds Tryd.pinned (OpenSpec.ofChange rowsBackWrong)

/-- 'consignorlaw12.RowsFew': WHATEVER THE INPUT: true; the input reads as it did. -/
def rowsFewSpec : ChangeSpec := { name := "rowsFew", fn := fun _ => fun
  | [d1, d2, d3] => { results := [.lit (.bool true)], args := [d1, d2, d3] }
  | _ => none }
def rowsFewRow : OpenClaim := { program := "ytomonhghioamfaadoor", sum := "d9b31b8eac91e95d89663ead088cc88490b0931ecd88b1d1b0c15e494196881e", func := "consignor/consignorlaw12.RowsFew", spec := "rowsFew", inPlace := ["internal/abi.NoEscape"], named := ["consignor/keys.parties"], apart := false, laid := [("consignor/keys.parties", laid_consignor_keys_parties)] }
def RowsFewSaid : Prop := rowsFewRow.holds Tryd.pinned (OpenSpec.ofChange rowsFewSpec)

/-- ITS FALSE NEIGHBOUR: 'it returns false'. Refute it at one input. -/
def rowsFewWrong : ChangeSpec := { name := "rowsFew", fn := fun _ => fun
  | [d1, d2, d3] => { results := [.lit (.bool false)], args := [d1, d2, d3] }
  | _ => none }
def RowsFewWrongFalsely : Prop := rowsFewRow.holds Tryd.pinned (OpenSpec.ofChange rowsFewWrong)

/-- 'consignorlaw13.SettleMore': WHATEVER THE INPUT: true; the input reads as it did. -/
def settleMoreSpec : ChangeSpec := { name := "settleMore", fn := fun _ => fun
  | [d1, d2, d3] => { results := [.lit (.bool true)], args := [d1, d2, d3] }
  | _ => none }
def settleMoreRow : OpenClaim := { program := "ytomonhghioamfaadoor", sum := "d9b31b8eac91e95d89663ead088cc88490b0931ecd88b1d1b0c15e494196881e", func := "consignor/consignorlaw13.SettleMore", spec := "settleMore", inPlace := ["internal/abi.NoEscape", "internal/bytealg.MakeNoZero", "internal/bytealg.IndexByteString", "internal/bytealg.IndexString"], unfollowed := true, recurses := true, named := ["consignor/keys.parties", "internal/bytealg.MaxLen", "unicode/utf8.first", "unicode/utf8.acceptRanges"], apart := false, laid := [("unicode/utf8.acceptRanges", laid_unicode_utf8_acceptRanges), ("consignor/keys.parties", laid_consignor_keys_parties), ("unicode/utf8.first", laid_unicode_utf8_first)] }
def SettleMoreSaid : Prop := settleMoreRow.holds Tryd.pinned (OpenSpec.ofChange settleMoreSpec)

/-- ITS FALSE NEIGHBOUR: 'it returns false'. Refute it at one input. -/
def settleMoreWrong : ChangeSpec := { name := "settleMore", fn := fun _ => fun
  | [d1, d2, d3] => { results := [.lit (.bool false)], args := [d1, d2, d3] }
  | _ => none }
def SettleMoreWrongFalsely : Prop := settleMoreRow.holds Tryd.pinned (OpenSpec.ofChange settleMoreWrong)

/- THE SECOND FORM. 'bulk': how many values and letters a reading holds, each counted each time it is reached (what is shared counts as often as it is met; a slice's spare places count too). A statement '..UptoSaid' is the law's where the arguments, and the package variables that the reading takes, are together of bulk at most 1048576: NARROWER than '..Said'. Prove '..Said' where nothing that the law and all that it calls make is longer than what came in: it says more and counts as full. Else prove '..UptoSaid'. A law counts once. -/
mutual
def uptoBulk {H : Type} : DataW H → Nat
  | .lit (.string bytes) => bytes.length + 1
  | .lit _ => 1
  | .nil => 1
  | .ptr d => uptoBulk d + 1
  | .slice elems spare => uptoBulkAll elems + uptoBulkAll spare + 1
  | .agg parts => uptoBulkAll parts + 1
  | .iface _ d => uptoBulk d + 1
  | .map entries => uptoBulkEntries entries + 1
  | .held _ => 1
def uptoBulkAll {H : Type} : List (DataW H) → Nat
  | [] => 0
  | d :: r => uptoBulk d + uptoBulkAll r
def uptoBulkEntries {H : Type} : List (Lit × DataW H) → Nat
  | [] => 0
  | x :: r => uptoBulkEntry x + uptoBulkEntries r
def uptoBulkEntry {H : Type} : Lit × DataW H → Nat
  | (.string bytes, d) => bytes.length + uptoBulk d + 1
  | (_, d) => uptoBulk d + 1
 end
def uptoSmall : (H : Type) → List (DataW H) → Bool := fun _ ds => decide (uptoBulkAll ds ≤ 1048576)
def OpenSpec.upto (s : _root_.Go.ChangeSpec) : _root_.Go.OpenSpec := { _root_.Go.OpenSpec.ofChange s with cond := some uptoSmall }

/-- 'consignorlaw12.RowsTell', WHERE WHAT IT READS IS OF BULK AT MOST 1048576: true; the input reads as it did. -/
def rowsTellUptoRow : OpenClaim := { program := "ytomonhghioamfaadoor", sum := "d9b31b8eac91e95d89663ead088cc88490b0931ecd88b1d1b0c15e494196881e", func := "consignor/consignorlaw12.RowsTell", spec := "rowsTell", inPlace := ["internal/abi.NoEscape"], recurses := true, named := ["consignor/keys.parties"], apart := false, laid := [("consignor/keys.parties", laid_consignor_keys_parties)], narrowed := true }
def RowsTellUptoSaid : Prop := rowsTellUptoRow.holds Tryd.pinned (OpenSpec.upto rowsTellSpec)

/-- 'consignorlaw12.RowsGet', WHERE WHAT IT READS IS OF BULK AT MOST 1048576: true; the input reads as it did. -/
def rowsGetUptoRow : OpenClaim := { program := "ytomonhghioamfaadoor", sum := "d9b31b8eac91e95d89663ead088cc88490b0931ecd88b1d1b0c15e494196881e", func := "consignor/consignorlaw12.RowsGet", spec := "rowsGet", inPlace := ["internal/abi.NoEscape"], recurses := true, named := ["consignor/keys.parties"], apart := false, laid := [("consignor/keys.parties", laid_consignor_keys_parties)], narrowed := true }
def RowsGetUptoSaid : Prop := rowsGetUptoRow.holds Tryd.pinned (OpenSpec.upto rowsGetSpec)

/-- 'consignorlaw12.RowsBack', WHERE WHAT IT READS IS OF BULK AT MOST 1048576: true; the input reads as it did. -/
def rowsBackUptoRow : OpenClaim := { program := "ytomonhghioamfaadoor", sum := "d9b31b8eac91e95d89663ead088cc88490b0931ecd88b1d1b0c15e494196881e", func := "consignor/consignorlaw12.RowsBack", spec := "rowsBack", inPlace := ["internal/abi.NoEscape"], named := ["consignor/keys.parties"], apart := false, laid := [("consignor/keys.parties", laid_consignor_keys_parties)], narrowed := true }
def RowsBackUptoSaid : Prop := rowsBackUptoRow.holds Tryd.pinned (OpenSpec.upto rowsBackSpec)

/-- 'consignorlaw12.RowsFew', WHERE WHAT IT READS IS OF BULK AT MOST 1048576: true; the input reads as it did. -/
def rowsFewUptoRow : OpenClaim := { program := "ytomonhghioamfaadoor", sum := "d9b31b8eac91e95d89663ead088cc88490b0931ecd88b1d1b0c15e494196881e", func := "consignor/consignorlaw12.RowsFew", spec := "rowsFew", inPlace := ["internal/abi.NoEscape"], named := ["consignor/keys.parties"], apart := false, laid := [("consignor/keys.parties", laid_consignor_keys_parties)], narrowed := true }
def RowsFewUptoSaid : Prop := rowsFewUptoRow.holds Tryd.pinned (OpenSpec.upto rowsFewSpec)

/-- 'consignorlaw13.SettleMore', WHERE WHAT IT READS IS OF BULK AT MOST 1048576: true; the input reads as it did. -/
def settleMoreUptoRow : OpenClaim := { program := "ytomonhghioamfaadoor", sum := "d9b31b8eac91e95d89663ead088cc88490b0931ecd88b1d1b0c15e494196881e", func := "consignor/consignorlaw13.SettleMore", spec := "settleMore", inPlace := ["internal/abi.NoEscape", "internal/bytealg.MakeNoZero", "internal/bytealg.IndexByteString", "internal/bytealg.IndexString"], unfollowed := true, recurses := true, named := ["consignor/keys.parties", "internal/bytealg.MaxLen", "unicode/utf8.first", "unicode/utf8.acceptRanges"], apart := false, laid := [("unicode/utf8.acceptRanges", laid_unicode_utf8_acceptRanges), ("consignor/keys.parties", laid_consignor_keys_parties), ("unicode/utf8.first", laid_unicode_utf8_first)], narrowed := true }
def SettleMoreUptoSaid : Prop := settleMoreUptoRow.holds Tryd.pinned (OpenSpec.upto settleMoreSpec)

end Rows
end Go.Proofs.YtomonhghioamfaaDoor
