/-
  NARROWER THAN 'FOR EVERY INPUT', by the rows' own cells (each row's printed sentence says how): ManifestPrint: laid · ManifestParse: laid · ManifestCells: laid · ManifestBack: laid · ManifestForm: laid · ManifestTotal: laid.
  DERIVED. THE GIVEN ROWS OF THIS SEAT. 6 by the template 'for every input the law returns true; each argument reads behind the call as it read before'; 0 by the template 'total and deterministic' (their statements: YtnkcbefamajghaaDoorTotals.lean).
  GIVEN WITH THE SEED: the statements are not yours to turn. If you find one false, say at which input.
  Laid BY PROGRAM, IN A SANDBOX (cutbox-rows.mjs): the forced cells as the released guide's own fill.sh prints them over the translation 4dc6082d5f1f0144… (all of the seat's roots in one cut). By AI agents, Wed Nov 11 2026. No macro, syntax, notation, axiom, sorry.
-/
import Derived.Test.YtnkcbefamajghaaDoorChecked
import GoSem.PinnedTables
import GoSem.Claim
import GoSem.ClaimJoined
import GoSem.ClaimMapViews
import Derived.JoinedTies
import Derived.KernelRfl
namespace Go.Proofs.YtnkcbefamajghaaDoor
/- THE CELL 'sum', in the pinned program and in every row, IS THE sha256 OF THE DUMP (.gsa) THAT YtnkcbefamajghaaDoorProg.lean LOADS. Nothing in Lean hashes anything: it is a label: what it is worth is what the hold of that sum in a sandbox is worth. -/
noncomputable def Tryd.pinned : Pinned := { name := "ytnkcbefamajghaadoor", sum := "4dc6082d5f1f01447b7a283cb3b69304d33a19bca997b4fe509ce4bbc5cfcd4c", checked := Tryd.checked }
namespace Rows
def none {H : Type} : Left H := { results := [], args := [] }

/- WHAT THE LISTED PACKAGE-LEVEL VARIABLES READ AS WHEN THE CALL BEGINS. Each datum BY PROGRAM (the guide's laid-datum.mjs) off the statement by which the dump's own 'gosem.cut.vars' lays the variable. In a bare row this is a premise. The card (YtnkcbefamajghaaDoorCards.lean) ties it to the program's text. -/
def laid_unicode_utf8_acceptRanges {H : Type} : DataW H := .agg [.agg [.lit (.int .u8 128), .lit (.int .u8 191)], .agg [.lit (.int .u8 160), .lit (.int .u8 191)], .agg [.lit (.int .u8 128), .lit (.int .u8 159)], .agg [.lit (.int .u8 144), .lit (.int .u8 191)], .agg [.lit (.int .u8 128), .lit (.int .u8 143)], .agg [.lit (.int .u8 0), .lit (.int .u8 0)], .agg [.lit (.int .u8 0), .lit (.int .u8 0)], .agg [.lit (.int .u8 0), .lit (.int .u8 0)], .agg [.lit (.int .u8 0), .lit (.int .u8 0)], .agg [.lit (.int .u8 0), .lit (.int .u8 0)], .agg [.lit (.int .u8 0), .lit (.int .u8 0)], .agg [.lit (.int .u8 0), .lit (.int .u8 0)], .agg [.lit (.int .u8 0), .lit (.int .u8 0)], .agg [.lit (.int .u8 0), .lit (.int .u8 0)], .agg [.lit (.int .u8 0), .lit (.int .u8 0)], .agg [.lit (.int .u8 0), .lit (.int .u8 0)]]
def laid_consignor_keys_parties {H : Type} : DataW H := .agg [.lit (.int .i64 1), .lit (.int .i64 0), .lit (.int .i64 2), .lit (.int .i64 1), .lit (.int .i64 0), .lit (.int .i64 2)]
/-- One of Go's own tables, pinned by name: the form's constant. -/
def laid_unicode_utf8_first : DataW Unit := Go.Pinned.utf8First

/-- 'consignorlaw15.ManifestPrint': WHATEVER THE INPUT: true; the input reads as it did. -/
def manifestPrintSpec : ChangeSpec := { name := "manifestPrint", fn := fun _ => fun
  | [d] => { results := [.lit (.bool true)], args := [d] }
  | _ => none }
def manifestPrintRow : OpenClaim := { program := "ytnkcbefamajghaadoor", sum := "4dc6082d5f1f01447b7a283cb3b69304d33a19bca997b4fe509ce4bbc5cfcd4c", func := "consignor/consignorlaw15.ManifestPrint", spec := "manifestPrint", inPlace := ["internal/abi.NoEscape", "internal/bytealg.IndexByteString", "internal/bytealg.IndexString", "internal/bytealg.CountString", "internal/bytealg.MakeNoZero"], named := ["consignor/keys.parties", "internal/bytealg.MaxLen", "unicode/utf8.first", "unicode/utf8.acceptRanges"], plainKeys := false, apart := false, laid := [("unicode/utf8.acceptRanges", laid_unicode_utf8_acceptRanges), ("consignor/keys.parties", laid_consignor_keys_parties), ("unicode/utf8.first", laid_unicode_utf8_first)] }
def ManifestPrintSaid : Prop := manifestPrintRow.holds Tryd.pinned (OpenSpec.ofChange manifestPrintSpec)

/-- ITS FALSE NEIGHBOUR: 'it returns false'. Refute it at one input. -/
def manifestPrintWrong : ChangeSpec := { name := "manifestPrint", fn := fun _ => fun
  | [d] => { results := [.lit (.bool false)], args := [d] }
  | _ => none }
def ManifestPrintWrongFalsely : Prop := manifestPrintRow.holds Tryd.pinned (OpenSpec.ofChange manifestPrintWrong)

/-- 'consignorlaw15.ManifestParse': WHATEVER THE INPUT: true; the input reads as it did. -/
def manifestParseSpec : ChangeSpec := { name := "manifestParse", fn := fun _ => fun
  | [d] => { results := [.lit (.bool true)], args := [d] }
  | _ => none }
def manifestParseRow : OpenClaim := { program := "ytnkcbefamajghaadoor", sum := "4dc6082d5f1f01447b7a283cb3b69304d33a19bca997b4fe509ce4bbc5cfcd4c", func := "consignor/consignorlaw15.ManifestParse", spec := "manifestParse", inPlace := ["internal/abi.NoEscape", "internal/bytealg.IndexByteString", "internal/bytealg.IndexString", "internal/bytealg.CountString", "internal/bytealg.MakeNoZero"], named := ["consignor/keys.parties", "internal/bytealg.MaxLen", "unicode/utf8.first", "unicode/utf8.acceptRanges"], plainKeys := false, apart := false, laid := [("unicode/utf8.acceptRanges", laid_unicode_utf8_acceptRanges), ("consignor/keys.parties", laid_consignor_keys_parties), ("unicode/utf8.first", laid_unicode_utf8_first)] }
def ManifestParseSaid : Prop := manifestParseRow.holds Tryd.pinned (OpenSpec.ofChange manifestParseSpec)

/-- ITS FALSE NEIGHBOUR: 'it returns false'. Refute it at one input. -/
def manifestParseWrong : ChangeSpec := { name := "manifestParse", fn := fun _ => fun
  | [d] => { results := [.lit (.bool false)], args := [d] }
  | _ => none }
def ManifestParseWrongFalsely : Prop := manifestParseRow.holds Tryd.pinned (OpenSpec.ofChange manifestParseWrong)

/-- 'consignorlaw15.ManifestCells': WHATEVER THE INPUT: true; the input reads as it did. -/
def manifestCellsSpec : ChangeSpec := { name := "manifestCells", fn := fun _ => fun
  | [d1, d2, d3] => { results := [.lit (.bool true)], args := [d1, d2, d3] }
  | _ => none }
def manifestCellsRow : OpenClaim := { program := "ytnkcbefamajghaadoor", sum := "4dc6082d5f1f01447b7a283cb3b69304d33a19bca997b4fe509ce4bbc5cfcd4c", func := "consignor/consignorlaw15.ManifestCells", spec := "manifestCells", inPlace := ["internal/abi.NoEscape", "internal/bytealg.IndexByteString", "internal/bytealg.IndexString", "internal/bytealg.CountString", "internal/bytealg.MakeNoZero"], named := ["consignor/keys.parties", "internal/bytealg.MaxLen", "unicode/utf8.first", "unicode/utf8.acceptRanges"], plainKeys := false, apart := false, laid := [("unicode/utf8.acceptRanges", laid_unicode_utf8_acceptRanges), ("consignor/keys.parties", laid_consignor_keys_parties), ("unicode/utf8.first", laid_unicode_utf8_first)] }
def ManifestCellsSaid : Prop := manifestCellsRow.holds Tryd.pinned (OpenSpec.ofChange manifestCellsSpec)

/-- ITS FALSE NEIGHBOUR: 'it returns false'. Refute it at one input. -/
def manifestCellsWrong : ChangeSpec := { name := "manifestCells", fn := fun _ => fun
  | [d1, d2, d3] => { results := [.lit (.bool false)], args := [d1, d2, d3] }
  | _ => none }
def ManifestCellsWrongFalsely : Prop := manifestCellsRow.holds Tryd.pinned (OpenSpec.ofChange manifestCellsWrong)

/-- 'consignorlaw15.ManifestBack': WHATEVER THE INPUT: true; the input reads as it did. -/
def manifestBackSpec : ChangeSpec := { name := "manifestBack", fn := fun _ => fun
  | [d1, d2] => { results := [.lit (.bool true)], args := [d1, d2] }
  | _ => none }
def manifestBackRow : OpenClaim := { program := "ytnkcbefamajghaadoor", sum := "4dc6082d5f1f01447b7a283cb3b69304d33a19bca997b4fe509ce4bbc5cfcd4c", func := "consignor/consignorlaw15.ManifestBack", spec := "manifestBack", inPlace := ["internal/abi.NoEscape", "internal/bytealg.IndexByteString", "internal/bytealg.IndexString", "internal/bytealg.CountString", "internal/bytealg.MakeNoZero"], named := ["consignor/keys.parties", "internal/bytealg.MaxLen", "unicode/utf8.first", "unicode/utf8.acceptRanges"], plainKeys := false, apart := false, laid := [("unicode/utf8.acceptRanges", laid_unicode_utf8_acceptRanges), ("consignor/keys.parties", laid_consignor_keys_parties), ("unicode/utf8.first", laid_unicode_utf8_first)] }
def ManifestBackSaid : Prop := manifestBackRow.holds Tryd.pinned (OpenSpec.ofChange manifestBackSpec)

/-- ITS FALSE NEIGHBOUR: 'it returns false'. Refute it at one input. -/
def manifestBackWrong : ChangeSpec := { name := "manifestBack", fn := fun _ => fun
  | [d1, d2] => { results := [.lit (.bool false)], args := [d1, d2] }
  | _ => none }
def ManifestBackWrongFalsely : Prop := manifestBackRow.holds Tryd.pinned (OpenSpec.ofChange manifestBackWrong)

/-- 'consignorlaw15.ManifestForm': WHATEVER THE INPUT: true; the input reads as it did. -/
def manifestFormSpec : ChangeSpec := { name := "manifestForm", fn := fun _ => fun
  | [d] => { results := [.lit (.bool true)], args := [d] }
  | _ => none }
def manifestFormRow : OpenClaim := { program := "ytnkcbefamajghaadoor", sum := "4dc6082d5f1f01447b7a283cb3b69304d33a19bca997b4fe509ce4bbc5cfcd4c", func := "consignor/consignorlaw15.ManifestForm", spec := "manifestForm", inPlace := ["internal/abi.NoEscape", "internal/bytealg.IndexByteString", "internal/bytealg.IndexString", "internal/bytealg.CountString", "internal/bytealg.MakeNoZero"], named := ["consignor/keys.parties", "internal/bytealg.MaxLen", "unicode/utf8.first", "unicode/utf8.acceptRanges"], plainKeys := false, apart := false, laid := [("unicode/utf8.acceptRanges", laid_unicode_utf8_acceptRanges), ("consignor/keys.parties", laid_consignor_keys_parties), ("unicode/utf8.first", laid_unicode_utf8_first)] }
def ManifestFormSaid : Prop := manifestFormRow.holds Tryd.pinned (OpenSpec.ofChange manifestFormSpec)

/-- ITS FALSE NEIGHBOUR: 'it returns false'. Refute it at one input. -/
def manifestFormWrong : ChangeSpec := { name := "manifestForm", fn := fun _ => fun
  | [d] => { results := [.lit (.bool false)], args := [d] }
  | _ => none }
def ManifestFormWrongFalsely : Prop := manifestFormRow.holds Tryd.pinned (OpenSpec.ofChange manifestFormWrong)

/-- 'consignorlaw15.ManifestTotal': WHATEVER THE INPUT: true; the input reads as it did. -/
def manifestTotalSpec : ChangeSpec := { name := "manifestTotal", fn := fun _ => fun
  | [d1, d2, d3] => { results := [.lit (.bool true)], args := [d1, d2, d3] }
  | _ => none }
def manifestTotalRow : OpenClaim := { program := "ytnkcbefamajghaadoor", sum := "4dc6082d5f1f01447b7a283cb3b69304d33a19bca997b4fe509ce4bbc5cfcd4c", func := "consignor/consignorlaw15.ManifestTotal", spec := "manifestTotal", inPlace := ["internal/abi.NoEscape", "internal/bytealg.IndexByteString", "internal/bytealg.IndexString", "internal/bytealg.CountString", "internal/bytealg.MakeNoZero"], named := ["consignor/keys.parties", "internal/bytealg.MaxLen", "unicode/utf8.first", "unicode/utf8.acceptRanges"], plainKeys := false, apart := false, laid := [("unicode/utf8.acceptRanges", laid_unicode_utf8_acceptRanges), ("consignor/keys.parties", laid_consignor_keys_parties), ("unicode/utf8.first", laid_unicode_utf8_first)] }
def ManifestTotalSaid : Prop := manifestTotalRow.holds Tryd.pinned (OpenSpec.ofChange manifestTotalSpec)

/-- ITS FALSE NEIGHBOUR: 'it returns false'. Refute it at one input. -/
def manifestTotalWrong : ChangeSpec := { name := "manifestTotal", fn := fun _ => fun
  | [d1, d2, d3] => { results := [.lit (.bool false)], args := [d1, d2, d3] }
  | _ => none }
def ManifestTotalWrongFalsely : Prop := manifestTotalRow.holds Tryd.pinned (OpenSpec.ofChange manifestTotalWrong)

/- THE SECOND FORM. 'bulk': how many values and letters a reading holds, each counted each time it is reached (what is shared counts as often as it is met; a slice's spare places count too). A statement '..UptoSaid' is the law's where the arguments, and the package variables that the reading takes, are together of bulk at most 1048576: NARROWER than '..Said'. Prove '..Said' where nothing that the law and all that it calls make is longer than what came in: it says more and counts as full. Else prove '..UptoSaid'. A law counts once. -/
mutual
def uptoBulk {H : Type} : DataW H → Nat
  | .lit (.string bytes) => bytes.length + 1
  | .lit _ => 1
  | .nil => 1
  | .ptr d => uptoBulk d + 1
  | .slice elems spare => uptoBulkAll elems + uptoBulkAll spare + 1
  | .agg parts => uptoBulkAll parts + 1
  | .iface _ d => uptoBulk d + 1
  | .map entries => uptoBulkEntries entries + 1
  | .held _ => 1
def uptoBulkAll {H : Type} : List (DataW H) → Nat
  | [] => 0
  | d :: r => uptoBulk d + uptoBulkAll r
def uptoBulkEntries {H : Type} : List (Lit × DataW H) → Nat
  | [] => 0
  | x :: r => uptoBulkEntry x + uptoBulkEntries r
def uptoBulkEntry {H : Type} : Lit × DataW H → Nat
  | (.string bytes, d) => bytes.length + uptoBulk d + 1
  | (_, d) => uptoBulk d + 1
 end
def uptoSmall : (H : Type) → List (DataW H) → Bool := fun _ ds => decide (uptoBulkAll ds ≤ 1048576)
def OpenSpec.upto (s : _root_.Go.ChangeSpec) : _root_.Go.OpenSpec := { _root_.Go.OpenSpec.ofChange s with cond := some uptoSmall }

/-- 'consignorlaw15.ManifestPrint', WHERE WHAT IT READS IS OF BULK AT MOST 1048576: true; the input reads as it did. -/
def manifestPrintUptoRow : OpenClaim := { program := "ytnkcbefamajghaadoor", sum := "4dc6082d5f1f01447b7a283cb3b69304d33a19bca997b4fe509ce4bbc5cfcd4c", func := "consignor/consignorlaw15.ManifestPrint", spec := "manifestPrint", inPlace := ["internal/abi.NoEscape", "internal/bytealg.IndexByteString", "internal/bytealg.IndexString", "internal/bytealg.CountString", "internal/bytealg.MakeNoZero"], named := ["consignor/keys.parties", "internal/bytealg.MaxLen", "unicode/utf8.first", "unicode/utf8.acceptRanges"], plainKeys := false, apart := false, laid := [("unicode/utf8.acceptRanges", laid_unicode_utf8_acceptRanges), ("consignor/keys.parties", laid_consignor_keys_parties), ("unicode/utf8.first", laid_unicode_utf8_first)], narrowed := true }
def ManifestPrintUptoSaid : Prop := manifestPrintUptoRow.holds Tryd.pinned (OpenSpec.upto manifestPrintSpec)

/-- 'consignorlaw15.ManifestParse', WHERE WHAT IT READS IS OF BULK AT MOST 1048576: true; the input reads as it did. -/
def manifestParseUptoRow : OpenClaim := { program := "ytnkcbefamajghaadoor", sum := "4dc6082d5f1f01447b7a283cb3b69304d33a19bca997b4fe509ce4bbc5cfcd4c", func := "consignor/consignorlaw15.ManifestParse", spec := "manifestParse", inPlace := ["internal/abi.NoEscape", "internal/bytealg.IndexByteString", "internal/bytealg.IndexString", "internal/bytealg.CountString", "internal/bytealg.MakeNoZero"], named := ["consignor/keys.parties", "internal/bytealg.MaxLen", "unicode/utf8.first", "unicode/utf8.acceptRanges"], plainKeys := false, apart := false, laid := [("unicode/utf8.acceptRanges", laid_unicode_utf8_acceptRanges), ("consignor/keys.parties", laid_consignor_keys_parties), ("unicode/utf8.first", laid_unicode_utf8_first)], narrowed := true }
def ManifestParseUptoSaid : Prop := manifestParseUptoRow.holds Tryd.pinned (OpenSpec.upto manifestParseSpec)

/-- 'consignorlaw15.ManifestCells', WHERE WHAT IT READS IS OF BULK AT MOST 1048576: true; the input reads as it did. -/
def manifestCellsUptoRow : OpenClaim := { program := "ytnkcbefamajghaadoor", sum := "4dc6082d5f1f01447b7a283cb3b69304d33a19bca997b4fe509ce4bbc5cfcd4c", func := "consignor/consignorlaw15.ManifestCells", spec := "manifestCells", inPlace := ["internal/abi.NoEscape", "internal/bytealg.IndexByteString", "internal/bytealg.IndexString", "internal/bytealg.CountString", "internal/bytealg.MakeNoZero"], named := ["consignor/keys.parties", "internal/bytealg.MaxLen", "unicode/utf8.first", "unicode/utf8.acceptRanges"], plainKeys := false, apart := false, laid := [("unicode/utf8.acceptRanges", laid_unicode_utf8_acceptRanges), ("consignor/keys.parties", laid_consignor_keys_parties), ("unicode/utf8.first", laid_unicode_utf8_first)], narrowed := true }
def ManifestCellsUptoSaid : Prop := manifestCellsUptoRow.holds Tryd.pinned (OpenSpec.upto manifestCellsSpec)

/-- 'consignorlaw15.ManifestBack', WHERE WHAT IT READS IS OF BULK AT MOST 1048576: true; the input reads as it did. -/
def manifestBackUptoRow : OpenClaim := { program := "ytnkcbefamajghaadoor", sum := "4dc6082d5f1f01447b7a283cb3b69304d33a19bca997b4fe509ce4bbc5cfcd4c", func := "consignor/consignorlaw15.ManifestBack", spec := "manifestBack", inPlace := ["internal/abi.NoEscape", "internal/bytealg.IndexByteString", "internal/bytealg.IndexString", "internal/bytealg.CountString", "internal/bytealg.MakeNoZero"], named := ["consignor/keys.parties", "internal/bytealg.MaxLen", "unicode/utf8.first", "unicode/utf8.acceptRanges"], plainKeys := false, apart := false, laid := [("unicode/utf8.acceptRanges", laid_unicode_utf8_acceptRanges), ("consignor/keys.parties", laid_consignor_keys_parties), ("unicode/utf8.first", laid_unicode_utf8_first)], narrowed := true }
def ManifestBackUptoSaid : Prop := manifestBackUptoRow.holds Tryd.pinned (OpenSpec.upto manifestBackSpec)

/-- 'consignorlaw15.ManifestForm', WHERE WHAT IT READS IS OF BULK AT MOST 1048576: true; the input reads as it did. -/
def manifestFormUptoRow : OpenClaim := { program := "ytnkcbefamajghaadoor", sum := "4dc6082d5f1f01447b7a283cb3b69304d33a19bca997b4fe509ce4bbc5cfcd4c", func := "consignor/consignorlaw15.ManifestForm", spec := "manifestForm", inPlace := ["internal/abi.NoEscape", "internal/bytealg.IndexByteString", "internal/bytealg.IndexString", "internal/bytealg.CountString", "internal/bytealg.MakeNoZero"], named := ["consignor/keys.parties", "internal/bytealg.MaxLen", "unicode/utf8.first", "unicode/utf8.acceptRanges"], plainKeys := false, apart := false, laid := [("unicode/utf8.acceptRanges", laid_unicode_utf8_acceptRanges), ("consignor/keys.parties", laid_consignor_keys_parties), ("unicode/utf8.first", laid_unicode_utf8_first)], narrowed := true }
def ManifestFormUptoSaid : Prop := manifestFormUptoRow.holds Tryd.pinned (OpenSpec.upto manifestFormSpec)

/-- 'consignorlaw15.ManifestTotal', WHERE WHAT IT READS IS OF BULK AT MOST 1048576: true; the input reads as it did. -/
def manifestTotalUptoRow : OpenClaim := { program := "ytnkcbefamajghaadoor", sum := "4dc6082d5f1f01447b7a283cb3b69304d33a19bca997b4fe509ce4bbc5cfcd4c", func := "consignor/consignorlaw15.ManifestTotal", spec := "manifestTotal", inPlace := ["internal/abi.NoEscape", "internal/bytealg.IndexByteString", "internal/bytealg.IndexString", "internal/bytealg.CountString", "internal/bytealg.MakeNoZero"], named := ["consignor/keys.parties", "internal/bytealg.MaxLen", "unicode/utf8.first", "unicode/utf8.acceptRanges"], plainKeys := false, apart := false, laid := [("unicode/utf8.acceptRanges", laid_unicode_utf8_acceptRanges), ("consignor/keys.parties", laid_consignor_keys_parties), ("unicode/utf8.first", laid_unicode_utf8_first)], narrowed := true }
def ManifestTotalUptoSaid : Prop := manifestTotalUptoRow.holds Tryd.pinned (OpenSpec.upto manifestTotalSpec)

end Rows
end Go.Proofs.YtnkcbefamajghaaDoor
