/-
  NARROWER THAN 'FOR EVERY INPUT', by the rows' own cells (each row's printed sentence says how): StockPrint: laid · StockParse: laid · StockBack: laid · StockForm: laid · StockCount: laid.
  DERIVED. THE GIVEN ROWS OF THIS SEAT. 5 by the template 'for every input the law returns true; each argument reads behind the call as it read before'; 0 by the template 'total and deterministic' (their statements: YthhblaagdakdmaaDoorTotals.lean).
  GIVEN WITH THE SEED: the statements are not yours to turn. If you find one false, say at which input.
  Laid BY PROGRAM, IN A SANDBOX (cutbox-rows.mjs): the forced cells as the released guide's own fill.sh prints them over the translation 4c9d465201a0f55e… (all of the seat's roots in one cut). By AI agents, Wed Nov 11 2026. No macro, syntax, notation, axiom, sorry.
-/
import Derived.Test.YthhblaagdakdmaaDoorChecked
import GoSem.PinnedTables
import GoSem.Claim
import GoSem.ClaimJoined
import GoSem.ClaimMapViews
import Derived.JoinedTies
import Derived.KernelRfl
namespace Go.Proofs.YthhblaagdakdmaaDoor
/- THE CELL 'sum', in the pinned program and in every row, IS THE sha256 OF THE DUMP (.gsa) THAT YthhblaagdakdmaaDoorProg.lean LOADS. Nothing in Lean hashes anything: it is a label: what it is worth is what the hold of that sum in a sandbox is worth. -/
noncomputable def Tryd.pinned : Pinned := { name := "ythhblaagdakdmaadoor", sum := "4c9d465201a0f55eb9d6d6c59f997d7faf5b37da048b006603575be95ef20f8d", checked := Tryd.checked }
namespace Rows
def none {H : Type} : Left H := { results := [], args := [] }

/- WHAT THE LISTED PACKAGE-LEVEL VARIABLES READ AS WHEN THE CALL BEGINS. Each datum BY PROGRAM (the guide's laid-datum.mjs) off the statement by which the dump's own 'gosem.cut.vars' lays the variable. In a bare row this is a premise. The card (YthhblaagdakdmaaDoorCards.lean) ties it to the program's text. -/
def laid_unicode_utf8_acceptRanges {H : Type} : DataW H := .agg [.agg [.lit (.int .u8 128), .lit (.int .u8 191)], .agg [.lit (.int .u8 160), .lit (.int .u8 191)], .agg [.lit (.int .u8 128), .lit (.int .u8 159)], .agg [.lit (.int .u8 144), .lit (.int .u8 191)], .agg [.lit (.int .u8 128), .lit (.int .u8 143)], .agg [.lit (.int .u8 0), .lit (.int .u8 0)], .agg [.lit (.int .u8 0), .lit (.int .u8 0)], .agg [.lit (.int .u8 0), .lit (.int .u8 0)], .agg [.lit (.int .u8 0), .lit (.int .u8 0)], .agg [.lit (.int .u8 0), .lit (.int .u8 0)], .agg [.lit (.int .u8 0), .lit (.int .u8 0)], .agg [.lit (.int .u8 0), .lit (.int .u8 0)], .agg [.lit (.int .u8 0), .lit (.int .u8 0)], .agg [.lit (.int .u8 0), .lit (.int .u8 0)], .agg [.lit (.int .u8 0), .lit (.int .u8 0)], .agg [.lit (.int .u8 0), .lit (.int .u8 0)]]
def laid_consignor_keys_parties {H : Type} : DataW H := .agg [.lit (.int .i64 1), .lit (.int .i64 0), .lit (.int .i64 2), .lit (.int .i64 1), .lit (.int .i64 0), .lit (.int .i64 2)]
/-- One of Go's own tables, pinned by name: the form's constant. -/
def laid_unicode_utf8_first : DataW Unit := Go.Pinned.utf8First

/-- 'consignorlaw14.StockPrint': WHATEVER THE INPUT: true; the input reads as it did. -/
def stockPrintSpec : ChangeSpec := { name := "stockPrint", fn := fun _ => fun
  | [d] => { results := [.lit (.bool true)], args := [d] }
  | _ => none }
def stockPrintRow : OpenClaim := { program := "ythhblaagdakdmaadoor", sum := "4c9d465201a0f55eb9d6d6c59f997d7faf5b37da048b006603575be95ef20f8d", func := "consignor/consignorlaw14.StockPrint", spec := "stockPrint", inPlace := ["internal/abi.NoEscape", "internal/bytealg.IndexByteString", "internal/bytealg.IndexString", "internal/bytealg.CountString", "internal/bytealg.MakeNoZero"], named := ["consignor/keys.parties", "internal/bytealg.MaxLen", "unicode/utf8.first", "unicode/utf8.acceptRanges"], apart := false, laid := [("unicode/utf8.acceptRanges", laid_unicode_utf8_acceptRanges), ("consignor/keys.parties", laid_consignor_keys_parties), ("unicode/utf8.first", laid_unicode_utf8_first)] }
def StockPrintSaid : Prop := stockPrintRow.holds Tryd.pinned (OpenSpec.ofChange stockPrintSpec)

/-- ITS FALSE NEIGHBOUR: 'it returns false'. Refute it at one input. -/
def stockPrintWrong : ChangeSpec := { name := "stockPrint", fn := fun _ => fun
  | [d] => { results := [.lit (.bool false)], args := [d] }
  | _ => none }
def StockPrintWrongFalsely : Prop := stockPrintRow.holds Tryd.pinned (OpenSpec.ofChange stockPrintWrong)

/-- 'consignorlaw14.StockParse': WHATEVER THE INPUT: true; the input reads as it did. -/
def stockParseSpec : ChangeSpec := { name := "stockParse", fn := fun _ => fun
  | [d] => { results := [.lit (.bool true)], args := [d] }
  | _ => none }
def stockParseRow : OpenClaim := { program := "ythhblaagdakdmaadoor", sum := "4c9d465201a0f55eb9d6d6c59f997d7faf5b37da048b006603575be95ef20f8d", func := "consignor/consignorlaw14.StockParse", spec := "stockParse", inPlace := ["internal/abi.NoEscape", "internal/bytealg.IndexByteString", "internal/bytealg.IndexString", "internal/bytealg.CountString", "internal/bytealg.MakeNoZero"], named := ["consignor/keys.parties", "internal/bytealg.MaxLen", "unicode/utf8.first", "unicode/utf8.acceptRanges"], apart := false, laid := [("unicode/utf8.acceptRanges", laid_unicode_utf8_acceptRanges), ("consignor/keys.parties", laid_consignor_keys_parties), ("unicode/utf8.first", laid_unicode_utf8_first)] }
def StockParseSaid : Prop := stockParseRow.holds Tryd.pinned (OpenSpec.ofChange stockParseSpec)

/-- ITS FALSE NEIGHBOUR: 'it returns false'. Refute it at one input. -/
def stockParseWrong : ChangeSpec := { name := "stockParse", fn := fun _ => fun
  | [d] => { results := [.lit (.bool false)], args := [d] }
  | _ => none }
def StockParseWrongFalsely : Prop := stockParseRow.holds Tryd.pinned (OpenSpec.ofChange stockParseWrong)

/-- 'consignorlaw14.StockBack': WHATEVER THE INPUT: true; the input reads as it did. -/
def stockBackSpec : ChangeSpec := { name := "stockBack", fn := fun _ => fun
  | [d1, d2] => { results := [.lit (.bool true)], args := [d1, d2] }
  | _ => none }
def stockBackRow : OpenClaim := { program := "ythhblaagdakdmaadoor", sum := "4c9d465201a0f55eb9d6d6c59f997d7faf5b37da048b006603575be95ef20f8d", func := "consignor/consignorlaw14.StockBack", spec := "stockBack", inPlace := ["internal/abi.NoEscape", "internal/bytealg.IndexByteString", "internal/bytealg.IndexString", "internal/bytealg.CountString", "internal/bytealg.MakeNoZero"], named := ["consignor/keys.parties", "internal/bytealg.MaxLen", "unicode/utf8.first", "unicode/utf8.acceptRanges"], apart := false, laid := [("unicode/utf8.acceptRanges", laid_unicode_utf8_acceptRanges), ("consignor/keys.parties", laid_consignor_keys_parties), ("unicode/utf8.first", laid_unicode_utf8_first)] }
def StockBackSaid : Prop := stockBackRow.holds Tryd.pinned (OpenSpec.ofChange stockBackSpec)

/-- ITS FALSE NEIGHBOUR: 'it returns false'. Refute it at one input. -/
def stockBackWrong : ChangeSpec := { name := "stockBack", fn := fun _ => fun
  | [d1, d2] => { results := [.lit (.bool false)], args := [d1, d2] }
  | _ => none }
def StockBackWrongFalsely : Prop := stockBackRow.holds Tryd.pinned (OpenSpec.ofChange stockBackWrong)

/-- 'consignorlaw14.StockForm': WHATEVER THE INPUT: true; the input reads as it did. -/
def stockFormSpec : ChangeSpec := { name := "stockForm", fn := fun _ => fun
  | [d] => { results := [.lit (.bool true)], args := [d] }
  | _ => none }
def stockFormRow : OpenClaim := { program := "ythhblaagdakdmaadoor", sum := "4c9d465201a0f55eb9d6d6c59f997d7faf5b37da048b006603575be95ef20f8d", func := "consignor/consignorlaw14.StockForm", spec := "stockForm", inPlace := ["internal/abi.NoEscape", "internal/bytealg.IndexByteString", "internal/bytealg.IndexString", "internal/bytealg.CountString", "internal/bytealg.MakeNoZero"], named := ["consignor/keys.parties", "internal/bytealg.MaxLen", "unicode/utf8.first", "unicode/utf8.acceptRanges"], apart := false, laid := [("unicode/utf8.acceptRanges", laid_unicode_utf8_acceptRanges), ("consignor/keys.parties", laid_consignor_keys_parties), ("unicode/utf8.first", laid_unicode_utf8_first)] }
def StockFormSaid : Prop := stockFormRow.holds Tryd.pinned (OpenSpec.ofChange stockFormSpec)

/-- ITS FALSE NEIGHBOUR: 'it returns false'. Refute it at one input. -/
def stockFormWrong : ChangeSpec := { name := "stockForm", fn := fun _ => fun
  | [d] => { results := [.lit (.bool false)], args := [d] }
  | _ => none }
def StockFormWrongFalsely : Prop := stockFormRow.holds Tryd.pinned (OpenSpec.ofChange stockFormWrong)

/-- 'consignorlaw14.StockCount': WHATEVER THE INPUT: true; the input reads as it did. -/
def stockCountSpec : ChangeSpec := { name := "stockCount", fn := fun _ => fun
  | [d1, d2, d3] => { results := [.lit (.bool true)], args := [d1, d2, d3] }
  | _ => none }
def stockCountRow : OpenClaim := { program := "ythhblaagdakdmaadoor", sum := "4c9d465201a0f55eb9d6d6c59f997d7faf5b37da048b006603575be95ef20f8d", func := "consignor/consignorlaw14.StockCount", spec := "stockCount", inPlace := ["internal/abi.NoEscape", "internal/bytealg.IndexByteString", "internal/bytealg.IndexString", "internal/bytealg.CountString", "internal/bytealg.MakeNoZero"], recurses := true, named := ["consignor/keys.parties", "internal/bytealg.MaxLen", "unicode/utf8.first", "unicode/utf8.acceptRanges"], apart := false, laid := [("unicode/utf8.acceptRanges", laid_unicode_utf8_acceptRanges), ("consignor/keys.parties", laid_consignor_keys_parties), ("unicode/utf8.first", laid_unicode_utf8_first)] }
def StockCountSaid : Prop := stockCountRow.holds Tryd.pinned (OpenSpec.ofChange stockCountSpec)

/-- ITS FALSE NEIGHBOUR: 'it returns false'. Refute it at one input. -/
def stockCountWrong : ChangeSpec := { name := "stockCount", fn := fun _ => fun
  | [d1, d2, d3] => { results := [.lit (.bool false)], args := [d1, d2, d3] }
  | _ => none }
def StockCountWrongFalsely : Prop := stockCountRow.holds Tryd.pinned (OpenSpec.ofChange stockCountWrong)

/- THE SECOND FORM. 'bulk': how many values and letters a reading holds, each counted each time it is reached (what is shared counts as often as it is met; a slice's spare places count too). A statement '..UptoSaid' is the law's where the arguments, and the package variables that the reading takes, are together of bulk at most 1048576: NARROWER than '..Said'. Prove '..Said' where nothing that the law and all that it calls make is longer than what came in: it says more and counts as full. Else prove '..UptoSaid'. A law counts once. -/
mutual
def uptoBulk {H : Type} : DataW H → Nat
  | .lit (.string bytes) => bytes.length + 1
  | .lit _ => 1
  | .nil => 1
  | .ptr d => uptoBulk d + 1
  | .slice elems spare => uptoBulkAll elems + uptoBulkAll spare + 1
  | .agg parts => uptoBulkAll parts + 1
  | .iface _ d => uptoBulk d + 1
  | .map entries => uptoBulkEntries entries + 1
  | .held _ => 1
def uptoBulkAll {H : Type} : List (DataW H) → Nat
  | [] => 0
  | d :: r => uptoBulk d + uptoBulkAll r
def uptoBulkEntries {H : Type} : List (Lit × DataW H) → Nat
  | [] => 0
  | x :: r => uptoBulkEntry x + uptoBulkEntries r
def uptoBulkEntry {H : Type} : Lit × DataW H → Nat
  | (.string bytes, d) => bytes.length + uptoBulk d + 1
  | (_, d) => uptoBulk d + 1
 end
def uptoSmall : (H : Type) → List (DataW H) → Bool := fun _ ds => decide (uptoBulkAll ds ≤ 1048576)
def OpenSpec.upto (s : _root_.Go.ChangeSpec) : _root_.Go.OpenSpec := { _root_.Go.OpenSpec.ofChange s with cond := some uptoSmall }

/-- 'consignorlaw14.StockPrint', WHERE WHAT IT READS IS OF BULK AT MOST 1048576: true; the input reads as it did. -/
def stockPrintUptoRow : OpenClaim := { program := "ythhblaagdakdmaadoor", sum := "4c9d465201a0f55eb9d6d6c59f997d7faf5b37da048b006603575be95ef20f8d", func := "consignor/consignorlaw14.StockPrint", spec := "stockPrint", inPlace := ["internal/abi.NoEscape", "internal/bytealg.IndexByteString", "internal/bytealg.IndexString", "internal/bytealg.CountString", "internal/bytealg.MakeNoZero"], named := ["consignor/keys.parties", "internal/bytealg.MaxLen", "unicode/utf8.first", "unicode/utf8.acceptRanges"], apart := false, laid := [("unicode/utf8.acceptRanges", laid_unicode_utf8_acceptRanges), ("consignor/keys.parties", laid_consignor_keys_parties), ("unicode/utf8.first", laid_unicode_utf8_first)], narrowed := true }
def StockPrintUptoSaid : Prop := stockPrintUptoRow.holds Tryd.pinned (OpenSpec.upto stockPrintSpec)

/-- 'consignorlaw14.StockParse', WHERE WHAT IT READS IS OF BULK AT MOST 1048576: true; the input reads as it did. -/
def stockParseUptoRow : OpenClaim := { program := "ythhblaagdakdmaadoor", sum := "4c9d465201a0f55eb9d6d6c59f997d7faf5b37da048b006603575be95ef20f8d", func := "consignor/consignorlaw14.StockParse", spec := "stockParse", inPlace := ["internal/abi.NoEscape", "internal/bytealg.IndexByteString", "internal/bytealg.IndexString", "internal/bytealg.CountString", "internal/bytealg.MakeNoZero"], named := ["consignor/keys.parties", "internal/bytealg.MaxLen", "unicode/utf8.first", "unicode/utf8.acceptRanges"], apart := false, laid := [("unicode/utf8.acceptRanges", laid_unicode_utf8_acceptRanges), ("consignor/keys.parties", laid_consignor_keys_parties), ("unicode/utf8.first", laid_unicode_utf8_first)], narrowed := true }
def StockParseUptoSaid : Prop := stockParseUptoRow.holds Tryd.pinned (OpenSpec.upto stockParseSpec)

/-- 'consignorlaw14.StockBack', WHERE WHAT IT READS IS OF BULK AT MOST 1048576: true; the input reads as it did. -/
def stockBackUptoRow : OpenClaim := { program := "ythhblaagdakdmaadoor", sum := "4c9d465201a0f55eb9d6d6c59f997d7faf5b37da048b006603575be95ef20f8d", func := "consignor/consignorlaw14.StockBack", spec := "stockBack", inPlace := ["internal/abi.NoEscape", "internal/bytealg.IndexByteString", "internal/bytealg.IndexString", "internal/bytealg.CountString", "internal/bytealg.MakeNoZero"], named := ["consignor/keys.parties", "internal/bytealg.MaxLen", "unicode/utf8.first", "unicode/utf8.acceptRanges"], apart := false, laid := [("unicode/utf8.acceptRanges", laid_unicode_utf8_acceptRanges), ("consignor/keys.parties", laid_consignor_keys_parties), ("unicode/utf8.first", laid_unicode_utf8_first)], narrowed := true }
def StockBackUptoSaid : Prop := stockBackUptoRow.holds Tryd.pinned (OpenSpec.upto stockBackSpec)

/-- 'consignorlaw14.StockForm', WHERE WHAT IT READS IS OF BULK AT MOST 1048576: true; the input reads as it did. -/
def stockFormUptoRow : OpenClaim := { program := "ythhblaagdakdmaadoor", sum := "4c9d465201a0f55eb9d6d6c59f997d7faf5b37da048b006603575be95ef20f8d", func := "consignor/consignorlaw14.StockForm", spec := "stockForm", inPlace := ["internal/abi.NoEscape", "internal/bytealg.IndexByteString", "internal/bytealg.IndexString", "internal/bytealg.CountString", "internal/bytealg.MakeNoZero"], named := ["consignor/keys.parties", "internal/bytealg.MaxLen", "unicode/utf8.first", "unicode/utf8.acceptRanges"], apart := false, laid := [("unicode/utf8.acceptRanges", laid_unicode_utf8_acceptRanges), ("consignor/keys.parties", laid_consignor_keys_parties), ("unicode/utf8.first", laid_unicode_utf8_first)], narrowed := true }
def StockFormUptoSaid : Prop := stockFormUptoRow.holds Tryd.pinned (OpenSpec.upto stockFormSpec)

/-- 'consignorlaw14.StockCount', WHERE WHAT IT READS IS OF BULK AT MOST 1048576: true; the input reads as it did. -/
def stockCountUptoRow : OpenClaim := { program := "ythhblaagdakdmaadoor", sum := "4c9d465201a0f55eb9d6d6c59f997d7faf5b37da048b006603575be95ef20f8d", func := "consignor/consignorlaw14.StockCount", spec := "stockCount", inPlace := ["internal/abi.NoEscape", "internal/bytealg.IndexByteString", "internal/bytealg.IndexString", "internal/bytealg.CountString", "internal/bytealg.MakeNoZero"], recurses := true, named := ["consignor/keys.parties", "internal/bytealg.MaxLen", "unicode/utf8.first", "unicode/utf8.acceptRanges"], apart := false, laid := [("unicode/utf8.acceptRanges", laid_unicode_utf8_acceptRanges), ("consignor/keys.parties", laid_consignor_keys_parties), ("unicode/utf8.first", laid_unicode_utf8_first)], narrowed := true }
def StockCountUptoSaid : Prop := stockCountUptoRow.holds Tryd.pinned (OpenSpec.upto stockCountSpec)

end Rows
end Go.Proofs.YthhblaagdakdmaaDoor
