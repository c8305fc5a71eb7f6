/-
  NARROWER THAN 'FOR EVERY INPUT', by the rows' own cells (each row's printed sentence says how): SettlePrint: laid · SettleParse: laid · SettleBack: laid · SettleForm: laid · SettleMore: laid.
  DERIVED. THE GIVEN ROWS OF THIS SEAT. 5 by the template 'for every input the law returns true; each argument reads behind the call as it read before'; 0 by the template 'total and deterministic' (their statements: YtjmaldikpdlngaaDoorTotals.lean).
  GIVEN WITH THE SEED: the statements are not yours to turn. If you find one false, say at which input.
  Laid BY PROGRAM, IN A SANDBOX (cutbox-rows.mjs): the forced cells as the released guide's own fill.sh prints them over the translation fe9c4343393890a4… (all of the seat's roots in one cut). By AI agents, Wed Nov 11 2026. No macro, syntax, notation, axiom, sorry.
-/
import Derived.Test.YtjmaldikpdlngaaDoorChecked
import GoSem.PinnedTables
import GoSem.Claim
import GoSem.ClaimJoined
import GoSem.ClaimMapViews
import Derived.JoinedTies
import Derived.KernelRfl
namespace Go.Proofs.YtjmaldikpdlngaaDoor
/- THE CELL 'sum', in the pinned program and in every row, IS THE sha256 OF THE DUMP (.gsa) THAT YtjmaldikpdlngaaDoorProg.lean LOADS. Nothing in Lean hashes anything: it is a label: what it is worth is what the hold of that sum in a sandbox is worth. -/
noncomputable def Tryd.pinned : Pinned := { name := "ytjmaldikpdlngaadoor", sum := "fe9c4343393890a4a87931f0bb3817462768a7639ea059b4b50fecde07ef8442", checked := Tryd.checked }
namespace Rows
def none {H : Type} : Left H := { results := [], args := [] }

/- WHAT THE LISTED PACKAGE-LEVEL VARIABLES READ AS WHEN THE CALL BEGINS. Each datum BY PROGRAM (the guide's laid-datum.mjs) off the statement by which the dump's own 'gosem.cut.vars' lays the variable. In a bare row this is a premise. The card (YtjmaldikpdlngaaDoorCards.lean) ties it to the program's text. -/
def laid_unicode_utf8_acceptRanges {H : Type} : DataW H := .agg [.agg [.lit (.int .u8 128), .lit (.int .u8 191)], .agg [.lit (.int .u8 160), .lit (.int .u8 191)], .agg [.lit (.int .u8 128), .lit (.int .u8 159)], .agg [.lit (.int .u8 144), .lit (.int .u8 191)], .agg [.lit (.int .u8 128), .lit (.int .u8 143)], .agg [.lit (.int .u8 0), .lit (.int .u8 0)], .agg [.lit (.int .u8 0), .lit (.int .u8 0)], .agg [.lit (.int .u8 0), .lit (.int .u8 0)], .agg [.lit (.int .u8 0), .lit (.int .u8 0)], .agg [.lit (.int .u8 0), .lit (.int .u8 0)], .agg [.lit (.int .u8 0), .lit (.int .u8 0)], .agg [.lit (.int .u8 0), .lit (.int .u8 0)], .agg [.lit (.int .u8 0), .lit (.int .u8 0)], .agg [.lit (.int .u8 0), .lit (.int .u8 0)], .agg [.lit (.int .u8 0), .lit (.int .u8 0)], .agg [.lit (.int .u8 0), .lit (.int .u8 0)]]
def laid_consignor_keys_parties {H : Type} : DataW H := .agg [.lit (.int .i64 1), .lit (.int .i64 0), .lit (.int .i64 2), .lit (.int .i64 1), .lit (.int .i64 0), .lit (.int .i64 2)]
/-- One of Go's own tables, pinned by name: the form's constant. -/
def laid_unicode_utf8_first : DataW Unit := Go.Pinned.utf8First

/-- 'consignorlaw13.SettlePrint': WHATEVER THE INPUT: true; the input reads as it did. -/
def settlePrintSpec : ChangeSpec := { name := "settlePrint", fn := fun _ => fun
  | [d] => { results := [.lit (.bool true)], args := [d] }
  | _ => none }
def settlePrintRow : OpenClaim := { program := "ytjmaldikpdlngaadoor", sum := "fe9c4343393890a4a87931f0bb3817462768a7639ea059b4b50fecde07ef8442", func := "consignor/consignorlaw13.SettlePrint", spec := "settlePrint", inPlace := ["internal/abi.NoEscape", "internal/bytealg.MakeNoZero", "internal/bytealg.IndexByteString", "internal/bytealg.IndexString"], unfollowed := true, recurses := true, named := ["consignor/keys.parties", "internal/bytealg.MaxLen", "unicode/utf8.first", "unicode/utf8.acceptRanges"], apart := false, laid := [("unicode/utf8.acceptRanges", laid_unicode_utf8_acceptRanges), ("consignor/keys.parties", laid_consignor_keys_parties), ("unicode/utf8.first", laid_unicode_utf8_first)] }
def SettlePrintSaid : Prop := settlePrintRow.holds Tryd.pinned (OpenSpec.ofChange settlePrintSpec)

/-- ITS FALSE NEIGHBOUR: 'it returns false'. Refute it at one input. -/
def settlePrintWrong : ChangeSpec := { name := "settlePrint", fn := fun _ => fun
  | [d] => { results := [.lit (.bool false)], args := [d] }
  | _ => none }
def SettlePrintWrongFalsely : Prop := settlePrintRow.holds Tryd.pinned (OpenSpec.ofChange settlePrintWrong)

/-- 'consignorlaw13.SettleParse': WHATEVER THE INPUT: true; the input reads as it did. -/
def settleParseSpec : ChangeSpec := { name := "settleParse", fn := fun _ => fun
  | [d] => { results := [.lit (.bool true)], args := [d] }
  | _ => none }
def settleParseRow : OpenClaim := { program := "ytjmaldikpdlngaadoor", sum := "fe9c4343393890a4a87931f0bb3817462768a7639ea059b4b50fecde07ef8442", func := "consignor/consignorlaw13.SettleParse", spec := "settleParse", inPlace := ["internal/abi.NoEscape", "internal/bytealg.MakeNoZero", "internal/bytealg.IndexByteString", "internal/bytealg.IndexString"], unfollowed := true, recurses := true, named := ["consignor/keys.parties", "internal/bytealg.MaxLen", "unicode/utf8.first", "unicode/utf8.acceptRanges"], apart := false, laid := [("unicode/utf8.acceptRanges", laid_unicode_utf8_acceptRanges), ("consignor/keys.parties", laid_consignor_keys_parties), ("unicode/utf8.first", laid_unicode_utf8_first)] }
def SettleParseSaid : Prop := settleParseRow.holds Tryd.pinned (OpenSpec.ofChange settleParseSpec)

/-- ITS FALSE NEIGHBOUR: 'it returns false'. Refute it at one input. -/
def settleParseWrong : ChangeSpec := { name := "settleParse", fn := fun _ => fun
  | [d] => { results := [.lit (.bool false)], args := [d] }
  | _ => none }
def SettleParseWrongFalsely : Prop := settleParseRow.holds Tryd.pinned (OpenSpec.ofChange settleParseWrong)

/-- 'consignorlaw13.SettleBack': WHATEVER THE INPUT: true; the input reads as it did. -/
def settleBackSpec : ChangeSpec := { name := "settleBack", fn := fun _ => fun
  | [d1, d2] => { results := [.lit (.bool true)], args := [d1, d2] }
  | _ => none }
def settleBackRow : OpenClaim := { program := "ytjmaldikpdlngaadoor", sum := "fe9c4343393890a4a87931f0bb3817462768a7639ea059b4b50fecde07ef8442", func := "consignor/consignorlaw13.SettleBack", spec := "settleBack", inPlace := ["internal/abi.NoEscape", "internal/bytealg.MakeNoZero", "internal/bytealg.IndexByteString", "internal/bytealg.IndexString"], unfollowed := true, recurses := true, named := ["consignor/keys.parties", "internal/bytealg.MaxLen", "unicode/utf8.first", "unicode/utf8.acceptRanges"], apart := false, laid := [("unicode/utf8.acceptRanges", laid_unicode_utf8_acceptRanges), ("consignor/keys.parties", laid_consignor_keys_parties), ("unicode/utf8.first", laid_unicode_utf8_first)] }
def SettleBackSaid : Prop := settleBackRow.holds Tryd.pinned (OpenSpec.ofChange settleBackSpec)

/-- ITS FALSE NEIGHBOUR: 'it returns false'. Refute it at one input. -/
def settleBackWrong : ChangeSpec := { name := "settleBack", fn := fun _ => fun
  | [d1, d2] => { results := [.lit (.bool false)], args := [d1, d2] }
  | _ => none }
def SettleBackWrongFalsely : Prop := settleBackRow.holds Tryd.pinned (OpenSpec.ofChange settleBackWrong)

/-- 'consignorlaw13.SettleForm': WHATEVER THE INPUT: true; the input reads as it did. -/
def settleFormSpec : ChangeSpec := { name := "settleForm", fn := fun _ => fun
  | [d] => { results := [.lit (.bool true)], args := [d] }
  | _ => none }
def settleFormRow : OpenClaim := { program := "ytjmaldikpdlngaadoor", sum := "fe9c4343393890a4a87931f0bb3817462768a7639ea059b4b50fecde07ef8442", func := "consignor/consignorlaw13.SettleForm", spec := "settleForm", inPlace := ["internal/abi.NoEscape", "internal/bytealg.MakeNoZero", "internal/bytealg.IndexByteString", "internal/bytealg.IndexString"], unfollowed := true, recurses := true, named := ["consignor/keys.parties", "internal/bytealg.MaxLen", "unicode/utf8.first", "unicode/utf8.acceptRanges"], apart := false, laid := [("unicode/utf8.acceptRanges", laid_unicode_utf8_acceptRanges), ("consignor/keys.parties", laid_consignor_keys_parties), ("unicode/utf8.first", laid_unicode_utf8_first)] }
def SettleFormSaid : Prop := settleFormRow.holds Tryd.pinned (OpenSpec.ofChange settleFormSpec)

/-- ITS FALSE NEIGHBOUR: 'it returns false'. Refute it at one input. -/
def settleFormWrong : ChangeSpec := { name := "settleForm", fn := fun _ => fun
  | [d] => { results := [.lit (.bool false)], args := [d] }
  | _ => none }
def SettleFormWrongFalsely : Prop := settleFormRow.holds Tryd.pinned (OpenSpec.ofChange settleFormWrong)

/-- 'consignorlaw13.SettleMore': WHATEVER THE INPUT: true; the input reads as it did. -/
def settleMoreSpec : ChangeSpec := { name := "settleMore", fn := fun _ => fun
  | [d1, d2, d3] => { results := [.lit (.bool true)], args := [d1, d2, d3] }
  | _ => none }
def settleMoreRow : OpenClaim := { program := "ytjmaldikpdlngaadoor", sum := "fe9c4343393890a4a87931f0bb3817462768a7639ea059b4b50fecde07ef8442", func := "consignor/consignorlaw13.SettleMore", spec := "settleMore", inPlace := ["internal/abi.NoEscape", "internal/bytealg.MakeNoZero", "internal/bytealg.IndexByteString", "internal/bytealg.IndexString"], unfollowed := true, recurses := true, named := ["consignor/keys.parties", "internal/bytealg.MaxLen", "unicode/utf8.first", "unicode/utf8.acceptRanges"], apart := false, laid := [("unicode/utf8.acceptRanges", laid_unicode_utf8_acceptRanges), ("consignor/keys.parties", laid_consignor_keys_parties), ("unicode/utf8.first", laid_unicode_utf8_first)] }
def SettleMoreSaid : Prop := settleMoreRow.holds Tryd.pinned (OpenSpec.ofChange settleMoreSpec)

/-- ITS FALSE NEIGHBOUR: 'it returns false'. Refute it at one input. -/
def settleMoreWrong : ChangeSpec := { name := "settleMore", fn := fun _ => fun
  | [d1, d2, d3] => { results := [.lit (.bool false)], args := [d1, d2, d3] }
  | _ => none }
def SettleMoreWrongFalsely : Prop := settleMoreRow.holds Tryd.pinned (OpenSpec.ofChange settleMoreWrong)

/- THE SECOND FORM. 'bulk': how many values and letters a reading holds, each counted each time it is reached (what is shared counts as often as it is met; a slice's spare places count too). A statement '..UptoSaid' is the law's where the arguments, and the package variables that the reading takes, are together of bulk at most 1048576: NARROWER than '..Said'. Prove '..Said' where nothing that the law and all that it calls make is longer than what came in: it says more and counts as full. Else prove '..UptoSaid'. A law counts once. -/
mutual
def uptoBulk {H : Type} : DataW H → Nat
  | .lit (.string bytes) => bytes.length + 1
  | .lit _ => 1
  | .nil => 1
  | .ptr d => uptoBulk d + 1
  | .slice elems spare => uptoBulkAll elems + uptoBulkAll spare + 1
  | .agg parts => uptoBulkAll parts + 1
  | .iface _ d => uptoBulk d + 1
  | .map entries => uptoBulkEntries entries + 1
  | .held _ => 1
def uptoBulkAll {H : Type} : List (DataW H) → Nat
  | [] => 0
  | d :: r => uptoBulk d + uptoBulkAll r
def uptoBulkEntries {H : Type} : List (Lit × DataW H) → Nat
  | [] => 0
  | x :: r => uptoBulkEntry x + uptoBulkEntries r
def uptoBulkEntry {H : Type} : Lit × DataW H → Nat
  | (.string bytes, d) => bytes.length + uptoBulk d + 1
  | (_, d) => uptoBulk d + 1
 end
def uptoSmall : (H : Type) → List (DataW H) → Bool := fun _ ds => decide (uptoBulkAll ds ≤ 1048576)
def OpenSpec.upto (s : _root_.Go.ChangeSpec) : _root_.Go.OpenSpec := { _root_.Go.OpenSpec.ofChange s with cond := some uptoSmall }

/-- 'consignorlaw13.SettlePrint', WHERE WHAT IT READS IS OF BULK AT MOST 1048576: true; the input reads as it did. -/
def settlePrintUptoRow : OpenClaim := { program := "ytjmaldikpdlngaadoor", sum := "fe9c4343393890a4a87931f0bb3817462768a7639ea059b4b50fecde07ef8442", func := "consignor/consignorlaw13.SettlePrint", spec := "settlePrint", inPlace := ["internal/abi.NoEscape", "internal/bytealg.MakeNoZero", "internal/bytealg.IndexByteString", "internal/bytealg.IndexString"], unfollowed := true, recurses := true, named := ["consignor/keys.parties", "internal/bytealg.MaxLen", "unicode/utf8.first", "unicode/utf8.acceptRanges"], apart := false, laid := [("unicode/utf8.acceptRanges", laid_unicode_utf8_acceptRanges), ("consignor/keys.parties", laid_consignor_keys_parties), ("unicode/utf8.first", laid_unicode_utf8_first)], narrowed := true }
def SettlePrintUptoSaid : Prop := settlePrintUptoRow.holds Tryd.pinned (OpenSpec.upto settlePrintSpec)

/-- 'consignorlaw13.SettleParse', WHERE WHAT IT READS IS OF BULK AT MOST 1048576: true; the input reads as it did. -/
def settleParseUptoRow : OpenClaim := { program := "ytjmaldikpdlngaadoor", sum := "fe9c4343393890a4a87931f0bb3817462768a7639ea059b4b50fecde07ef8442", func := "consignor/consignorlaw13.SettleParse", spec := "settleParse", inPlace := ["internal/abi.NoEscape", "internal/bytealg.MakeNoZero", "internal/bytealg.IndexByteString", "internal/bytealg.IndexString"], unfollowed := true, recurses := true, named := ["consignor/keys.parties", "internal/bytealg.MaxLen", "unicode/utf8.first", "unicode/utf8.acceptRanges"], apart := false, laid := [("unicode/utf8.acceptRanges", laid_unicode_utf8_acceptRanges), ("consignor/keys.parties", laid_consignor_keys_parties), ("unicode/utf8.first", laid_unicode_utf8_first)], narrowed := true }
def SettleParseUptoSaid : Prop := settleParseUptoRow.holds Tryd.pinned (OpenSpec.upto settleParseSpec)

/-- 'consignorlaw13.SettleBack', WHERE WHAT IT READS IS OF BULK AT MOST 1048576: true; the input reads as it did. -/
def settleBackUptoRow : OpenClaim := { program := "ytjmaldikpdlngaadoor", sum := "fe9c4343393890a4a87931f0bb3817462768a7639ea059b4b50fecde07ef8442", func := "consignor/consignorlaw13.SettleBack", spec := "settleBack", inPlace := ["internal/abi.NoEscape", "internal/bytealg.MakeNoZero", "internal/bytealg.IndexByteString", "internal/bytealg.IndexString"], unfollowed := true, recurses := true, named := ["consignor/keys.parties", "internal/bytealg.MaxLen", "unicode/utf8.first", "unicode/utf8.acceptRanges"], apart := false, laid := [("unicode/utf8.acceptRanges", laid_unicode_utf8_acceptRanges), ("consignor/keys.parties", laid_consignor_keys_parties), ("unicode/utf8.first", laid_unicode_utf8_first)], narrowed := true }
def SettleBackUptoSaid : Prop := settleBackUptoRow.holds Tryd.pinned (OpenSpec.upto settleBackSpec)

/-- 'consignorlaw13.SettleForm', WHERE WHAT IT READS IS OF BULK AT MOST 1048576: true; the input reads as it did. -/
def settleFormUptoRow : OpenClaim := { program := "ytjmaldikpdlngaadoor", sum := "fe9c4343393890a4a87931f0bb3817462768a7639ea059b4b50fecde07ef8442", func := "consignor/consignorlaw13.SettleForm", spec := "settleForm", inPlace := ["internal/abi.NoEscape", "internal/bytealg.MakeNoZero", "internal/bytealg.IndexByteString", "internal/bytealg.IndexString"], unfollowed := true, recurses := true, named := ["consignor/keys.parties", "internal/bytealg.MaxLen", "unicode/utf8.first", "unicode/utf8.acceptRanges"], apart := false, laid := [("unicode/utf8.acceptRanges", laid_unicode_utf8_acceptRanges), ("consignor/keys.parties", laid_consignor_keys_parties), ("unicode/utf8.first", laid_unicode_utf8_first)], narrowed := true }
def SettleFormUptoSaid : Prop := settleFormUptoRow.holds Tryd.pinned (OpenSpec.upto settleFormSpec)

/-- 'consignorlaw13.SettleMore', WHERE WHAT IT READS IS OF BULK AT MOST 1048576: true; the input reads as it did. -/
def settleMoreUptoRow : OpenClaim := { program := "ytjmaldikpdlngaadoor", sum := "fe9c4343393890a4a87931f0bb3817462768a7639ea059b4b50fecde07ef8442", func := "consignor/consignorlaw13.SettleMore", spec := "settleMore", inPlace := ["internal/abi.NoEscape", "internal/bytealg.MakeNoZero", "internal/bytealg.IndexByteString", "internal/bytealg.IndexString"], unfollowed := true, recurses := true, named := ["consignor/keys.parties", "internal/bytealg.MaxLen", "unicode/utf8.first", "unicode/utf8.acceptRanges"], apart := false, laid := [("unicode/utf8.acceptRanges", laid_unicode_utf8_acceptRanges), ("consignor/keys.parties", laid_consignor_keys_parties), ("unicode/utf8.first", laid_unicode_utf8_first)], narrowed := true }
def SettleMoreUptoSaid : Prop := settleMoreUptoRow.holds Tryd.pinned (OpenSpec.upto settleMoreSpec)

end Rows
end Go.Proofs.YtjmaldikpdlngaaDoor
