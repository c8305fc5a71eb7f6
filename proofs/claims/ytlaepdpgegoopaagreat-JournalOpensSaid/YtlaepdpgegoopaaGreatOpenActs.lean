
/- Acts that came in, opened. -/
import Derived.Test.YtlaepdpgegoopaaGreatDiskNone
import Derived.Test.YtlaepdpgegoopaaGreatOpenArgs
import Derived.Deep.Slices
import Derived.DataReads
set_option linter.unusedVariables false
namespace Go.Proofs.YtlaepdpgegoopaaGreat
open Go.ChangeShapes Go.WideShapes Go.ChangeAt Go.RowKit Csv Go.Deep

theorem cells_ints : Tryz.prog.cellsOf 57 = 1 := by kernel_rfl
theorem six_of {α : Type} {l : List α} (h : l.length = 6) : ∃ a b c d e f, l = [a, b, c, d, e, f] := by
  match l, h with
  | [a, b, c, d, e, f], _ => exact ⟨a, b, c, d, e, f, rfl⟩
theorem wf_u8 {n : Int} (h : (Lit.int .u8 n).wf = true) : 0 ≤ n ∧ n ≤ 255 := by
  simp [Lit.wf, IntKind.min, IntKind.max, IntKind.signed, IntKind.bits] at h; omega
end Go.Proofs.YtlaepdpgegoopaaGreat
