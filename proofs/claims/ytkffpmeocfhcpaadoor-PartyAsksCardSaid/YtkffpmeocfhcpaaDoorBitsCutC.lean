
/- The contract of bits.Cut. -/
import Derived.Test.YtkffpmeocfhcpaaDoorBitsReadC
set_option linter.unusedVariables false
namespace Go.Proofs.YtkffpmeocfhcpaaDoor
open Go.ChangeShapes Go.WideShapes Go.ChangeAt Go.RowKit Bit

theorem rdR_len (l : List UInt8) : (rdR l).length ≤ l.length := by
  unfold rdR; split
  · rw [List.length_drop]; omega
  · simp

end Go.Proofs.YtkffpmeocfhcpaaDoor
