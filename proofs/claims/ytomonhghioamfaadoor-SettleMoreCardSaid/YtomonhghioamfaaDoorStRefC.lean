
/- The document's files of the payment: number, header, trailer. -/
import Derived.Test.YtomonhghioamfaaDoorStMath
import Derived.Test.YtomonhghioamfaaDoorMoneyRef2C
import Derived.Test.YtomonhghioamfaaDoorFixedC
import Derived.Test.YtomonhghioamfaaDoorRwMem
import Derived.Test.YtomonhghioamfaaDoorHeldSteps
import Derived.LoopN
import Derived.Deep.RegionHeld3
import Derived.Deep.QuietTactic
import Derived.BigQuiet
import Derived.Deep.Cut
set_option linter.unusedVariables false
namespace Go.Proofs.YtomonhghioamfaaDoor
open Go.ChangeShapes Go.WideShapes Go.ChangeAt Go.RowKit Ky Rw Csv Stl

theorem num18 {l : List UInt8} : 0 ≤ Mon.unpadV l ∧ Mon.unpadV l < 1000000000000000000 := by
  unfold Mon.unpadV
  split
  · rename_i h
    have := Mon.num19 h
    omega
  · omega
end Go.Proofs.YtomonhghioamfaaDoor
