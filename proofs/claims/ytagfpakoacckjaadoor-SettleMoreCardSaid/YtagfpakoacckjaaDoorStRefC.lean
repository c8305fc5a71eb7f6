
/- The document's files of the payment: number, header, trailer. -/
import Derived.Test.YtagfpakoacckjaaDoorStMath
import Derived.Test.YtagfpakoacckjaaDoorMoneyRef2C
import Derived.Test.YtagfpakoacckjaaDoorFixedC
import Derived.Test.YtagfpakoacckjaaDoorRwMem
import Derived.Test.YtagfpakoacckjaaDoorHeldSteps
import Derived.LoopN
import Derived.Deep.RegionHeld3
import Derived.Deep.QuietTactic
import Derived.BigQuiet
import Derived.Deep.Cut
set_option linter.unusedVariables false
namespace Go.Proofs.YtagfpakoacckjaaDoor
open Go.ChangeShapes Go.WideShapes Go.ChangeAt Go.RowKit Ky Rw Csv Stl

theorem num18 {l : List UInt8} : 0 ≤ Mon.unpadV l ∧ Mon.unpadV l < 1000000000000000000 := by
  unfold Mon.unpadV
  split
  · rename_i h
    have := Mon.num19 h
    omega
  · omega
end Go.Proofs.YtagfpakoacckjaaDoor
