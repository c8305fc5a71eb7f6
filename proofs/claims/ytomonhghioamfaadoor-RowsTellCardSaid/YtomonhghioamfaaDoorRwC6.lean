
/- The program's rows: all that they must answer. -/
import Derived.Test.YtomonhghioamfaaDoorRwCP
import Derived.Test.YtomonhghioamfaaDoorRwC5
set_option linter.unusedVariables false
namespace Go.Proofs.YtomonhghioamfaaDoor
open Go.ChangeShapes Go.WideShapes Go.ChangeAt Go.RowKit Bit Ky Rw Csv

theorem rwP : RwP := ⟨pw_check, pw_valid, pw_same, pw_net, pw_put, fun s w hp hs => pw_get s w hp hs⟩
end Go.Proofs.YtomonhghioamfaaDoor
