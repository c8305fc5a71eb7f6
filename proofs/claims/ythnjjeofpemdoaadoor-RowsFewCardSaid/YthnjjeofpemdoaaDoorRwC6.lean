/- The program's rows: all that they must answer. -/
import Derived.Test.YthnjjeofpemdoaaDoorRwC2
import Derived.Test.YthnjjeofpemdoaaDoorRwC5
set_option linter.unusedVariables false
namespace Go.Proofs.YthnjjeofpemdoaaDoor
open Go.ChangeShapes Go.WideShapes Go.ChangeAt Go.RowKit Bit Ky Rw Csv

theorem rwP : RwP := ⟨pw_check, pw_valid, pw_same, pw_net, pw_put, fun s w hp hs => pw_get s w hp hs⟩
end Go.Proofs.YthnjjeofpemdoaaDoor
