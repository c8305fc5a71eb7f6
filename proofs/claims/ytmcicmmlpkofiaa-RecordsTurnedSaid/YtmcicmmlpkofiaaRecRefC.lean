
/- The contracts of the document's Put, Get of records. -/
import Derived.Test.YtmcicmmlpkofiaaRecGetC
import Derived.Test.YtmcicmmlpkofiaaBitsRefC
import Derived.Test.YtmcicmmlpkofiaaSumsRefC
set_option linter.unusedVariables false
namespace Go.Proofs.Ytmcicmmlpkofiaa
open Go.ChangeShapes Go.WideShapes Go.ChangeAt Go.RowKit Bit Crc Rc

/-! ### Get -/
end Go.Proofs.Ytmcicmmlpkofiaa
