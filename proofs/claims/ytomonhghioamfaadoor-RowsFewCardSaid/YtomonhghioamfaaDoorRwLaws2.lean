
/- RowsFew's walk, out of what the program answers. -/
import Derived.Test.YtomonhghioamfaaDoorRwLaws
import Derived.Test.YtomonhghioamfaaDoorRwFewL
set_option linter.unusedVariables false
namespace Go.Proofs.YtomonhghioamfaaDoor
open Go.ChangeShapes Go.WideShapes Go.ChangeAt Go.RowKit Bit Ky Rw Csv

theorem rowsFew_go' (v : Value) (L : List R) (p n : Int) (w : World) (hp : HasP w) (hl : RowsIn w v L) (_ : I64 p) (hn : (Lit.int .u16 n).wf = true) :
    Calls Tryd.prog 6 #[v, .int .i64 p, .int .u16 n] w fun e w' => e = .returned (.bool true) ∧ Keeps w w' := by
  obtain ⟨C, rfl, hC⟩ := u16_of hn
  exact rowsFew_go rwP v L p C w hp hl hC
end Go.Proofs.YtomonhghioamfaaDoor
