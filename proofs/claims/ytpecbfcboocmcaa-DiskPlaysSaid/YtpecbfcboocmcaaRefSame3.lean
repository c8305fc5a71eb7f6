
/- Same, whatever both disks are. -/
import Derived.Test.YtpecbfcboocmcaaRefSame
import Derived.Test.YtpecbfcboocmcaaRefSame2
set_option linter.unusedVariables false
namespace Go.Proofs.Ytpecbfcboocmcaa
open Go.ChangeShapes Go.WideShapes Go.ChangeAt Go.RowKit Go.Maps Csv Dk

theorem same_any (d r : Nat) (D R : DiskM) (G GR : List Nat) (w : World) (h : Pair w d r D R G GR) (hS : Sim 0 D R) :
    Calls Try.prog 9 #[ptrV d, ptrV r] w fun e w' => e = .returned (.bool true) ∧ Keeps w w' := by
  cases hu : D.up with
  | true => exact same_up d r D R G GR w h hS hu
  | false => exact same_down d r D R G GR w h hS hu
end Go.Proofs.Ytpecbfcboocmcaa
