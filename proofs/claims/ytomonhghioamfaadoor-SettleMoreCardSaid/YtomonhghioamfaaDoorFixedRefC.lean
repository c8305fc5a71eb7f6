
/- The document's own answers for fixed: all, fits. -/
import Derived.Test.YtomonhghioamfaaDoorFixedC
set_option linter.unusedVariables false
namespace Go.Proofs.YtomonhghioamfaaDoor
open Go.ChangeShapes Go.WideShapes Go.ChangeAt Go.RowKit Csv Fix

/-- What all widths have together, or -1. -/
def allI (W : List Int) : Int := if okW W = true then (sumW W : Int) else -1
theorem allI_no {W : List Int} (h : okW W = false) : allI W = -1 := by unfold allI; rw [if_neg (by simp [h])]
theorem allI_yes {W : List Int} (h : okW W = true) : allI W = (sumW W : Int) := by unfold allI; rw [if_pos h]

theorem fitB_bad {f : Bs} {n : Int} {k : Nat} {c : UInt8} (hk : f[k]? = some c) (hc : okB c = false) : fitB f n = false := by
  unfold fitB
  have : f.all okB = false := List.all_eq_false.2 ⟨c, List.mem_of_getElem? hk, by simp [hc]⟩
  rw [this, Bool.and_false]; rfl
theorem fitB_all {f : Bs} {n : Int} (h : (f.length : Int) ≤ n) (ho : f.all okB = true) : fitB f n = !endB f := by
  unfold fitB
  rw [decide_eq_true h, ho]; rfl

end Go.Proofs.YtomonhghioamfaaDoor
