
/- The library's variable that a search reads holds a number. -/
import Derived.Test.YtnkcbefamajghaaDoorArith
set_option linter.unusedVariables false
namespace Go.Proofs.YtnkcbefamajghaaDoor
open Go.ChangeShapes Go.WideShapes Go.ChangeAt Go.RowKit

/-- The library's one variable that a search reads holds a number. -/
def HasMax (w : World) : Prop := ∃ m : Int, w.cell? ⟨1, 0, none⟩ = some (.int .i64 m)
theorem HasMax.keeps {w w' : World} (h : HasMax w) (k : Keeps w w') : HasMax w' := by
  obtain ⟨m, hm⟩ := h
  exact ⟨m, by rw [k.cell (World.block_lt_of_cell? w _ hm)]; exact hm⟩

end Go.Proofs.YtnkcbefamajghaaDoor
