
/- SettlePrint: the walk. -/
import Derived.Test.YtomonhghioamfaaGreatDoorSeL1
import Derived.Test.YtomonhghioamfaaGreatDoorStRefP
set_option linter.unusedVariables false
namespace Go.Proofs.YtomonhghioamfaaGreatDoor
open Go.ChangeShapes Go.WideShapes Go.ChangeAt Go.RowKit Ky Rw Stl

theorem same_self (p s : Int) (L : List R) : sameB p s p s L L = true := by unfold sameB; simp
/-- A statement in a box of the law's own. -/
theorem st_box (w : World) (p s : Int) (v : Value) : ∀ W, Keeps (w.alloc (stBox p s v)) W → W.heap[w.heap.size]? = some (.cells #[.int .i64 p, .int .i64 s, v] tSt (0, 0)) := fun W k => (k.block _ (by simp)).trans (heap_alloc_new w (stBox p s v))
end Go.Proofs.YtomonhghioamfaaGreatDoor
