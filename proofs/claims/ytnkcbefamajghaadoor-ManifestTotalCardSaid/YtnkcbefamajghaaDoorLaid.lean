
/- The library's variable that a search reads. -/
import Derived.Test.YtnkcbefamajghaaDoorMaxLen
import Derived.Test.YtnkcbefamajghaaDoorOpenSt
import Derived.Shelf.Vars
namespace Go.Proofs.YtnkcbefamajghaaDoor
open Go

theorem hasMax_of {W : World} (h : W.ShapedOpen Tryd.prog) : HasMax W :=
  cell_of_shapedOpen_int (g := 1) (t := 3) (zero := #[.int .i64 0]) h (of_decide_eq_true (by kernel_rfl)) (by kernel_rfl) rfl (by kernel_rfl) (by kernel_rfl) Tryd.underlying3
end Go.Proofs.YtnkcbefamajghaaDoor
