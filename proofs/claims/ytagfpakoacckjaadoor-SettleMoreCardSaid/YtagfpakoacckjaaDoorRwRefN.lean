
/- The document's rows: Net. -/
import Derived.Test.YtagfpakoacckjaaDoorRwRefC
set_option linter.unusedVariables false
namespace Go.Proofs.YtagfpakoacckjaaDoor
open Go.ChangeShapes Go.WideShapes Go.ChangeAt Go.RowKit Bit Ky Rw Csv

theorem net_take {order : Int} {L : List R} {k : Nat} {x : R} (hx : L[k]? = some x) : netN order (L.take (k + 1)) = netStep order (netN order (L.take k)) x := by
  have e : L.take (k + 1) = L.take k ++ [x] := by rw [List.take_add_one, hx]; rfl
  rw [e, netN_snoc]
theorem net_bound {order : Int} {L : List R} (h : Rw.Good 0 L) (k : Nat) : -(1099511627776 * 400) ≤ netN order (L.take k) ∧ netN order (L.take k) ≤ 1099511627776 * 400 := by
  have h1 := netN_small order (L.take k) fun x hx => h.each x (List.mem_of_mem_take hx)
  have h2 := List.length_take_le k L
  have h3 := h.len
  have h4 : ((L.take k).length : Int) ≤ 400 := by have := List.length_take_le' k L; omega
  omega
end Go.Proofs.YtagfpakoacckjaaDoor
