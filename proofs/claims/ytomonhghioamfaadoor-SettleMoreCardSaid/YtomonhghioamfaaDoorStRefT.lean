
/- The document's files of the payment: trailer. -/
import Derived.Test.YtomonhghioamfaaDoorStRefD
import Derived.Test.YtomonhghioamfaaDoorStMath2
import Derived.Test.YtomonhghioamfaaDoorKyRefG
set_option linter.unusedVariables false
namespace Go.Proofs.YtomonhghioamfaaDoor
open Go.ChangeShapes Go.WideShapes Go.ChangeAt Go.RowKit Ky Rw Csv Stl

theorem tot_take {A : List R} {k : Nat} {x : R} (hx : A[k]? = some x) : totA (A.take (k + 1)) = totA (A.take k) + x.a := by
  rw [List.take_add_one, hx]
  exact tot_snoc _ _
theorem tot_part {A : List R} (h : ∀ x ∈ A, Row1 0 x) (hl : A.length ≤ 400) (k : Nat) : 0 ≤ totA (A.take k) ∧ totA (A.take k) ≤ 439804651110400 := by
  obtain ⟨h1, h2⟩ := tot_le (L := A.take k) fun x hx => h x (List.mem_of_mem_take hx)
  have := List.length_take_le' k A
  omega
end Go.Proofs.YtomonhghioamfaaDoor
