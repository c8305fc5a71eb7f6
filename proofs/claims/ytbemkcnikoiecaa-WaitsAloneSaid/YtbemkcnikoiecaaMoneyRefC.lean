
/- The contracts of the document's digits, Put, Get, Pad, Unpad (layer 1). -/
import Derived.Test.YtbemkcnikoiecaaMoneyMath
set_option linter.unusedVariables false
namespace Go.Proofs.Ytbemkcnikoiecaa
open Go.ChangeShapes Go.WideShapes Go.ChangeAt Go.RowKit Mon

theorem dig_front1 (k N : Nat) : (⟨#[dg (N / 10 ^ k)]⟩ : ByteArray) ++ ⟨(dig k N).toArray⟩ = ⟨(dig (k + 1) N).toArray⟩ := by
  rw [dig_front]; exact ByteArray.mk_append_mk [_] _

/-- For a measure: is nothing there yet? -/
def emp : Value → Nat | .string b => if b.size = 0 then 1 else 0 | _ => 0

end Go.Proofs.Ytbemkcnikoiecaa
