
/- The contracts of the document's Read, Cut (layer 2). -/
import Derived.Test.YtkffpmeocfhcpaaDoorBitsRefC
import Derived.Test.YtkffpmeocfhcpaaDoorBitsCutC
set_option linter.unusedVariables false
namespace Go.Proofs.YtkffpmeocfhcpaaDoor
open Go.ChangeShapes Go.WideShapes Go.ChangeAt Go.RowKit Bit

theorem drop_one (s : ByteArray) (m j : Nat) (hj : j < m) (hm : m ≤ s.size) : (s.data.toList.take m).drop j = (s[j]'(by omega)) :: (s.data.toList.take m).drop (j + 1) := by
  rw [List.drop_eq_getElem_cons (by rw [List.length_take, len_data]; omega), List.getElem_take]
  rfl
theorem lo_step (s : ByteArray) (m j : Nat) (hj : j < m) (hm : m ≤ s.size) : lo ((s.data.toList.take m).drop j) = (s[j]'(by omega)).toNat % 128 + 128 * lo ((s.data.toList.take m).drop (j + 1)) := by
  rw [drop_one s m j hj hm, lo]
theorem lo_wrap (a c : Nat) (hc : c < 256) : IntKind.u64.wrap (IntKind.u64.wrap ((a : Int) % (topN : Int) * 128) + (c : Int) % 128) = (((c % 128 + 128 * a) % topN : Nat) : Int) := by
  rw [u64w_mod, u64w_mod]
  unfold topN
  omega

end Go.Proofs.YtkffpmeocfhcpaaDoor
