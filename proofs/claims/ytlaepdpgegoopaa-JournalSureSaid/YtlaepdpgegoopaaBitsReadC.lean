
/- The contracts of bits.Read, Cut. -/
import Derived.Test.YtlaepdpgegoopaaBitsVarC
import Derived.Test.YtlaepdpgegoopaaBitsOr
import Derived.Deep.RegionWith
import Derived.Deep.QuietTactic
import Derived.BigQuiet
import Derived.Deep.Cut
set_option linter.unusedVariables false
namespace Go.Proofs.Ytlaepdpgegoopaa
open Go.ChangeShapes Go.WideShapes Go.ChangeAt Go.RowKit Bit

theorem keeps_drewN {w w' : World} (h : Keeps w w') (n : Nat) : Keeps w (w'.drewN n) := Below.trans h ⟨rfl, rfl, rfl, Nat.le_refl _, fun _ _ => rfl⟩
theorem ret3 {k : IntKind} {a b : Int} {s t : ByteArray} {c d : Bool} (h : a = b) (g : s = t) (f : c = d) : Ending.returned (.tuple #[.int k a, .string s, .bool c]) = .returned (.tuple #[.int k b, .string t, .bool d]) := by rw [h, g, f]
theorem ret3s {a b : ByteArray} {s t : ByteArray} {c d : Bool} (h : a = b) (g : s = t) (f : c = d) : Ending.returned (.tuple #[.string a, .string s, .bool c]) = .returned (.tuple #[.string b, .string t, .bool d]) := by rw [h, g, f]

end Go.Proofs.Ytlaepdpgegoopaa
