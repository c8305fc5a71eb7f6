
/- The document's own answer for fixed: Print. -/
import Derived.Test.YtomonhghioamfaaDoorFixedRefC
import Derived.Test.YtomonhghioamfaaDoorFixedPrintC
import Derived.Deep.RegionWith
import Derived.Deep.QuietTactic
import Derived.BigQuiet
set_option linter.unusedVariables false
namespace Go.Proofs.YtomonhghioamfaaDoor
open Go.ChangeShapes Go.WideShapes Go.ChangeAt Go.RowKit Csv Fix

theorem fiSize_of (s : ByteArray) : s.size = s.data.toList.length := by rw [len_data]
theorem cat_of (a b : ByteArray) : (a ++ b).data.toList = a.data.toList ++ b.data.toList := by simp
theorem drewN_keeps (w : World) (n : Nat) : Keeps w (w.drewN n) := ⟨rfl, rfl, rfl, Nat.le_refl _, fun _ _ => rfl⟩
theorem quiet_same {P : Program} {f : FuncId} {args : Array Value} {w : World} {n : Nat} {v : Value}
    (h : Calls P f args (w.drewN n) fun e w' => e = .returned v ∧ w.drewN n = w') : Calls P f args (w.drewN n) fun e w'' => e = .returned v ∧ ∃ m, w'' = w.drewN m :=
  h.mono fun _ _ ⟨he, hm⟩ => ⟨he, n, hm.symm⟩

theorem blank_more {m n : Nat} (h : m ≤ n) : List.replicate (n + 1 - m) (32 : UInt8) = List.replicate (n - m) 32 ++ [32] := by
  rw [Nat.succ_sub h, List.replicate_succ']
/-- A line under way, and blanks behind the last field. -/
def LineTo (W : List Int) (F : List Bs) (k : Nat) (f : Bs) (q : Nat) (S : ByteArray) : Prop := S.data.toList = lineS (W.take k) (F.take k) ++ (f ++ List.replicate (q - f.length) 32)

end Go.Proofs.YtomonhghioamfaaDoor
