
/- The contract of the document's Whole. -/
import Derived.Test.YtlaepdpgegoopaaRecGetC
import Derived.Test.YtlaepdpgegoopaaCsvMem
import Derived.Maps.AppendAt
set_option linter.unusedVariables false
namespace Go.Proofs.Ytlaepdpgegoopaa
open Go.ChangeShapes Go.WideShapes Go.ChangeAt Go.RowKit Bit Crc Rc Csv

/-- What Whole tells. -/
def WholeOut (l : List UInt8) (w : World) (e : Ending) (w' : World) : Prop :=
  ∃ (xs : List (List UInt8 × Nat)) (a : Nat) (v : Value), e = .returned (.tuple #[v, .int .i64 (a : Int)]) ∧ Done l xs a ∧ w'.ownsRow w.heap.size tS 1 v (pays xs).length (svs (pays xs)) ∧ Keeps w w'
theorem pays_len (xs : List (List UInt8 × Nat)) : (pays xs).length = xs.length := by simp [pays]
theorem own_keeps {w w' : World} {B : Nat} {e : TypeId} {n : Nat} {v : Value} {vals : List Value} (h : w.ownsRow B e 1 v n vals) (k : Keeps w w') : w'.ownsRow B e 1 v n vals :=
  h.kept (grown_of_keeps k) (by cases v.ownBlock <;> simp)
theorem info_S : (Try.prog.info? tS).map (fun i => (i.zero, i.size, i.bytes)) = some (some (.string ByteArray.empty), 1, 16) := by kernel_rfl

end Go.Proofs.Ytlaepdpgegoopaa
