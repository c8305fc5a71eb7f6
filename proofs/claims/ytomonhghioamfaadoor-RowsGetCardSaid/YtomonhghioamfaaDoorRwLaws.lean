
/- The laws' walks of rows, out of what the program answers. -/
import Derived.Test.YtomonhghioamfaaDoorRwC6
import Derived.Test.YtomonhghioamfaaDoorRwTellL
import Derived.Test.YtomonhghioamfaaDoorRwGetL
import Derived.Test.YtomonhghioamfaaDoorRwBackL
set_option linter.unusedVariables false
namespace Go.Proofs.YtomonhghioamfaaDoor
open Go.ChangeShapes Go.WideShapes Go.ChangeAt Go.RowKit Bit Ky Rw Csv

theorem u16_of {n : Int} (h : (Lit.int .u16 n).wf = true) : ∃ N : Nat, n = N ∧ N < 65536 := by
  simp only [Lit.wf, IntKind.min, IntKind.max, IntKind.signed, IntKind.bits, Bool.and_eq_true] at h
  refine ⟨n.toNat, ?_, ?_⟩ <;> simp at h <;> omega
theorem rowsBack_go' (p s : Int) (v : Value) (L : List R) (h : ByteArray) (n : Int) (w : World) (hp : HasP w) (hl : RowsIn w v L) (hh : h.size ≤ maxLen) (hn : (Lit.int .u16 n).wf = true) :
    Calls Tryd.prog 5 #[stV p s v, .string h, .int .u16 n] w fun e w' => e = .returned (.bool true) ∧ Keeps w w' := by
  obtain ⟨C, rfl, hC⟩ := u16_of hn
  exact rowsBack_go rwP p s v L h C w hp hl hh hC
end Go.Proofs.YtomonhghioamfaaDoor
