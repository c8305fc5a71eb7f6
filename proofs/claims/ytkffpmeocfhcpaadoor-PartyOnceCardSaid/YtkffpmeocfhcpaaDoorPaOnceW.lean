
/- PartyOnce: the walk, of a number of 32 bits as it comes. -/
import Derived.Test.YtkffpmeocfhcpaaDoorPaOnce
set_option linter.unusedVariables false
namespace Go.Proofs.YtkffpmeocfhcpaaDoor
open Go.ChangeShapes Go.WideShapes Go.ChangeAt Go.RowKit Ky Rw Od
namespace Pa
theorem n32_of {n : Int} (h : (Lit.int .u32 n).wf = true) : ∃ c : Nat, n = (c : Int) ∧ c < 4294967296 := by
  simp only [Lit.wf, IntKind.min, IntKind.max, IntKind.signed, IntKind.bits, Bool.and_eq_true] at h
  refine ⟨n.toNat, ?_⟩
  simp at h
  omega
theorem partyOnce_go' (kind stock limit : Int) (v : Value) (L : List Pt.M) (a : Int) (w : World) (hp : HasP w) (hv : MsgsAt w v L) (ha : (Lit.int .u32 a).wf = true) :
    Calls Tryd.prog 5 #[fmV kind stock limit, v, .int .u32 a] w fun e w' => e = .returned (.bool true) ∧ Keeps w w' := by
  obtain ⟨C, rfl, hC⟩ := n32_of ha
  exact partyOnce_go kind stock limit v L C w hp hv hC
end Pa
end Go.Proofs.YtkffpmeocfhcpaaDoor
