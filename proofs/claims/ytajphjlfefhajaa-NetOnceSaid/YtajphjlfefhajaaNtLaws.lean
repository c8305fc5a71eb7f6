/- The laws of the net, over the program's own. -/
import Derived.Test.YtajphjlfefhajaaNtC4
import Derived.Test.YtajphjlfefhajaaNtOpen
import Derived.Test.YtajphjlfefhajaaNtPlays
import Derived.Test.YtajphjlfefhajaaNtFull
import Derived.Test.YtajphjlfefhajaaNtOnce
set_option linter.unusedVariables false
namespace Go.Proofs.Ytajphjlfefhajaa
open Go.ChangeShapes Go.WideShapes Go.ChangeAt Go.RowKit Csv
namespace Nt
theorem nu16_of {n : Int} (h : (Lit.int .u16 n).wf = true) : 0 ≤ n ∧ n ≤ 65535 := by
  simp [Lit.wf, IntKind.min, IntKind.max, IntKind.signed, IntKind.bits] at h; omega
theorem netFull_all (n : Int) (W : World) (h : (Lit.int .u16 n).wf = true) :
    Calls Try.prog 6 #[.int .u16 n] W fun e w' => e = .returned (.bool true) ∧ Keeps W w' := by
  have hn := nu16_of h
  obtain ⟨C, rfl⟩ : ∃ C : Nat, n = C := ⟨n.toNat, by omega⟩
  exact netFull_go ntP C W (by omega)
theorem netPlays_all (v : Value) (L : List Ac) (W : World) (h : AcsAt W v L) :
    Calls Try.prog 3 #[v] W fun e w' => e = .returned (.bool true) ∧ Keeps W w' := netPlays_go ntP v L W h
theorem netOnce_all (v : Value) (L : List Ac) (W : World) (h : AcsAt W v L) :
    Calls Try.prog 5 #[v] W fun e w' => e = .returned (.bool true) ∧ Keeps W w' := netOnce_go ntP v L W h
end Nt
end Go.Proofs.Ytajphjlfefhajaa
