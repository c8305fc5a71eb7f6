
/- The document's rows: Check, Valid. -/
import Derived.Test.YtkffpmeocfhcpaaDoorRwMem
import Derived.LoopN
import Derived.Deep.RegionHeld3
import Derived.Deep.QuietTactic
import Derived.BigQuiet
import Derived.Deep.Cut
import Derived.Test.YtkffpmeocfhcpaaDoorKyRefG
import Derived.Test.YtkffpmeocfhcpaaDoorBitsRefC
set_option linter.unusedVariables false
namespace Go.Proofs.YtkffpmeocfhcpaaDoor
open Go.ChangeShapes Go.WideShapes Go.ChangeAt Go.RowKit Bit Ky Rw Csv

theorem row_next {p : Int} {L : List R} {k : Nat} {x : R} (h : Front p L k) (hx : L[k]? = some x) (hc : checkK x.o x.d = true) (hp : partyK x.d = p) (hl : k = 0 ∨ ∃ y, L[k - 1]? = some y ∧ less y x = true) (h1 : 1 ≤ x.c) (h2 : x.c ≤ 2) :
    0 ≤ x.a → x.a ≤ 1099511627776 → 0 ≤ x.q → x.q ≤ 999 → (x.a ≠ 0 → p = 0 ∧ x.c ≠ 2) → (x.q ≠ 0 → p ≠ 0 ∧ x.c ≠ 2) → Front p L (k + 1) := fun a0 a1 q0 q1 za zq =>
  h.next hx ⟨check_iff.1 hc, hp, h1, h2, a0, a1, q0, q1, za, zq⟩ fun y hk hy => by
    rcases hl with rfl | ⟨z, hz, hl⟩
    · omega
    · rw [hy] at hz
      cases hz
      exact hl
theorem row_stop {p : Int} {L : List R} {k : Nat} {x : R} (hx : L[k]? = some x) : ¬ (0 ≤ x.a ∧ x.a ≤ 1099511627776 ∧ 0 ≤ x.q ∧ x.q ≤ 999 ∧ (x.a ≠ 0 → p = 0 ∧ x.c ≠ 2) ∧ (x.q ≠ 0 → p ≠ 0 ∧ x.c ≠ 2)) → goodB p L = false := fun h =>
  bad_row hx fun r => h ⟨r.a0, r.a1, r.q0, r.q1, r.za, r.zq⟩
theorem pred_wrap {k j : Nat} (h0 : 0 < k) (h : k - 1 = j) (h4 : k ≤ 1000000) : IntKind.i64.wrap ((k : Int) - 1) = (j : Int) ∧ wrap64 ((k : Int) - 1) = (j : Int) := by
  have e : (k : Int) - 1 = (j : Int) := by omega
  rw [e]
  refine ⟨?_, i64w (by unfold top; omega) (by unfold top; omega)⟩
  unfold IntKind.wrap
  simp [IntKind.signed, IntKind.bits]
  omega
end Go.Proofs.YtkffpmeocfhcpaaDoor
