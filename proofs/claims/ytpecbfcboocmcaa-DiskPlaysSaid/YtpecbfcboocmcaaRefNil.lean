
/- A list of ints appended to nil, of whatever capacity. -/
import Derived.Test.YtpecbfcboocmcaaRefFail
set_option linter.unusedVariables false
namespace Go.Proofs.Ytpecbfcboocmcaa
open Go.ChangeShapes Go.WideShapes Go.ChangeAt Go.RowKit Go.Maps Csv Dk

theorem nil_run (w : World) (c : Nat) : (Builtin.append_ #[tIs, tIs] tIs #[.slice none 0 0, .slice none 0 c]).run Try.prog w = .ok (.slice none 0 0) w := by
  obtain ⟨i, hi, hz, hsz, hb⟩ := info_parts info_int
  simp [Builtin.append_, run_underlying Try.underlying32, sizeOf, typeInfo, hi, Builtin.lenOf, Builtin.firstCells]
/-- copy_ints, whatever capacity a nil list has. -/
theorem copy_all (w : World) (v : Value) (ws : List Int) (h : IntsAt w v ws) (hl : ws.length ≤ 1000) :
    ∃ p' c' w', (Builtin.append_ #[tIs, tIs] tIs #[.slice none 0 0, v]).run Try.prog w = .ok (.slice p' ws.length c') w' ∧ w'.ownsRow w.heap.size tI 1 (.slice p' ws.length c') ws.length (ivs ws) ∧ Keeps w w' := by
  have h0 := h
  obtain ⟨p, c, rfl, h1, h2⟩ := h0
  cases p with
  | none =>
    have h0 : ws = [] := by
      cases ws with
      | nil => rfl
      | cons x r => obtain ⟨a, ha, _⟩ := h2 0 x rfl; cases ha
    subst h0
    exact ⟨none, 0, w, nil_run w c, World.ownsRow_nil _ _ _ _, Keeps.refl _⟩
  | some a => exact copy_ints w _ ws h (fun n c e => by cases e) hl
end Go.Proofs.Ytpecbfcboocmcaa
