
/- The document's files of the payment: Print. -/
import Derived.Test.YtomonhghioamfaaDoorStRefT
import Derived.Test.YtomonhghioamfaaDoorRwRefV
import Derived.Test.YtomonhghioamfaaDoorStMath3
import Derived.Test.YtomonhghioamfaaDoorRwRefC
import Derived.Test.YtomonhghioamfaaDoorFixedRefP
import Derived.Test.YtomonhghioamfaaDoorRowsLaid
import Derived.Test.YtomonhghioamfaaDoorHeldSteps
import Derived.Deep.DeepCutAuto
set_option linter.unusedVariables false
namespace Go.Proofs.YtomonhghioamfaaDoor
open Go.ChangeShapes Go.WideShapes Go.ChangeAt Go.RowKit Ky Rw Stl

def prtS (p s : Int) (L : List R) : ByteArray := ⟨(prt p s L).toArray⟩
theorem ret_si {S T : ByteArray} {a b : Int} (h : S = T) (g : a = b) : Ending.returned (.tuple #[.string S, .int .i64 a]) = .returned (.tuple #[.string T, .int .i64 b]) := by rw [h, g]
theorem pad_short (n w : Int) : (Mon.pad n w).length ≤ 18 := by
  by_cases h : Mon.padB n w = true
  · rw [pad_len h]
    unfold Mon.padB at h
    simp only [Bool.and_eq_true, decide_eq_true_eq] at h
    omega
  · unfold Mon.pad
    rw [if_neg h]
    simp
theorem short_head (s : Int) : ∀ f ∈ [[72], sPay, Mon.pad s 10], f.length ≤ 1100 := by
  intro f hf
  have := pad_short s 10
  simp only [List.mem_cons, List.not_mem_nil, or_false] at hf
  rcases hf with rfl | rfl | rfl
  · decide
  · decide
  · omega
theorem short_trail (n t : Int) : ∀ f ∈ [[84], Mon.pad n 6, Mon.pad t 16], f.length ≤ 1100 := by
  intro f hf
  have := pad_short n 6
  have := pad_short t 16
  simp only [List.mem_cons, List.not_mem_nil, or_false] at hf
  rcases hf with rfl | rfl | rfl
  · decide
  · omega
  · omega
theorem word_short (d : Int) : (wordB d).length ≤ 7 := by
  unfold wordB
  split
  · rename_i h
    rcases six h.1 h.2 with e | e | e | e | e | e <;> rw [e] <;> decide
  · simp
theorem short_row (x : R) : ∀ f ∈ fieldsD x, f.length ≤ 1100 := by
  intro f hf
  have := pad_short x.o 4
  have := pad_short x.a 14
  have := word_short x.d
  have : (letter x.c).length = 1 := by unfold letter; split <;> rfl
  unfold fieldsD at hf
  simp only [List.mem_cons, List.not_mem_nil, or_false] at hf
  rcases hf with rfl | rfl | rfl | rfl | rfl
  · decide
  all_goals omega
end Go.Proofs.YtomonhghioamfaaDoor
