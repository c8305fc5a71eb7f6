
/- The contracts of money.Add, Sub, Neg, of the document's Add and Sub, and of the law's 'is'. -/
import Derived.Test.YtffipjhpoaalhaaProg
import Derived.Test.YtffipjhpoaalhaaMoneyMath
set_option linter.unusedVariables false
namespace Go.Proofs.Ytffipjhpoaalhaa
open Go.ChangeShapes Go.WideShapes Go.ChangeAt Go.RowKit Mon

theorem sum_in {n : Int} (h : -top ≤ n ∧ n < top) : sumB n = true ∧ sumV n = n := by
  have hb : sumB n = true := by simp [sumB, inI64, h.1, h.2]
  exact ⟨hb, by rw [sumV, if_pos (by simpa [sumB] using hb)]⟩
theorem sum_out {n : Int} (h : n < -top ∨ top ≤ n) : sumB n = false ∧ sumV n = 0 := by
  have hb : sumB n = false := by
    simp only [sumB, inI64, Bool.and_eq_false_iff, decide_eq_false_iff_not]
    rcases h with h | h
    · exact Or.inl (by omega)
    · exact Or.inr (by omega)
  exact ⟨hb, by rw [sumV, if_neg (by simpa [sumB] using hb)]⟩
theorem ret_sum {n : Int} {v : Int} {b : Bool} (h : sumB n = b ∧ sumV n = v) : Ending.returned (.tuple #[.int .i64 v, .bool b]) = .returned (.tuple #[.int .i64 (sumV n), .bool (sumB n)]) := by
  rw [h.1, h.2]


set_option maxHeartbeats 400000 in
theorem add_any (a b : Int) (w : World) (ha : I64 a) (hb : I64 b) :
    Calls Try.prog 31 #[.int .i64 a, .int .i64 b] w fun e w' => e = .returned (.tuple #[.int .i64 (sumV (a + b)), .bool (sumB (a + b))]) ∧ w = w' := by
  have key : ((!decide (a < wrap64 (a + b)) == decide (0 < b)) = true → sumB (a + b) = false ∧ sumV (a + b) = 0) ∧
      ((!decide (a < wrap64 (a + b)) == decide (0 < b)) = false → sumB (a + b) = true ∧ sumV (a + b) = wrap64 (a + b)) := by
    unfold I64 top at ha hb
    constructor
    · intro h
      refine sum_out ?_
      unfold wrap64 at h; unfold top
      by_cases h0 : 0 < b <;> simp [h0] at h <;> omega
    · intro h
      have : (-top ≤ a + b ∧ a + b < top) ∧ wrap64 (a + b) = a + b := by
        unfold wrap64 at *; unfold top
        by_cases h0 : 0 < b <;> simp [h0] at h <;> omega
      rw [this.2]; exact sum_in this.1
  have K := Lib.hid key
  clear key ha hb
  go_enter Try.func31, Try.ntmps31
  go_wp2
  all_goals go_ret2
  · exact ⟨ret_sum (K.out.1 (by assumption)), rfl⟩
  · exact ⟨ret_sum (K.out.2 (by assumption)), rfl⟩

set_option maxHeartbeats 400000 in
theorem sub_any (a b : Int) (w : World) (ha : I64 a) (hb : I64 b) :
    Calls Try.prog 32 #[.int .i64 a, .int .i64 b] w fun e w' => e = .returned (.tuple #[.int .i64 (sumV (a - b)), .bool (sumB (a - b))]) ∧ w = w' := by
  have key : ((!decide (wrap64 (a - b) < a) == decide (0 < b)) = true → sumB (a - b) = false ∧ sumV (a - b) = 0) ∧
      ((!decide (wrap64 (a - b) < a) == decide (0 < b)) = false → sumB (a - b) = true ∧ sumV (a - b) = wrap64 (a - b)) := by
    unfold I64 top at ha hb
    constructor
    · intro h
      refine sum_out ?_
      unfold wrap64 at h; unfold top
      by_cases h0 : 0 < b <;> simp [h0] at h <;> omega
    · intro h
      have : (-top ≤ a - b ∧ a - b < top) ∧ wrap64 (a - b) = a - b := by
        unfold wrap64 at *; unfold top
        by_cases h0 : 0 < b <;> simp [h0] at h <;> omega
      rw [this.2]; exact sum_in this.1
  have K := Lib.hid key
  clear key ha hb
  go_enter Try.func32, Try.ntmps32
  go_wp2
  all_goals go_ret2
  · exact ⟨ret_sum (K.out.1 (by assumption)), rfl⟩
  · exact ⟨ret_sum (K.out.2 (by assumption)), rfl⟩

theorem sum_over {a b : Int} {n : Int} (ha : I64 a) (hb : I64 b) (hn : n = a + b ∨ n = a - b) (h : wrap64 n ≠ n) : sumB n = false ∧ sumV n = 0 := by
  refine sum_out ?_
  unfold I64 top at *; unfold wrap64 at h
  omega
theorem sum_same {n : Int} (h : wrap64 n = n) : sumB n = true ∧ sumV n = wrap64 n := by
  rw [h]
  refine sum_in ?_
  unfold top; unfold wrap64 at h
  omega

set_option maxHeartbeats 400000 in
theorem radd_any (a b : Int) (w : World) (ha : I64 a) (hb : I64 b) :
    Calls Try.prog 33 #[.int .i64 a, .int .i64 b] w fun e w' => e = .returned (.tuple #[.int .i64 (sumV (a + b)), .bool (sumB (a + b))]) ∧ w = w' := by
  have A := Lib.hid ha
  have B := Lib.hid hb
  clear ha hb
  go_enter Try.func33, Try.ntmps33
  go_wp2
  all_goals
    go_ret2
    refine ⟨ret_sum ?_, rfl⟩
    have ha := A.out
    have hb := B.out
    first
      | exact sum_same (by unfold I64 top at *; unfold wrap64 at *; omega)
      | exact sum_over ha hb (Or.inl rfl) (by unfold I64 top at *; unfold wrap64 at *; omega)

set_option maxHeartbeats 400000 in
theorem rsub_any (a b : Int) (w : World) (ha : I64 a) (hb : I64 b) :
    Calls Try.prog 34 #[.int .i64 a, .int .i64 b] w fun e w' => e = .returned (.tuple #[.int .i64 (sumV (a - b)), .bool (sumB (a - b))]) ∧ w = w' := by
  have A := Lib.hid ha
  have B := Lib.hid hb
  clear ha hb
  go_enter Try.func34, Try.ntmps34
  go_wp2
  all_goals
    go_ret2
    refine ⟨ret_sum ?_, rfl⟩
    have ha := A.out
    have hb := B.out
    first
      | exact sum_same (by unfold I64 top at *; unfold wrap64 at *; omega)
      | exact sum_over ha hb (Or.inr rfl) (by unfold I64 top at *; unfold wrap64 at *; omega)

end Go.Proofs.Ytffipjhpoaalhaa
