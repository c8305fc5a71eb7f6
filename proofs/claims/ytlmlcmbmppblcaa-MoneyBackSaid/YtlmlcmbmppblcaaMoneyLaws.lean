/- The walks of the four statements of layer 1, out of the contracts. -/
import Derived.Test.YtlmlcmbmppblcaaMoneySumsC
import Derived.Test.YtlmlcmbmppblcaaMoneyGetC
import Derived.Test.YtlmlcmbmppblcaaMoneyRef3C
set_option linter.unusedVariables false
namespace Go.Proofs.Ytlmlcmbmppblcaa
open Go.ChangeShapes Go.WideShapes Go.ChangeAt Go.RowKit Mon

theorem is_true (a b : Int) (c d : Bool) (w : World) (h : a = b ∧ c = d) :
    Calls Try.prog 12 #[.int .i64 a, .bool c, .int .i64 b, .bool d] w fun e w' => e = .returned (.bool true) ∧ w = w' := by
  refine (is_any a b c d w).mono ?_
  rintro e w' ⟨rfl, rfl⟩
  exact ⟨ret_bool (by simp [h.1, h.2]), rfl⟩

theorem i64_lit {n : Int} (h : decide (-9223372036854775808 ≤ n) && decide (n ≤ 9223372036854775807) = true) : I64 n := by
  simp at h; unfold I64 top; omega

set_option maxHeartbeats 1000000 in
theorem counted_any (w : World) :
    Calls Try.prog 13 #[] w fun e w' => e = .returned (.bool true) ∧ Keeps w w' := by
  go_enter Try.func13, Try.ntmps13
  go_wp2_with (first
    | (go_at_call 7; refine (add_any _ _ _ (i64_lit (by decide)) (i64_lit (by decide))).mono ?_; rintro e w' ⟨rfl, rfl⟩)
    | (go_at_call 11; refine (neg_any _ _ (i64_lit (by decide))).mono ?_; rintro e w' ⟨rfl, rfl⟩)
    | (go_at_call 16; refine (get_any _ _ (by decide +kernel)).mono ?_; rintro e w' ⟨rfl, hk⟩)
    | (go_at_call 18; refine (unpad_any _ _ (by decide +kernel)).mono ?_; rintro e w' ⟨rfl, rfl⟩)
    | (go_at_call 20; refine (put_any _ _ (i64_lit (by decide))).mono ?_; rintro e w' ⟨rfl, hk⟩)
    | (go_at_call 14; refine (pad_any _ _ _ (i64_lit (by decide))).mono ?_; rintro e w' ⟨rfl, hk⟩)
    | (go_at_call 12; refine (is_true _ _ _ _ _ (by decide +kernel)).mono ?_; rintro e w' ⟨rfl, rfl⟩))
  go_ret
  exact ⟨rfl, by repeat (first | assumption | exact Keeps.refl _ | refine Keeps.trans ?_ (by assumption))⟩

set_option maxHeartbeats 1000000 in
theorem moneySums_walk (a b : Int) (w : World) (ha : I64 a) (hb : I64 b) :
    Calls Try.prog 3 #[.int .i64 a, .int .i64 b] w fun e w' => e = .returned (.bool true) ∧ Keeps w w' := by
  have h0 := Lib.hid (i64_lit (n := 0) (by decide))
  have A := Lib.hid ha
  have B := Lib.hid hb
  clear ha hb
  go_enter Try.func3, Try.ntmps3
  go_wp2_with (first
    | (go_at_call 7; refine (add_any _ _ _ A.out B.out).mono ?_; rintro e w' ⟨rfl, rfl⟩)
    | (go_at_call 8; refine (radd_any _ _ _ A.out B.out).mono ?_; rintro e w' ⟨rfl, rfl⟩)
    | (go_at_call 9; refine (sub_any _ _ _ A.out B.out).mono ?_; rintro e w' ⟨rfl, rfl⟩)
    | (go_at_call 10; refine (rsub_any _ _ _ (by first | exact A.out | exact h0.out) (by first | exact B.out | exact A.out)).mono ?_; rintro e w' ⟨rfl, rfl⟩)
    | (go_at_call 11; refine (neg_any _ _ A.out).mono ?_; rintro e w' ⟨rfl, rfl⟩)
    | (go_at_call 13; refine (counted_any _).mono ?_; rintro e w' ⟨rfl, hk⟩)
    | (go_at_call 12; refine (is_true _ _ _ _ _ (by simp)).mono ?_; rintro e w' ⟨rfl, rfl⟩))
  go_ret
  exact ⟨rfl, by repeat (first | assumption | exact Keeps.refl _ | refine Keeps.trans ?_ (by assumption))⟩

theorem sum_cases {n : Int} (h : sumB n = true) : I64 n ∧ sumV n = n := by
  have h' := h
  simp only [sumB, inI64, Bool.and_eq_true, decide_eq_true_eq] at h'
  exact ⟨h', (sum_in h').2⟩
theorem sum_none {n : Int} (h : sumB n = false) : ¬ I64 n ∧ sumV n = 0 := by
  refine ⟨fun hn => ?_, ?_⟩
  · have := (sum_in hn).1; rw [h] at this; cases this
  · rw [sumV, if_neg (by rw [show inI64 n = false from h]; simp)]

theorem sum_way (n : Int) : (n < -9223372036854775808 ∧ sumB n = false ∧ sumV n = 0) ∨ (9223372036854775808 ≤ n ∧ sumB n = false ∧ sumV n = 0) ∨ (-9223372036854775808 ≤ n ∧ n < 9223372036854775808 ∧ sumB n = true ∧ sumV n = n) := by
  rcases (show n < -9223372036854775808 ∨ 9223372036854775808 ≤ n ∨ (-9223372036854775808 ≤ n ∧ n < 9223372036854775808) from by omega) with c | c | c
  · exact Or.inl ⟨c, sum_out (Or.inl c)⟩
  · exact Or.inr (Or.inl ⟨c, sum_out (Or.inr c)⟩)
  · exact Or.inr (Or.inr ⟨c.1, c.2, sum_in c⟩)

set_option maxHeartbeats 4000000 in
theorem moneyUndo_walk (a b : Int) (w : World) (ha : I64 a) (hb : I64 b) :
    Calls Try.prog 6 #[.int .i64 a, .int .i64 b] w fun e w' => e = .returned (.bool true) ∧ Keeps w w' := by
  have A := Lib.hid ha
  have B := Lib.hid hb
  have hva : sumV a = a := (sum_in ha).2
  have hba : sumB a = true := (sum_in ha).1
  unfold I64 top at ha hb
  obtain ⟨ha1, ha2⟩ := ha
  obtain ⟨hb1, hb2⟩ := hb
  rcases sum_way (a + b) with ⟨c1, e1, f1⟩ | ⟨c1, e1, f1⟩ | ⟨c1, d1, e1, f1⟩
  all_goals rcases sum_way (a - b) with ⟨c2, e2, f2⟩ | ⟨c2, e2, f2⟩ | ⟨c2, d2, e2, f2⟩
  all_goals rcases sum_way (-a) with ⟨c3, e3, f3⟩ | ⟨c3, e3, f3⟩ | ⟨c3, d3, e3, f3⟩
  all_goals rcases (show 0 < b ∨ b < 0 ∨ b = 0 from by omega) with hs | hs | hs
  all_goals try (exfalso; omega)
  all_goals try (have hw1 : wrap64 (9223372036854775807 - b) = 9223372036854775807 - b := i64w (by unfold top; omega) (by unfold top; omega))
  all_goals try (have hw2 : wrap64 (-9223372036854775808 - b) = -9223372036854775808 - b := i64w (by unfold top; omega) (by unfold top; omega))
  all_goals try (have hw3 : wrap64 (-a) = -a := i64w (by unfold top; omega) (by unfold top; omega))
  all_goals try (have ht : (a != -9223372036854775808) = true := bne_iff_ne.2 (by omega))
  all_goals try (have ht : (a != -9223372036854775808) = false := by rw [bne_eq_false_iff_eq]; omega)
  all_goals try subst hs
  all_goals
    go_enter Try.func6, Try.ntmps6
    go_wp2_with (first
      | (go_at_call 7; refine (add_any _ _ _ (by first | exact A.out | (unfold I64 top; omega)) B.out).mono ?_; rintro e w' ⟨rfl, rfl⟩)
      | (go_at_call 9; refine (sub_any _ _ _ (by first | exact A.out | (unfold I64 top; omega)) B.out).mono ?_; rintro e w' ⟨rfl, rfl⟩)
      | (go_at_call 11; refine (neg_any _ _ A.out).mono ?_; rintro e w' ⟨rfl, rfl⟩)
      | (go_at_call 13; refine (counted_any _).mono ?_; rintro e w' ⟨rfl, hk⟩))
  all_goals first
    | (go_ret; exact ⟨rfl, by repeat (first | assumption | exact Keeps.refl _ | refine Keeps.trans ?_ (by assumption))⟩)
    | (exfalso; have h : (!decide (a < -9223372036854775808 - b)) = true := by assumption
       simp at h; omega)

/-- What a law's walk asks of its arguments, out of the form's words. -/
theorem moneySums_go (a b : Int) (w : World) (ha : (Lit.int .i64 a).wf = true) (hb : (Lit.int .i64 b).wf = true) :
    Calls Try.prog 3 #[.int .i64 a, .int .i64 b] w fun e w' => e = .returned (.bool true) ∧ Keeps w w' :=
  moneySums_walk a b w (i64_of ha) (i64_of hb)
theorem moneyUndo_go (a b : Int) (w : World) (ha : (Lit.int .i64 a).wf = true) (hb : (Lit.int .i64 b).wf = true) :
    Calls Try.prog 6 #[.int .i64 a, .int .i64 b] w fun e w' => e = .returned (.bool true) ∧ Keeps w w' :=
  moneyUndo_walk a b w (i64_of ha) (i64_of hb)
end Go.Proofs.Ytlmlcmbmppblcaa
