
/- The contracts of money.Put, Pad. -/
import Derived.Test.YtagfpakoacckjaaDoorMoneyDigC
import Derived.Test.YtagfpakoacckjaaDoorMoneyDig2C
set_option linter.unusedVariables false
namespace Go.Proofs.YtagfpakoacckjaaDoor
open Go.ChangeShapes Go.WideShapes Go.ChangeAt Go.RowKit Mon

set_option maxHeartbeats 400000 in
theorem pad_any (n W : Int) (w : World) (hn : I64 n) :
    Calls Tryd.prog 13 #[.int .i64 n, .int .i64 W] w fun e w' => e = .returned (.string ⟨(pad n W).toArray⟩) ∧ Keeps w w' := by
  have no : (n < 0 ∨ W < 1 ∨ 18 < W ∨ W < (cnt n.toNat : Int)) → pad n W = [] := by
    intro h
    have : padB n W = false := by
      cases hb : padB n W
      · rfl
      · simp only [padB, Bool.and_eq_true, decide_eq_true_eq] at hb; omega
    simp [pad, this]
  have NO := Lib.hid no
  clear no
  by_cases h0 : n < 0
  · have H := Lib.hid (NO.out (Or.inl h0))
    clear hn
    go_enter Tryd.func13, Tryd.ntmps13
    go_wp2
    go_ret
    exact ⟨by rw [H.out]; rfl, Keeps.refl _⟩
  by_cases h1 : W < 1
  · have H := Lib.hid (NO.out (Or.inr (Or.inl h1)))
    clear hn
    go_enter Tryd.func13, Tryd.ntmps13
    go_wp2
    go_ret
    exact ⟨by rw [H.out]; rfl, Keeps.refl _⟩
  by_cases h2 : 18 < W
  · have H := Lib.hid (NO.out (Or.inr (Or.inr (Or.inl h2))))
    clear hn
    go_enter Tryd.func13, Tryd.ntmps13
    go_wp2
    go_ret
    exact ⟨by rw [H.out]; rfl, Keeps.refl _⟩
  obtain ⟨N, rfl⟩ := Int.eq_ofNat_of_zero_le (show 0 ≤ n by omega)
  obtain ⟨V, rfl⟩ := Int.eq_ofNat_of_zero_le (show 0 ≤ W by omega)
  have hN : N < topN := by unfold I64 top at hn; unfold topN; omega
  have hu : IntKind.u64.wrap (N : Int) = N := u64w (by omega) (by omega)
  have HN := Lib.hid hN
  clear hn hN
  by_cases h3 : (V : Int) < cnt N
  · have H := Lib.hid (NO.out (Or.inr (Or.inr (Or.inr (by simpa using h3)))))
    go_enter Tryd.func13, Tryd.ntmps13
    go_wp2_with (go_at_call 24; refine (moCount_any _ _ HN.out).mono ?_; rintro e w' ⟨rfl, rfl⟩)
    go_ret
    exact ⟨by rw [H.out]; rfl, Keeps.refl _⟩
  · have H := Lib.hid (show pad N V = dig V N from by
      have : padB N V = true := by simp [padB]; omega
      rw [pad, if_pos this]; simp)
    go_enter Tryd.func13, Tryd.ntmps13
    go_wp2_with (first | (go_at_call 24; refine (moCount_any _ _ HN.out).mono ?_; rintro e w' ⟨rfl, rfl⟩) | (go_at_call 25; refine (digits_any _ _ _ HN.out (by omega)).mono ?_; rintro e w' ⟨rfl, hk⟩))
    go_ret
    exact ⟨ret_str (by rw [H.out]), hk⟩
end Go.Proofs.YtagfpakoacckjaaDoor
