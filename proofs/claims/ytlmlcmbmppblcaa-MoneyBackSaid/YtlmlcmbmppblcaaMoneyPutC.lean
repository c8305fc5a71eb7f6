/- The contracts of money.Put, Pad. -/
import Derived.Test.YtlmlcmbmppblcaaMoneyDigC
import Derived.Test.YtlmlcmbmppblcaaMoneyDig2C
set_option linter.unusedVariables false
namespace Go.Proofs.Ytlmlcmbmppblcaa
open Go.ChangeShapes Go.WideShapes Go.ChangeAt Go.RowKit Mon

set_option maxHeartbeats 400000 in
theorem put_any (n : Int) (w : World) (hn : I64 n) :
    Calls Try.prog 20 #[.int .i64 n] w fun e w' => e = .returned (.string ⟨(put n).toArray⟩) ∧ Keeps w w' := by
  by_cases h0 : 0 ≤ n
  · obtain ⟨N, rfl⟩ := Int.eq_ofNat_of_zero_le h0
    have hN : N < topN := by unfold I64 top at hn; unfold topN; omega
    have hu : IntKind.u64.wrap (N : Int) = N := u64w (by omega) (by omega)
    have HP := Lib.hid (show put (N : Int) = decN N from by unfold put; rw [if_pos h0, Int.toNat_natCast])
    have HN := Lib.hid hN
    have hc : cnt N ≤ 20 := cnt_le20 hN
    clear hn hN h0
    go_enter Try.func20, Try.ntmps20
    go_wp2_with (first | (go_at_call 22; refine (count_any _ _ HN.out).mono ?_; rintro e w' ⟨rfl, rfl⟩) | (go_at_call 23; refine (digits_any _ _ _ HN.out (by omega)).mono ?_; rintro e w' ⟨rfl, hk⟩))
    go_ret
    exact ⟨ret_str (by rw [HP.out, decN]), hk⟩
  · have hN : n.natAbs < topN := by unfold I64 top at hn; unfold topN; omega
    have hu : IntKind.u64.wrap n = n + topN := by rw [u64w_mod]; unfold I64 top at hn; unfold topN; omega
    have hu2 : IntKind.u64.wrap (-(n + topN)) = (n.natAbs : Int) := by rw [u64w_mod]; unfold I64 top at hn; unfold topN; omega
    have HP := Lib.hid (show put n = 45 :: decN n.natAbs from by unfold put; rw [if_neg h0])
    have HN := Lib.hid hN
    have hc : cnt n.natAbs ≤ 20 := cnt_le20 hN
    have hlen : (dig (cnt n.natAbs) n.natAbs).length ≤ 20 := by rw [dig_length]; exact hc
    clear hn hN
    go_enter Try.func20, Try.ntmps20
    go_wp2_with (first | (go_at_call 22; refine (count_any _ _ HN.out).mono ?_; rintro e w' ⟨rfl, rfl⟩) | (go_at_call 23; refine (digits_any _ _ _ HN.out (by omega)).mono ?_; rintro e w' ⟨rfl, hk⟩))
    go_ret
    exact ⟨ret_str ((ByteArray.mk_append_mk [45] _).trans (by rw [HP.out, decN]; rfl)), hk⟩

set_option maxHeartbeats 400000 in
theorem pad_any (n W : Int) (w : World) (hn : I64 n) :
    Calls Try.prog 14 #[.int .i64 n, .int .i64 W] w fun e w' => e = .returned (.string ⟨(pad n W).toArray⟩) ∧ Keeps w w' := by
  have no : (n < 0 ∨ W < 1 ∨ 18 < W ∨ W < (cnt n.toNat : Int)) → pad n W = [] := by
    intro h
    have : padB n W = false := by
      cases hb : padB n W
      · rfl
      · simp only [padB, Bool.and_eq_true, decide_eq_true_eq] at hb; omega
    simp [pad, this]
  have NO := Lib.hid no
  clear no
  by_cases h0 : n < 0
  · have H := Lib.hid (NO.out (Or.inl h0))
    clear hn
    go_enter Try.func14, Try.ntmps14
    go_wp2
    go_ret
    exact ⟨by rw [H.out]; rfl, Keeps.refl _⟩
  by_cases h1 : W < 1
  · have H := Lib.hid (NO.out (Or.inr (Or.inl h1)))
    clear hn
    go_enter Try.func14, Try.ntmps14
    go_wp2
    go_ret
    exact ⟨by rw [H.out]; rfl, Keeps.refl _⟩
  by_cases h2 : 18 < W
  · have H := Lib.hid (NO.out (Or.inr (Or.inr (Or.inl h2))))
    clear hn
    go_enter Try.func14, Try.ntmps14
    go_wp2
    go_ret
    exact ⟨by rw [H.out]; rfl, Keeps.refl _⟩
  obtain ⟨N, rfl⟩ := Int.eq_ofNat_of_zero_le (show 0 ≤ n by omega)
  obtain ⟨V, rfl⟩ := Int.eq_ofNat_of_zero_le (show 0 ≤ W by omega)
  have hN : N < topN := by unfold I64 top at hn; unfold topN; omega
  have hu : IntKind.u64.wrap (N : Int) = N := u64w (by omega) (by omega)
  have HN := Lib.hid hN
  clear hn hN
  by_cases h3 : (V : Int) < cnt N
  · have H := Lib.hid (NO.out (Or.inr (Or.inr (Or.inr (by simpa using h3)))))
    go_enter Try.func14, Try.ntmps14
    go_wp2_with (go_at_call 22; refine (count_any _ _ HN.out).mono ?_; rintro e w' ⟨rfl, rfl⟩)
    go_ret
    exact ⟨by rw [H.out]; rfl, Keeps.refl _⟩
  · have H := Lib.hid (show pad N V = dig V N from by
      have : padB N V = true := by simp [padB]; omega
      rw [pad, if_pos this]; simp)
    go_enter Try.func14, Try.ntmps14
    go_wp2_with (first | (go_at_call 22; refine (count_any _ _ HN.out).mono ?_; rintro e w' ⟨rfl, rfl⟩) | (go_at_call 23; refine (digits_any _ _ _ HN.out (by omega)).mono ?_; rintro e w' ⟨rfl, hk⟩))
    go_ret
    exact ⟨ret_str (by rw [H.out]), hk⟩
end Go.Proofs.Ytlmlcmbmppblcaa
