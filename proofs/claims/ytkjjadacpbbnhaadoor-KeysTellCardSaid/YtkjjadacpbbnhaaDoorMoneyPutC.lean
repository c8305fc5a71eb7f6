
/- The contracts of money.Put, Pad. -/
import Derived.Test.YtkjjadacpbbnhaaDoorMoneyDigC
import Derived.Test.YtkjjadacpbbnhaaDoorMoneyDig2C
set_option linter.unusedVariables false
namespace Go.Proofs.YtkjjadacpbbnhaaDoor
open Go.ChangeShapes Go.WideShapes Go.ChangeAt Go.RowKit Mon

set_option maxHeartbeats 400000 in
theorem moPut_any (n : Int) (w : World) (hn : I64 n) :
    Calls Tryd.prog 27 #[.int .i64 n] w fun e w' => e = .returned (.string ⟨(put n).toArray⟩) ∧ Keeps w w' := by
  by_cases h0 : 0 ≤ n
  · obtain ⟨N, rfl⟩ := Int.eq_ofNat_of_zero_le h0
    have hN : N < topN := by unfold I64 top at hn; unfold topN; omega
    have hu : IntKind.u64.wrap (N : Int) = N := u64w (by omega) (by omega)
    have HP := Lib.hid (show put (N : Int) = decN N from by unfold put; rw [if_pos h0, Int.toNat_natCast])
    have HN := Lib.hid hN
    have hc : cnt N ≤ 20 := cnt_le20 hN
    clear hn hN h0
    go_enter Tryd.func27, Tryd.ntmps27
    go_wp2_with (first | (go_at_call 31; refine (moCount_any _ _ HN.out).mono ?_; rintro e w' ⟨rfl, rfl⟩) | (go_at_call 30; refine (digits_any _ _ _ HN.out (by omega)).mono ?_; rintro e w' ⟨rfl, hk⟩))
    go_ret
    exact ⟨ret_str (by rw [HP.out, decN]), hk⟩
  · have hN : n.natAbs < topN := by unfold I64 top at hn; unfold topN; omega
    have hu : IntKind.u64.wrap n = n + topN := by rw [u64w_mod]; unfold I64 top at hn; unfold topN; omega
    have hu2 : IntKind.u64.wrap (-(n + topN)) = (n.natAbs : Int) := by rw [u64w_mod]; unfold I64 top at hn; unfold topN; omega
    have HP := Lib.hid (show put n = 45 :: decN n.natAbs from by unfold put; rw [if_neg h0])
    have HN := Lib.hid hN
    have hc : cnt n.natAbs ≤ 20 := cnt_le20 hN
    have hlen : (dig (cnt n.natAbs) n.natAbs).length ≤ 20 := by rw [dig_length]; exact hc
    clear hn hN
    go_enter Tryd.func27, Tryd.ntmps27
    go_wp2_with (first | (go_at_call 31; refine (moCount_any _ _ HN.out).mono ?_; rintro e w' ⟨rfl, rfl⟩) | (go_at_call 30; refine (digits_any _ _ _ HN.out (by omega)).mono ?_; rintro e w' ⟨rfl, hk⟩))
    go_ret
    exact ⟨ret_str ((ByteArray.mk_append_mk [45] _).trans (by rw [HP.out, decN]; rfl)), hk⟩

end Go.Proofs.YtkjjadacpbbnhaaDoor
