
/- The contracts of bits.Var, Sign, Back, Text. -/
import Derived.Test.YtlaepdpgegoopaaBitsPutC
set_option linter.unusedVariables false
namespace Go.Proofs.Ytlaepdpgegoopaa
open Go.ChangeShapes Go.WideShapes Go.ChangeAt Go.RowKit Bit

theorem bv_hi (n : Nat) : bv (hi n) = Value.int .u8 ((n : Int) % 128 + 128) := by rw [bv, hi_toNat]; rfl
theorem or128 (n : Nat) : bits .or .u8 ((n : Int) % 256) 128 = (n : Int) % 128 + 128 := by
  rw [u8_or _ _ (by omega) (by omega) (by omega) (by omega), show ((n : Int) % 256).toNat = n % 256 from by omega, show (128 : Int).toNat = 128 from rfl, Nat.or_comm]
  have e : (128 : Nat) ||| n % 256 = 128 + n % 128 := by
    have h2 : n % 128 = n % 256 % 128 := by omega
    rw [h2]
    exact (by decide +kernel : ∀ m : Fin 256, 128 ||| m.val = 128 + m.val % 128) ⟨n % 256, Nat.mod_lt _ (by decide)⟩
  rw [e]; omega

theorem and1w (n : Nat) (h : n < topN) : bits .and .u64 (n : Int) 1 = ((n % 2 : Nat) : Int) := by
  have ht : topN = 18446744073709551616 := rfl
  rw [u64_and _ _ (by omega) (by omega) (by omega) (by omega), Int.toNat_natCast, show (1 : Int).toNat = 1 from rfl, nat_mask1]

end Go.Proofs.Ytlaepdpgegoopaa
