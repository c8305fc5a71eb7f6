
/- A number's next seven bits, by a shift and an or. The contracts of bits.Var, Sign, Back, Text. The contracts of bits.Read, Cut. -/
import Derived.Test.YtkffpmeocfhcpaaDoorBitsMath
import Derived.Test.YtkffpmeocfhcpaaDoorBitsPutC
import Derived.Deep.RegionWith
import Derived.Deep.QuietTactic
import Derived.BigQuiet
import Derived.Deep.Cut
set_option linter.unusedVariables false
namespace Go.Proofs.YtkffpmeocfhcpaaDoor
open Bit

theorem pow7 (k : Nat) : (2 : Nat) ^ (7 * k) = 128 ^ k := by rw [Nat.pow_mul]
theorem join_mod {x y p r : Nat} (hp : 0 < p) (hx : x < p) : x + y * p % (r * p) < r * p ∨ r = 0 := by
  by_cases hr : r = 0
  · exact Or.inr hr
  · left
    rw [Nat.mul_mod_mul_right]
    have h : y % r + 1 ≤ r := Nat.mod_lt _ (by omega)
    have := Nat.mul_le_mul_right p h
    rw [Nat.succ_mul] at this
    omega
theorem or_step (t : List UInt8) (c : Nat) (k : Nat) (hk : k ≤ 9) (ht : t.length ≤ k) (hc : c < 256) :
    bits .or .u64 ((lo t : Int) % (topN : Int)) (IntKind.u64.wrap (IntKind.u64.wrap (bits .andNot .u8 (c : Int) 128) * 2 ^ (7 * k))) = (((lo t + c % 128 * 128 ^ k) % topN : Nat) : Int) := by
  have hlo : lo t < 128 ^ k := Nat.lt_of_lt_of_le (lo_lt t) (Nat.pow_le_pow_right (by omega) ht)
  have h9 : (128 : Nat) ^ k ≤ 128 ^ 9 := Nat.pow_le_pow_right (by omega) hk
  have h9' : (128 : Nat) ^ 9 < topN := by decide
  have e1 : bits .andNot .u8 (c : Int) 128 = ((c % 128 : Nat) : Int) := by
    rw [u8_andNot _ _ (by omega) (by omega) (by omega) (by omega), Int.toNat_natCast, show 255 - (128 : Int).toNat = 127 from rfl, nat_mask7]
  have hT : (128 : Nat) ^ k * 2 ^ (64 - 7 * k) = topN := by
    rw [← pow7, ← Nat.pow_add, show 7 * k + (64 - 7 * k) = 64 from by omega]; rfl
  have hs : c % 128 < topN := by have : c % 128 < 128 := Nat.mod_lt _ (by decide); have : (128 : Nat) < topN := by decide
                                 omega
  have e2 : IntKind.u64.wrap (IntKind.u64.wrap (bits .andNot .u8 (c : Int) 128) * 2 ^ (7 * k)) = ((c % 128 * 128 ^ k % topN : Nat) : Int) := by
    rw [e1, u64w (n := ((c % 128 : Nat) : Int)) (by omega) (by omega), u64w_mod, ← pow7]
    simp [Int.natCast_emod, Int.natCast_mul, Int.natCast_pow]
  have e3 : (lo t : Int) % (topN : Int) = (lo t : Int) := by
    rw [← Int.natCast_emod, Nat.mod_eq_of_lt (by omega)]
  have hr := join_mod (x := lo t) (y := c % 128) (p := 128 ^ k) (r := 2 ^ (64 - 7 * k)) (Nat.pow_pos (by omega)) hlo
  rw [Nat.mul_comm (2 ^ (64 - 7 * k)), hT] at hr
  have hr' : lo t + c % 128 * 128 ^ k % topN < topN := by
    rcases hr with h | h
    · exact h
    · have : 0 < (2 : Nat) ^ (64 - 7 * k) := Nat.pow_pos (by omega)
      omega
  have hm : c % 128 * 128 ^ k % topN % 2 ^ (7 * k) = 0 := by
    rw [pow7, Nat.mod_mod_of_dvd _ ⟨_, hT.symm⟩]; exact Nat.mul_mod_left _ _
  have hy : c % 128 * 128 ^ k % topN < topN := Nat.mod_lt _ (by decide)
  have htop : topN = 18446744073709551616 := rfl
  rw [e2, e3, u64_or _ _ (by omega) (by omega) (by omega) (by omega), Int.toNat_natCast, Int.toNat_natCast, Nat.or_comm, nat_join (7 * k) _ _ hm (by rw [pow7]; exact hlo)]
  rw [Nat.add_mod, Nat.mod_eq_of_lt (show lo t < topN by omega), Nat.mod_eq_of_lt hr', Nat.add_comm]

end Go.Proofs.YtkffpmeocfhcpaaDoor
namespace Go.Proofs.YtkffpmeocfhcpaaDoor
open Go.ChangeShapes Go.WideShapes Go.ChangeAt Go.RowKit Bit

theorem bv_hi (n : Nat) : bv (hi n) = Value.int .u8 ((n : Int) % 128 + 128) := by rw [bv, hi_toNat]; rfl
theorem or128 (n : Nat) : bits .or .u8 ((n : Int) % 256) 128 = (n : Int) % 128 + 128 := by
  rw [u8_or _ _ (by omega) (by omega) (by omega) (by omega), show ((n : Int) % 256).toNat = n % 256 from by omega, show (128 : Int).toNat = 128 from rfl, Nat.or_comm]
  have e : (128 : Nat) ||| n % 256 = 128 + n % 128 := by
    have h2 : n % 128 = n % 256 % 128 := by omega
    rw [h2]
    exact (by decide +kernel : ∀ m : Fin 256, 128 ||| m.val = 128 + m.val % 128) ⟨n % 256, Nat.mod_lt _ (by decide)⟩
  rw [e]; omega

theorem and1w (n : Nat) (h : n < topN) : bits .and .u64 (n : Int) 1 = ((n % 2 : Nat) : Int) := by
  have ht : topN = 18446744073709551616 := rfl
  rw [u64_and _ _ (by omega) (by omega) (by omega) (by omega), Int.toNat_natCast, show (1 : Int).toNat = 1 from rfl, nat_mask1]

end Go.Proofs.YtkffpmeocfhcpaaDoor
namespace Go.Proofs.YtkffpmeocfhcpaaDoor
open Go.ChangeShapes Go.WideShapes Go.ChangeAt Go.RowKit Bit

theorem keeps_drewN {w w' : World} (h : Keeps w w') (n : Nat) : Keeps w (w'.drewN n) := Below.trans h ⟨rfl, rfl, rfl, Nat.le_refl _, fun _ _ => rfl⟩
theorem ret3 {k : IntKind} {a b : Int} {s t : ByteArray} {c d : Bool} (h : a = b) (g : s = t) (f : c = d) : Ending.returned (.tuple #[.int k a, .string s, .bool c]) = .returned (.tuple #[.int k b, .string t, .bool d]) := by rw [h, g, f]
theorem ret3s {a b : ByteArray} {s t : ByteArray} {c d : Bool} (h : a = b) (g : s = t) (f : c = d) : Ending.returned (.tuple #[.string a, .string s, .bool c]) = .returned (.tuple #[.string b, .string t, .bool d]) := by rw [h, g, f]

end Go.Proofs.YtkffpmeocfhcpaaDoor
