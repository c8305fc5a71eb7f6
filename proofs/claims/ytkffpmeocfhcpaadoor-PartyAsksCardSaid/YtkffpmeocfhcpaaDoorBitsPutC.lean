
/- The contracts of bits.Put, Get, sevens. -/
import Derived.Test.YtkffpmeocfhcpaaDoorBitsMath
set_option linter.unusedVariables false
namespace Go.Proofs.YtkffpmeocfhcpaaDoor
open Go.ChangeShapes Go.WideShapes Go.ChangeAt Go.RowKit Bit

theorem info_u8 : (Tryd.prog.info? 5).map (fun i => (i.zero, i.size, i.bytes)) = some (some (.int .u8 0), 1, 1) := by kernel_rfl

theorem put_no {n : Nat} {S : Int} (h : S < 1 ∨ 8 < S) : putL n S = [] := by unfold putL; rw [if_neg (by omega)]
theorem put_be {n k : Nat} (h1 : 1 ≤ k) (h8 : k ≤ 8) : putL n k = be k n := by unfold putL; rw [if_pos (by omega)]; simp

theorem bv_b8 (n : Nat) : bv (b8 n) = Value.int .u8 ((n : Int) % 256) := by rw [bv, b8_toNat]; rfl

theorem byte_or (n c : Nat) (h : n * 256 < topN) (hc : c < 256) : bits .or .u64 (IntKind.u64.wrap ((n : Int) * 256)) (IntKind.u64.wrap (c : Int)) = ((n * 256 + c : Nat) : Int) := by
  have ht : topN = 18446744073709551616 := rfl
  rw [u64w (by omega) (by omega), u64w (n := (c : Int)) (by omega) (by omega)]
  rw [u64_or _ _ (by omega) (by omega) (by omega) (by omega), Int.toNat_natCast, show ((n : Int) * 256).toNat = n * 256 from by omega, nat_join 8 _ _ (by omega) (by omega)]

theorem take_snoc (s : ByteArray) (k : Nat) (h : k < s.size) : s.data.toList.take (k + 1) = s.data.toList.take k ++ [s[k]] := by
  rw [List.take_succ_eq_append_getElem (by simpa using h)]; rfl

end Go.Proofs.YtkffpmeocfhcpaaDoor
