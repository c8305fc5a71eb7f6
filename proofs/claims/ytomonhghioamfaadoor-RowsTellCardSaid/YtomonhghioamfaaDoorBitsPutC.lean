
/- The contracts of bits.Put, Get, sevens. -/
import Derived.Test.YtomonhghioamfaaDoorBitsMath
set_option linter.unusedVariables false
namespace Go.Proofs.YtomonhghioamfaaDoor
open Go.ChangeShapes Go.WideShapes Go.ChangeAt Go.RowKit Bit

theorem info_u8 : (Tryd.prog.info? 5).map (fun i => (i.zero, i.size, i.bytes)) = some (some (.int .u8 0), 1, 1) := by kernel_rfl

theorem put_no {n : Nat} {S : Int} (h : S < 1 ∨ 8 < S) : putL n S = [] := by unfold putL; rw [if_neg (by omega)]
theorem put_be {n k : Nat} (h1 : 1 ≤ k) (h8 : k ≤ 8) : putL n k = be k n := by unfold putL; rw [if_pos (by omega)]; simp

theorem bv_b8 (n : Nat) : bv (b8 n) = Value.int .u8 ((n : Int) % 256) := by rw [bv, b8_toNat]; rfl

theorem byte_or (n c : Nat) (h : n * 256 < topN) (hc : c < 256) : bits .or .u64 (IntKind.u64.wrap ((n : Int) * 256)) (IntKind.u64.wrap (c : Int)) = ((n * 256 + c : Nat) : Int) := by
  have ht : topN = 18446744073709551616 := rfl
  rw [u64w (by omega) (by omega), u64w (n := (c : Int)) (by omega) (by omega)]
  rw [u64_or _ _ (by omega) (by omega) (by omega) (by omega), Int.toNat_natCast, show ((n : Int) * 256).toNat = n * 256 from by omega, nat_join 8 _ _ (by omega) (by omega)]

theorem take_snoc (s : ByteArray) (k : Nat) (h : k < s.size) : s.data.toList.take (k + 1) = s.data.toList.take k ++ [s[k]] := by
  rw [List.take_succ_eq_append_getElem (by simpa using h)]; rfl

set_option maxRecDepth 100000 in
set_option maxHeartbeats 400000 in
theorem sevens_any (N : Nat) (w : World) (hN : N < topN) :
    Calls Tryd.prog 49 #[.int .u64 N] w fun e w' => e = .returned (.int .i64 ((sev N).length : Nat)) ∧ w = w' := by
  have HN := Lib.hid hN
  clear hN
  go_enter Tryd.func49, Tryd.ntmps49
  go_wp2
  go_loop [0, 3] (fun n m => ∃ k M : Nat, n = .int .u64 M ∧ m = .int .i64 k ∧ M < topN ∧ k + (sev M).length = (sev N).length + 1) (fun n _ => (intOf n).toNat)
  case atStart => exact ⟨1, N, rfl, rfl, HN.out, by omega⟩
  case round =>
    obtain ⟨k, M, rfl, rfl, hM, hk⟩ := hrel
    have h10 := sev_le HN.out
    have hp := sev_pos M
    by_cases h : M < 128
    · have hs : (sev M).length = 1 := by rw [sev_small h]; rfl
      have hkk : k = (sev N).length := by omega
      have HK := Lib.hid hkk
      clear hs hk hkk hM
      go_wp2
      go_ret
      exact ⟨ret_int (by rw [HK.out]), rfl⟩
    · have hs := Lib.hid (sev_lenstep hM (by omega))
      have hk' := Lib.hid hk
      have hm := Lib.hid hM
      have hkb : k ≤ 10 := by omega
      clear hk hM
      go_wp2
      go_round
      case rel =>
        exact ⟨k + 1, M / 128, vint (by omega), by go_num, by have := hm.out; omega, by have := hs.out; have := hk'.out; omega⟩
      case measure =>
        simp [intOf]; omega
end Go.Proofs.YtomonhghioamfaaDoor
