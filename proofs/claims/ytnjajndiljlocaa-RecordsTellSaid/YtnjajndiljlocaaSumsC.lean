
/- The contracts of sums.goesInto, Sum. -/
import Derived.Test.YtnjajndiljlocaaSumsMath
import Derived.Laws.BitsAllLaws
import Derived.Deep.Cut
set_option linter.unusedVariables false
namespace Go.Proofs.Ytnjajndiljlocaa
open Go.ChangeShapes Go.WideShapes Go.ChangeAt Go.RowKit Bit Crc

theorem x32 {a b : Nat} (ha : a < two32) (hb : b < two32) : bits .xor .u32 (a : Int) (b : Int) = ((a ^^^ b : Nat) : Int) := u32_xor_nat a b ha hb
theorem x_lt {a b : Nat} (ha : a < two32) (hb : b < two32) : a ^^^ b < two32 := Nat.xor_lt_two_pow (n := 32) ha hb
theorem b_lt {b : Nat} (hb : b < 256) : b < two32 := by unfold two32; omega
theorem stp_odd {x : Nat} (h : x % 2 = 1) : stp x = x / 2 ^^^ poly := by unfold stp; rw [if_pos h]
theorem stp_even {x : Nat} (h : x % 2 = 0) : stp x = x / 2 := by unfold stp; rw [if_neg (by omega)]; simp

theorem and1 {x : Nat} (h : x < two32) : bits .and .u32 (x : Int) 1 = ((x % 2 : Nat) : Int) := by
  rw [show (1 : Int) = ((1 : Nat) : Int) from rfl, u32_and_nat x 1 h (by decide), Nat.and_one_is_mod]
theorem poly_int : (2197175160 : Int) = ((poly : Nat) : Int) := rfl
theorem xpoly {x : Nat} (h : x < two32) : bits .xor .u32 ((x : Int) / 2) 2197175160 = ((x / 2 ^^^ poly : Nat) : Int) := by
  rw [poly_int, show (x : Int) / 2 = ((x / 2 : Nat) : Int) from by omega, x32 (by unfold two32 at *; omega) poly_lt]
def GoesRel (Y : Nat) (x i : Value) : Prop := ∃ k X : Nat, k ≤ 8 ∧ i = .int .i64 k ∧ x = .int .u32 X ∧ X < two32 ∧ X = steps k Y

set_option maxRecDepth 100000 in
set_option maxHeartbeats 400000 in
theorem goes_any (S B : Nat) (w : World) (hS : S < two32) (hB : B < 256) :
    Calls Try.prog 31 #[.int .u32 S, .int .u8 B] w fun e w' => e = .returned (.int .u32 (into S B : Nat)) ∧ w = w' := by
  have HX := Lib.hid (x32 hS (b_lt hB))
  have HL := Lib.hid (x_lt hS (b_lt hB))
  have hw : IntKind.u32.wrap (B : Int) = B := by rw [IntKind.wrap_u32']; omega
  clear hS hB
  go_enter Try.func31, Try.ntmps31
  go_wp2
  clear hw
  go_loop [0, 10] (fun x i => GoesRel (S ^^^ B) x i) (fun _ i => 8 - (intOf i).toNat)
  case atStart => exact ⟨0, S ^^^ B, by omega, rfl, vint HX.out, HL.out, rfl⟩
  case round =>
    obtain ⟨k, X, hk, rfl, rfl, hX, hs⟩ := hrel
    have HT := Lib.hid hs
    have HXL := Lib.hid hX
    clear hs hX
    by_cases hlt : k < 8
    · rcases (show X % 2 = 1 ∨ X % 2 = 0 from by omega) with hp | hp
      · have hp2 : (bits .and .u32 (X : Int) 1 == 1) = true := by rw [and1 HXL.out, hp]; rfl
        have HP := Lib.hid hp
        clear hp
        go_wp2
        go_round
        case rel =>
          refine ⟨k + 1, stp X, by omega, by go_num, vint ?_, stp_lt HXL.out, by rw [HT.out]; rfl⟩
          rw [stp_odd HP.out, xpoly HXL.out]
        case measure => simp [intOf]; omega
      · have hp2 : (bits .and .u32 (X : Int) 1 == 1) = false := by rw [and1 HXL.out, hp]; rfl
        have HP := Lib.hid hp
        clear hp
        go_wp2
        go_round
        case rel =>
          refine ⟨k + 1, stp X, by omega, by go_num, vint ?_, stp_lt HXL.out, by rw [HT.out]; rfl⟩
          rw [stp_even HP.out]
          omega
        case measure => simp [intOf]; omega
    · obtain rfl : k = 8 := by omega
      go_wp2
      go_ret
      exact ⟨ret_int (by rw [HT.out]; rfl), rfl⟩

theorem take_more (s : ByteArray) (k : Nat) (h : k < s.size) : s.data.toList.take (k + 1) = s.data.toList.take k ++ [s[k]] := by
  rw [List.take_succ_eq_append_getElem (by simpa using h)]; rfl
theorem flip32 {x : Nat} (h : x < two32) : bits .xor .u32 IntKind.u32.max (x : Int) = ((ones - x : Nat) : Int) := by
  rw [show IntKind.u32.max = ((ones : Nat) : Int) from rfl, x32 ones_lt h, not_xor h, Nat.xor_comm]
def SumRel (l : List UInt8) (n : Nat) (x i : Value) : Prop := ∃ k X : Nat, k ≤ n ∧ i = .int .i64 k ∧ x = .int .u32 X ∧ X < two32 ∧ X = st ones (l.take k)

set_option maxRecDepth 100000 in
set_option maxHeartbeats 400000 in
theorem sum_any (s : ByteArray) (w : World) (hs : s.size ≤ maxLen) :
    Calls Try.prog 30 #[.string s] w fun e w' => e = .returned (.int .u32 (sumN s.data.toList : Nat)) ∧ w = w' := by
  unfold maxLen at hs
  go_enter Try.func30, Try.ntmps30
  go_wp2
  go_loop [3, 7] (fun x i => SumRel s.data.toList s.size x i) (fun _ i => s.size - (intOf i).toNat)
  case atStart => exact ⟨0, ones, Nat.zero_le _, rfl, rfl, ones_lt, rfl⟩
  case round =>
    obtain ⟨k, X, hk, rfl, rfl, hX, hx⟩ := hrel
    have HX := Lib.hid hX
    have HT := Lib.hid hx
    clear hX hx
    by_cases hlt : k < s.size
    · have HM := Lib.hid (take_more s k hlt)
      have HL := Lib.hid (u8_lt s[k])
      go_wp2_with (go_at_call 31; refine (goes_any _ _ _ HX.out HL.out).mono ?_; rintro e w' ⟨rfl, rfl⟩)
      go_round
      case rel => exact ⟨k + 1, _, by omega, by go_num, rfl, into_lt HX.out HL.out, by rw [HM.out, st_snoc, HT.out]⟩
      case measure => simp [intOf]; omega
    · have HE := Lib.hid (show s.data.toList.take k = s.data.toList from List.take_of_length_le (by rw [len_data]; omega))
      go_wp2
      go_ret
      refine ⟨ret_int ?_, rfl⟩
      rw [flip32 HX.out, sumN, HT.out, HE.out]
end Go.Proofs.Ytnjajndiljlocaa
