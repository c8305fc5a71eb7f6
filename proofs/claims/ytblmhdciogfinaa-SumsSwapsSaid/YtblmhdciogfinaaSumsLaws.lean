
/- The walks of the statements of layer 3, out of the contracts: works, SumsFronts, SumsOpens. -/
import Derived.Test.YtblmhdciogfinaaSumsRefC
set_option linter.unusedVariables false
namespace Go.Proofs.Ytblmhdciogfinaa
open Go.ChangeShapes Go.WideShapes Go.ChangeAt Go.RowKit Bit Crc

theorem sum_is (s : ByteArray) (v : Int) (w : World) (hs : s.size ≤ maxLen) (h : (sumN s.data.toList : Int) = v) :
    Calls Try.prog 10 #[.string s] w fun e w' => e = .returned (.int .u32 v) ∧ w = w' := by
  refine (sum_any s w hs).mono ?_
  rintro e w' ⟨rfl, hk⟩
  exact ⟨ret_int h, hk⟩
theorem seal_is (s t : ByteArray) (w : World) (h : s.size ≤ 4294967296 ∧ sealL s.data.toList = t.data.toList) :
    Calls Try.prog 9 #[.string s] w fun e w' => e = .returned (.string t) ∧ Keeps w w' := by
  refine (seal_any s w h.1).mono ?_
  rintro e w' ⟨rfl, hk⟩
  exact ⟨ret_str (by rw [h.2]), hk⟩
theorem open_is (s t : ByteArray) (b : Bool) (w : World) (hs : s.size ≤ maxLen) (h : opT s.data.toList = t.data.toList ∧ opB s.data.toList = b) :
    Calls Try.prog 13 #[.string s] w fun e w' => e = .returned (.tuple #[.string t, .bool b]) ∧ Keeps w w' := by
  refine (open_any s w hs).mono ?_
  rintro e w' ⟨rfl, hk⟩
  exact ⟨ret_str_bool (by rw [h.1]) h.2, hk⟩

set_option maxRecDepth 100000 in
set_option maxHeartbeats 2000000 in
theorem works_any (w : World) :
    Calls Try.prog 14 #[] w fun e w' => e = .returned (.bool true) ∧ Keeps w w' := by
  go_enter Try.func14, Try.ntmps14
  go_wp2_with (first
    | (go_at_call 10; refine (sum_is ⟨#[49, 50, 51, 52, 53, 54, 55, 56, 57]⟩ 3808858755 _ (by decide +kernel) (by decide +kernel)).mono ?_; rintro e w' ⟨rfl, rfl⟩)
    | (go_at_call 9; first
        | ((with_reducible refine (seal_is ⟨#[]⟩ ⟨#[0, 0, 0, 0]⟩ _ (by decide +kernel)).mono ?_); rintro e w' ⟨rfl, hk⟩)
        | ((with_reducible refine (seal_is ⟨#[111, 110, 101]⟩ ⟨#[111, 110, 101, 233, 178, 148, 42]⟩ _ (by decide +kernel)).mono ?_); rintro e w' ⟨rfl, hk⟩))
    | (go_at_call 13; first
        | ((with_reducible refine (open_is ⟨#[111, 110, 101, 233, 178, 148, 42]⟩ ⟨#[111, 110, 101]⟩ true _ (by decide +kernel) (by decide +kernel)).mono ?_); rintro e w' ⟨rfl, hk⟩)
        | ((with_reducible refine (open_is ⟨#[0, 0, 0]⟩ ⟨#[]⟩ false _ (by decide +kernel) (by decide +kernel)).mono ?_); rintro e w' ⟨rfl, hk⟩)
        | ((with_reducible refine (open_is ⟨#[0, 0, 0, 0]⟩ ⟨#[]⟩ true _ (by decide +kernel) (by decide +kernel)).mono ?_); rintro e w' ⟨rfl, hk⟩)))
  go_ret
  exact ⟨rfl, by repeat (first | assumption | exact Keeps.refl _ | refine Keeps.trans ?_ (by assumption))⟩

def FrontRel (w : World) (n : Nat) (i : Value) (wr : World) : Prop := ∃ j : Int, -1 ≤ j ∧ j ≤ 400 ∧ j ≤ n ∧ i = .int .i64 j ∧ Keeps w wr

set_option maxRecDepth 100000 in
set_option maxHeartbeats 2000000 in
theorem sumsFronts_go (s : ByteArray) (w : World) (hs : s.size ≤ maxLen) :
    Calls Try.prog 3 #[.string s] w fun e w' => e = .returned (.bool true) ∧ Keeps w w' := by
  unfold maxLen at hs
  go_enter Try.func3, Try.ntmps3
  go_wp2
  all_goals
    go_loopw [3] (fun i wr => FrontRel w s.size i wr) (fun i _ => (1 + intOf i).toNat)
    case atStart => exact ⟨_, by omega, by omega, by omega, rfl, Keeps.refl _⟩
    case round =>
      obtain ⟨j, h1, h2, h3, rfl, hk⟩ := hrel
      have K0 := Lib.hid hk
      clear hk
      by_cases hj : 0 ≤ j
      · obtain ⟨k, rfl⟩ := Int.eq_ofNat_of_zero_le hj
        have hks : k ≤ s.size := by omega
        obtain ⟨F, hF⟩ : ∃ F, s.extract 0 k = F := ⟨_, rfl⟩
        have hFs : F.size ≤ 400 := by rw [← hF, ByteArray.size_extract]; omega
        obtain ⟨Z, hZ⟩ : ∃ Z : ByteArray, Z = ⟨(sealL F.data.toList).toArray⟩ := ⟨_, rfl⟩
        have HZ := Lib.hid hZ.symm
        have F1 := Lib.hid (show F.size ≤ 4294967296 from by omega)
        have F2 := Lib.hid (show F.size ≤ maxLen from by unfold maxLen; omega)
        have F3 := Lib.hid (show Z.size ≤ maxLen from by rw [hZ, size_mk, sealL_len, len_data]; unfold maxLen; omega)
        have O := Lib.hid (show opT Z.data.toList = F.data.toList ∧ opB Z.data.toList = true from by
          rw [hZ, data_mk]; exact ⟨(op_seal _).2, (op_seal _).1⟩)
        clear hZ
        go_wp2_with (first
          | (go_at_call 9; refine (seal_any F _ F1.out).mono ?_; rw [HZ.out]; rintro e w1 ⟨rfl, k1⟩)
          | (go_at_call 10; refine (sum_any F _ F2.out).mono ?_; rintro e w' ⟨rfl, rfl⟩)
          | (go_at_call 11; refine (rsum_any F _ F2.out).mono ?_; rintro e w' ⟨rfl, rfl⟩)
          | (go_at_call 12; refine (rseal_any F _ F1.out).mono ?_; rw [HZ.out]; rintro e w2 ⟨rfl, k2⟩)
          | (go_at_call 13; refine (open_is Z F true _ F3.out O.out).mono ?_; rintro e w3 ⟨rfl, k3⟩))
        go_roundw
        case rel => exact ⟨(k : Int) - 1, by omega, by omega, by omega, by first | rfl | go_num, K0.out.trans (k1.trans (k2.trans k3))⟩
        case measure => simp [intOf]; omega
      · have k0 := K0.out
        go_wp2_with (go_at_call 14; refine (works_any _).mono ?_; rintro e w' ⟨rfl, hk⟩)
        go_ret
        exact ⟨rfl, k0.trans hk⟩
end Go.Proofs.Ytblmhdciogfinaa
