
/- The document's files of the payment: number, header, trailer. -/
import Derived.Test.YtomonhghioamfaaGreatDoorStMath
import Derived.Test.YtomonhghioamfaaGreatDoorMoneyRef2C
import Derived.Test.YtomonhghioamfaaGreatDoorFixedC
import Derived.Test.YtomonhghioamfaaGreatDoorRwMem
import Derived.Test.YtomonhghioamfaaGreatDoorHeldSteps
import Derived.LoopN
import Derived.Deep.RegionHeld3
import Derived.Deep.QuietTactic
import Derived.BigQuiet
import Derived.Deep.Cut
set_option linter.unusedVariables false
namespace Go.Proofs.YtomonhghioamfaaGreatDoor
open Go.ChangeShapes Go.WideShapes Go.ChangeAt Go.RowKit Ky Rw Csv Stl

theorem num18 {l : List UInt8} : 0 ≤ Mon.unpadV l ∧ Mon.unpadV l < 1000000000000000000 := by
  unfold Mon.unpadV
  split
  · rename_i h
    have := Mon.num19 h
    omega
  · omega
set_option maxHeartbeats 4000000 in
set_option maxRecDepth 100000 in
theorem sr_number (s : ByteArray) (W : Int) (w : World) (hs : s.size ≤ maxLen) :
    Calls Tryz.prog 27 #[.string s, .int .i64 W] w fun e w' => e = .returned (.int .i64 (numI s.data.toList W)) ∧ Keeps w w' := by
  obtain ⟨n1, n2⟩ := num18 (l := s.data.toList)
  obtain ⟨n, hn⟩ : ∃ n, Mon.unpadV s.data.toList = n := ⟨_, rfl⟩
  obtain ⟨b, hb⟩ : ∃ b, Mon.unpadB s.data.toList = b := ⟨_, rfl⟩
  have HN := Lib.hid hn
  have HB := Lib.hid hb
  have C1 : Hid (∀ W, Calls Tryz.prog 62 #[.string s] W fun e w' => e = .returned (.tuple #[.int .i64 n, .bool b]) ∧ W = w') := Lib.hid fun W => hn ▸ hb ▸ runpad_any s W hs
  rw [hn] at n1 n2
  obtain ⟨X, hX⟩ : ∃ X : ByteArray, ⟨(Mon.pad n W).toArray⟩ = X := ⟨_, rfl⟩
  have C2 : Hid (∀ V, Calls Tryz.prog 20 #[.int .i64 n, .int .i64 W] V fun e w' => e = .returned (.string X) ∧ Keeps V w') := Lib.hid fun V => hX ▸ rpad_any n W V (by unfold I64 top; omega)
  have HX := Lib.hid hX
  clear hn hb hX hs n1 n2
  go_enter Tryz.func27, Tryz.ntmps27
  go_wp2_with fail
  refine (C1.out _).mono ?_
  rintro e w1 ⟨rfl, rfl⟩
  cases b with
  | false =>
    have E : Hid (numI s.data.toList W = -1) := Lib.hid (by unfold numI; rw [HB.out, if_neg (by simp)])
    go_wp2
    go_ret
    exact ⟨ret_int E.out.symm, Keeps.refl _⟩
  | true =>
    by_cases hx : X = s
    · have E : Hid (numI s.data.toList W = n) := Lib.hid (by unfold numI; rw [HN.out, HB.out, if_pos ⟨rfl, by rw [← hx, ← HX.out, data_mk]⟩])
      subst hx
      go_wp2_with fail
      refine (C2.out _).mono ?_
      rintro e w2 ⟨rfl, k2⟩
      go_wp2
      go_ret
      exact ⟨ret_int E.out.symm, k2⟩
    · have E : Hid (numI s.data.toList W = -1) := Lib.hid (by
        unfold numI
        rw [HN.out, HB.out, if_neg]
        rintro ⟨_, h⟩
        exact hx (bytes_inj (by rw [← HX.out, data_mk, h])))
      have t : (X.toList == s.toList) = false := bytes_eq hx
      have t2 : (X.toList != s.toList) = true := by rw [bne, t]; rfl
      clear hx
      go_wp2_with fail
      refine (C2.out _).mono ?_
      rintro e w2 ⟨rfl, k2⟩
      go_wp2
      go_ret
      exact ⟨ret_int E.out.symm, k2⟩
end Go.Proofs.YtomonhghioamfaaGreatDoor
