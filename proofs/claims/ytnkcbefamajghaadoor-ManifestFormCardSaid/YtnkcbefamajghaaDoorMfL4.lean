
/- ManifestForm: the walk. -/
import Derived.Test.YtnkcbefamajghaaDoorMfL1
set_option linter.unusedVariables false
namespace Go.Proofs.YtnkcbefamajghaaDoor
open Go.ChangeShapes Go.WideShapes Go.ChangeAt Go.RowKit Ky Rw Mft

set_option maxHeartbeats 16000000 in
set_option maxRecDepth 100000 in
theorem manifestForm_go (s : ByteArray) (w : World) (hp : HasS w) (hs : s.size ≤ maxLen) :
    Calls Tryd.prog 7 #[.string s] w fun e w' => e = .returned (.bool true) ∧ Keeps w w' := by
  have HP : Hid (∀ W, Keeps w W → HasS W) := Lib.hid fun W k => hp.keeps k
  have HS : Hid (∀ W, Keeps w W → Calls Tryd.prog 9 #[] W fun e w' => e = .returned (.bool true) ∧ Keeps W w') := Lib.hid fun W k => mf_carried W (hp.keeps k)
  have CP := Lib.hid (mp_parse s w hs hp.m)
  have CM : Hid (∀ W, Calls Tryd.prog 18 #[stV 0 0 (.slice none 0 0), stV 0 0 (.slice none 0 0)] W fun e w' => e = .returned (.bool true) ∧ Keeps W w') := Lib.hid fun W => mf_same_zero ▸ pw_same 0 0 0 0 _ _ [] [] W (rows_nil W) (rows_nil W)
  unfold stV at CM
  unfold maxLen at hs
  clear hp
  go_enter Tryd.func7, Tryd.ntmps7
  by_cases hbig : s.size ≤ 2000
  rotate_left
  · have hd : (2000 : Int) < (s.size : Int) := by omega
    have hd2 : decide ((2000 : Int) < (s.size : Int)) = true := decide_eq_true hd
    go_wp2_with fail
    refine (HS.out _ (Keeps.refl _)).mono ?_
    rintro e w1 ⟨rfl, k1⟩
    go_wp2
    go_ret
    exact ⟨rfl, k1⟩
  have hd2 : decide ((2000 : Int) < (s.size : Int)) = false := decide_eq_false (by omega)
  go_wp2_with fail
  refine CP.out.mono ?_
  rintro e w1 ho
  rcases ho with ⟨q, L, v, h1, rfl, h3, k1⟩ | ⟨a, b, c, h1, rfl, k1⟩
  · have HV := Lib.hid (parse_valid h1)
    have RI : Hid (∀ W, Keeps w1 W → RowsIn W v L) := Lib.hid fun W k => h3.keeps k
    obtain ⟨p2, c2, e2, _⟩ := h3
    obtain ⟨N, hN⟩ : ∃ N, L.length = N := ⟨_, rfl⟩
    have HN := Lib.hid hN
    rw [hN] at e2
    subst e2
    have K1 := Lib.hid k1
    obtain ⟨X, hX⟩ : ∃ X : ByteArray, ⟨(fileL q L).toArray⟩ = X := ⟨_, rfl⟩
    have XL : Hid (X.data.toList = fileL q L) := Lib.hid (by rw [← hX, data_mk])
    have XS : Hid (X.size ≤ maxLen) := Lib.hid (by rw [← hX, size_mk]; have := file_small HV.out; unfold maxLen; omega)
    have PT : Hid (mfPrtS 2 q L = X ∧ prtC 2 q L = 0) := Lib.hid (by
      have hv : (2 : Int) = 2 ∧ validB 2 q L = true := ⟨rfl, valid_iff.2 HV.out⟩
      unfold mfPrtS Mft.prt prtC
      rw [if_pos hv, if_pos hv]
      exact ⟨hX, rfl⟩)
    have CY : Hid (∀ W, Keeps w W → Calls Tryd.prog 13 #[.string X] W fun e w' => ∃ v, e = .returned (.tuple #[stV 2 q v, .agg #[.int .i64 0, .int .i64 0, .int .i64 0]]) ∧ RowsIn w' v L ∧ Keeps W w') := Lib.hid fun W k => mfYes X q L W (HP.out W k) XS.out (by rw [XL.out]; exact parse_file HV.out)
    clear h1 k1 CP CM hN hX
    unfold stV
    go_upto_region 4 with (fail)
    have TW := Lib.hid (mfTwo2 w1 (.int .i64 2) (.int .i64 q) (.slice p2 N c2) (.int .i64 0) (.int .i64 0) (.int .i64 0))
    obtain ⟨U, hU⟩ : ∃ U, (w1.alloc (.cells #[.int .i64 2, .int .i64 q, .slice p2 N c2] tSt)).alloc (.cells #[.int .i64 0, .int .i64 0, .int .i64 0] skRj) = U := ⟨_, rfl⟩
    rw [hU] at TW ⊢
    clear hU
    obtain ⟨⟨⟨t0, t1, t2⟩, r0, r1, r2⟩, ku⟩ := TW.out U (Keeps.refl _)
    have C1 := Lib.hid (mp_print 2 q (.slice p2 N c2) L U (RI.out U ku) (HP.out _ (Keeps.trans K1.out ku)).p (HP.out _ (Keeps.trans K1.out ku)).m)
    rw [PT.out.1, PT.out.2] at C1
    unfold stV at C1
    clear ku
    go_wp2_with fail
    refine C1.out.mono ?_
    rintro e w2 ⟨rfl, k2⟩
    have K2 := Lib.hid k2
    have KW2 := Lib.hid (K1.out.trans (TW.out w2 k2).2)
    clear C1 k2 t0 t1 t2 r0 r1 r2
    go_wp2_with fail
    unfold stV at CY
    refine (CY.out _ KW2.out).mono ?_
    rintro e w3 ⟨v3, rfl, i3, k3⟩
    have I3 : Hid (∀ W, Keeps w3 W → RowsIn W v3 L) := Lib.hid fun W k => i3.keeps k
    obtain ⟨p3, c3, e3, _⟩ := i3
    rw [HN.out] at e3
    subst e3
    have K3 := Lib.hid k3
    clear k3 CY
    go_upto_region 8 with (fail)
    have T3 := Lib.hid (mfTwo2 w3 (.int .i64 2) (.int .i64 q) (.slice p3 N c3) (.int .i64 0) (.int .i64 0) (.int .i64 0))
    obtain ⟨U3, hU⟩ : ∃ U, (w3.alloc (.cells #[.int .i64 2, .int .i64 q, .slice p3 N c3] tSt)).alloc (.cells #[.int .i64 0, .int .i64 0, .int .i64 0] skRj) = U := ⟨_, rfl⟩
    rw [hU] at T3 ⊢
    clear hU
    obtain ⟨⟨⟨a0, a1, a2⟩, x0, x1, x2⟩, ku3⟩ := T3.out U3 (Keeps.refl _)
    obtain ⟨⟨⟨t0, t1, t2⟩, r0, r1, r2⟩, ku⟩ := TW.out U3 (K2.out.trans (K3.out.trans ku3))
    have C2 : Hid (Calls Tryd.prog 18 #[stV 2 q (.slice p3 N c3), stV 2 q (.slice p2 N c2)] U3 fun e w' => e = .returned (.bool true) ∧ Keeps U3 w') := Lib.hid (by
      have := pw_same 2 q 2 q (.slice p3 N c3) (.slice p2 N c2) L L U3 (I3.out U3 ku3) (RI.out U3 ku)
      rwa [mf_same_self] at this)
    unfold stV at C2
    have KU3 := Lib.hid ku3
    clear ku ku3
    go_wp2_with fail
    refine C2.out.mono ?_
    rintro e w4 ⟨rfl, k4⟩
    have K4 := Lib.hid (K2.out.trans (K3.out.trans (KU3.out.trans k4)))
    clear k4 C2 a0 a1 a2 x0 x1 x2 t0 t1 t2 r0 r1 r2
    obtain ⟨⟨⟨t0, t1, t2⟩, _⟩, ku⟩ := TW.out w4 K4.out
    have C3 := Lib.hid (pw_valid 2 q (.slice p2 N c2) L w4 (HP.out _ (Keeps.trans K1.out ku)).p (RI.out w4 ku))
    rw [valid_iff.2 HV.out] at C3
    unfold stV at C3
    have K5 := Lib.hid (Keeps.trans K1.out ku)
    clear ku
    go_wp2_with fail
    refine C3.out.mono ?_
    rintro e w5 ⟨rfl, k5⟩
    have K6 := Lib.hid (Keeps.trans K5.out k5)
    clear k5 C3 t0 t1 t2
    go_wp2_with fail
    refine (HS.out _ K6.out).mono ?_
    rintro e w6 ⟨rfl, k6⟩
    go_wp2
    go_ret
    exact ⟨rfl, Keeps.trans K6.out k6⟩
  · obtain ⟨g1, g2, g3⟩ := Mft.parse_bad h1
    simp only at g1 g2 g3
    have K1 := Lib.hid k1
    have tc : (c == 0) = false := by rw [beq_eq_false_iff_ne]; omega
    have tc2 : (c != 0) = true := by rw [bne, tc]; rfl
    have ga : (1 : Int) ≤ (a : Int) := by omega
    have gb : (1 : Int) ≤ (b : Int) := by omega
    have TW := Lib.hid (mfTwo2 w1 (.int .i64 0) (.int .i64 0) (.slice none 0 0) (.int .i64 (a : Int)) (.int .i64 (b : Int)) (.int .i64 c))
    clear h1 k1 CP g1 g2 g3
    unfold stV
    go_upto_region 4 with (fail)
    obtain ⟨U, hU⟩ : ∃ U, (w1.alloc (.cells #[.int .i64 0, .int .i64 0, .slice none 0 0] tSt)).alloc (.cells #[.int .i64 (a : Int), .int .i64 (b : Int), .int .i64 c] skRj) = U := ⟨_, rfl⟩
    rw [hU] at TW ⊢
    clear hU
    obtain ⟨⟨⟨t0, t1, t2⟩, r0, r1, r2⟩, ku⟩ := TW.out U (Keeps.refl _)
    have K2 := Lib.hid (Keeps.trans K1.out ku)
    clear ku
    go_wp2_with fail
    refine (CM.out _).mono ?_
    rintro e w3 ⟨rfl, k3⟩
    have K3 := Lib.hid (Keeps.trans K2.out k3)
    clear k3 t0 t1 t2 r0 r1 r2
    go_wp2_with fail
    refine (HS.out _ K3.out).mono ?_
    rintro e w5 ⟨rfl, k5⟩
    go_wp2
    go_ret
    exact ⟨rfl, Keeps.trans K3.out k5⟩
end Go.Proofs.YtnkcbefamajghaaDoor
