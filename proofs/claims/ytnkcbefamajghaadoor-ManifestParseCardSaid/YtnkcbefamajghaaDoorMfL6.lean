
/- ManifestParse: the walk. -/
import Derived.Test.YtnkcbefamajghaaDoorMfL1
set_option linter.unusedVariables false
namespace Go.Proofs.YtnkcbefamajghaaDoor
open Go.ChangeShapes Go.WideShapes Go.ChangeAt Go.RowKit Ky Rw Mft

theorem mfrNo (S : ByteArray) (a b : Nat) (c : Int) (w : World) (hs : S.size ≤ maxLen) (h : parseM S.data.toList = .error (a, b, c)) :
    Calls Tryd.prog 14 #[.string S] w fun e w' => e = .returned (.tuple #[stV 0 0 (.slice none 0 0), .agg #[.int .i64 (a : Int), .int .i64 (b : Int), .int .i64 c]]) ∧ Keeps w w' := by
  refine (mr_parse S w hs).mono fun e w' ho => ?_
  rcases ho with ⟨s, L, v, h1, _⟩ | ⟨a', b', c', h1, h2, k⟩
  · rw [h] at h1; cases h1
  · rw [h] at h1
    cases h1
    exact ⟨h2, k⟩
theorem mfrYes (S : ByteArray) (s : Int) (L : List R) (w : World) (hs : S.size ≤ maxLen) (h : parseM S.data.toList = .ok (s, L)) :
    Calls Tryd.prog 14 #[.string S] w fun e w' => ∃ v, e = .returned (.tuple #[stV 2 s v, .agg #[.int .i64 0, .int .i64 0, .int .i64 0]]) ∧ RowsIn w' v L ∧ Keeps w w' := by
  refine (mr_parse S w hs).mono fun e w' ho => ?_
  rcases ho with ⟨s', L', v, h1, h2, h3, k⟩ | ⟨a', b', c', h1, _⟩
  · rw [h] at h1
    cases h1
    exact ⟨v, h2, h3, k⟩
  · rw [h] at h1; cases h1
set_option maxHeartbeats 16000000 in
set_option maxRecDepth 100000 in
theorem manifestParse_go (s : ByteArray) (w : World) (hp : HasS w) (hs : s.size ≤ maxLen) :
    Calls Tryd.prog 4 #[.string s] w fun e w' => e = .returned (.bool true) ∧ Keeps w w' := by
  have HS : Hid (∀ W, Keeps w W → Calls Tryd.prog 9 #[] W fun e w' => e = .returned (.bool true) ∧ Keeps W w') := Lib.hid fun W k => mf_carried W (hp.keeps k)
  have HP := Lib.hid hp
  have HZ := Lib.hid hs
  unfold maxLen at hs
  clear hp
  go_enter Tryd.func4, Tryd.ntmps4
  by_cases hbig : s.size ≤ 3000
  rotate_left
  · have hd : (3000 : Int) < (s.size : Int) := by omega
    have hd2 : decide ((3000 : Int) < (s.size : Int)) = true := decide_eq_true hd
    go_wp2_with fail
    refine (HS.out _ (Keeps.refl _)).mono ?_
    rintro e w1 ⟨rfl, k1⟩
    go_wp2
    go_ret
    exact ⟨rfl, k1⟩
  have hd2 : decide ((3000 : Int) < (s.size : Int)) = false := decide_eq_false (by omega)
  cases hP : parseM s.data.toList with
  | ok r =>
    obtain ⟨q, L⟩ := r
    have C1 := Lib.hid (mfYes s q L w HP.out HZ.out hP)
    have C2 : Hid (∀ W, Calls Tryd.prog 14 #[.string s] W fun e w' => ∃ v, e = .returned (.tuple #[stV 2 q v, .agg #[.int .i64 0, .int .i64 0, .int .i64 0]]) ∧ RowsIn w' v L ∧ Keeps W w') := Lib.hid fun W => mfrYes s q L W HZ.out hP
    unfold stV at C1 C2
    obtain ⟨N, hN⟩ : ∃ N, L.length = N := ⟨_, rfl⟩
    have HN := Lib.hid hN
    clear hP hN
    go_wp2_with fail
    refine C1.out.mono ?_
    rintro e w1 ⟨v1, rfl, i1, k1⟩
    have I1 : Hid (∀ W, Keeps w1 W → RowsIn W v1 L) := Lib.hid fun W k => i1.keeps k
    obtain ⟨p1, c1, e1, _⟩ := i1
    rw [HN.out] at e1
    subst e1
    have K1 := Lib.hid k1
    clear k1 C1
    go_upto_region 4 with (fail)
    have T1 := Lib.hid (mfTwo2 w1 (.int .i64 2) (.int .i64 q) (.slice p1 N c1) (.int .i64 0) (.int .i64 0) (.int .i64 0))
    obtain ⟨U1, hU⟩ : ∃ U, (w1.alloc (.cells #[.int .i64 2, .int .i64 q, .slice p1 N c1] tSt)).alloc (.cells #[.int .i64 0, .int .i64 0, .int .i64 0] skRj) = U := ⟨_, rfl⟩
    rw [hU] at T1 ⊢
    clear hU
    go_wp2_with fail
    refine (C2.out _).mono ?_
    rintro e w2 ⟨v2, rfl, i2, k2⟩
    have I2 : Hid (∀ W, Keeps w2 W → RowsIn W v2 L) := Lib.hid fun W k => i2.keeps k
    obtain ⟨p2, c2, e2, _⟩ := i2
    rw [HN.out] at e2
    subst e2
    have K2 := Lib.hid k2
    clear k2 C2
    go_upto_region 5 with (fail)
    have T2 := Lib.hid (mfTwo2 w2 (.int .i64 2) (.int .i64 q) (.slice p2 N c2) (.int .i64 0) (.int .i64 0) (.int .i64 0))
    obtain ⟨U2, hU⟩ : ∃ U, (w2.alloc (.cells #[.int .i64 2, .int .i64 q, .slice p2 N c2] tSt)).alloc (.cells #[.int .i64 0, .int .i64 0, .int .i64 0] skRj) = U := ⟨_, rfl⟩
    rw [hU] at T2 ⊢
    clear hU
    obtain ⟨⟨⟨b0, b1, b2⟩, y0, y1, y2⟩, ku2⟩ := T2.out U2 (Keeps.refl _)
    obtain ⟨⟨⟨a0, a1, a2⟩, x0, x1, x2⟩, ku1⟩ := T1.out U2 (Keeps.trans K2.out ku2)
    have CM : Hid (Calls Tryd.prog 12 #[stV 2 q (.slice p1 N c1), stV 2 q (.slice p2 N c2)] U2 fun e w' => e = .returned (.bool true) ∧ Keeps U2 w') := Lib.hid (by
      have := rr_same 2 q 2 q (.slice p1 N c1) (.slice p2 N c2) L L U2 (I1.out U2 ku1) (I2.out U2 ku2)
      rwa [mf_same_self] at this)
    unfold stV at CM
    have KU2 := Lib.hid ku2
    clear ku1 ku2
    go_wp2_with fail
    refine CM.out.mono ?_
    rintro e w3 ⟨rfl, k3⟩
    have K3 := Lib.hid k3
    clear k3 CM a0 a1 a2 b0 b1 b2 x0 x1 x2 y0 y1 y2
    obtain ⟨⟨_, y0, y1, y2⟩, ku2⟩ := T2.out w3 K3.out
    obtain ⟨⟨_, x0, x1, x2⟩, ku1⟩ := T1.out w3 (Keeps.trans K2.out ku2)
    have K4 := Lib.hid (Keeps.trans K1.out ku1)
    clear ku1 ku2
    go_wp2_with fail
    refine (HS.out _ K4.out).mono ?_
    rintro e w5 ⟨rfl, k5⟩
    go_wp2
    go_ret
    exact ⟨rfl, Keeps.trans K4.out k5⟩
  | error r =>
    obtain ⟨a, b, c⟩ := r
    have C1 := Lib.hid (mfNo s a b c w HP.out HZ.out hP)
    have C2 : Hid (∀ W, Calls Tryd.prog 14 #[.string s] W fun e w' => e = .returned (.tuple #[stV 0 0 (.slice none 0 0), .agg #[.int .i64 (a : Int), .int .i64 (b : Int), .int .i64 c]]) ∧ Keeps W w') := Lib.hid fun W => mfrNo s a b c W HZ.out hP
    have CM : Hid (∀ W, Calls Tryd.prog 12 #[stV 0 0 (.slice none 0 0), stV 0 0 (.slice none 0 0)] W fun e w' => e = .returned (.bool true) ∧ Keeps W w') := Lib.hid fun W => mf_same_zero ▸ rr_same 0 0 0 0 _ _ [] [] W (rows_nil W) (rows_nil W)
    unfold stV at C1 C2 CM
    clear hP
    go_wp2_with fail
    refine C1.out.mono ?_
    rintro e w1 ⟨rfl, k1⟩
    have K1 := Lib.hid k1
    clear k1 C1
    go_upto_region 4 with (fail)
    have T1 := Lib.hid (mfTwo2 w1 (.int .i64 0) (.int .i64 0) (.slice none 0 0) (.int .i64 (a : Int)) (.int .i64 (b : Int)) (.int .i64 c))
    obtain ⟨U1, hU⟩ : ∃ U, (w1.alloc (.cells #[.int .i64 0, .int .i64 0, .slice none 0 0] tSt)).alloc (.cells #[.int .i64 (a : Int), .int .i64 (b : Int), .int .i64 c] skRj) = U := ⟨_, rfl⟩
    rw [hU] at T1 ⊢
    clear hU
    go_wp2_with fail
    refine (C2.out _).mono ?_
    rintro e w2 ⟨rfl, k2⟩
    have K2 := Lib.hid k2
    clear k2 C2
    go_upto_region 5 with (fail)
    have T2 := Lib.hid (mfTwo2 w2 (.int .i64 0) (.int .i64 0) (.slice none 0 0) (.int .i64 (a : Int)) (.int .i64 (b : Int)) (.int .i64 c))
    obtain ⟨U2, hU⟩ : ∃ U, (w2.alloc (.cells #[.int .i64 0, .int .i64 0, .slice none 0 0] tSt)).alloc (.cells #[.int .i64 (a : Int), .int .i64 (b : Int), .int .i64 c] skRj) = U := ⟨_, rfl⟩
    rw [hU] at T2 ⊢
    clear hU
    obtain ⟨⟨⟨b0, b1, b2⟩, y0, y1, y2⟩, ku2⟩ := T2.out U2 (Keeps.refl _)
    obtain ⟨⟨⟨a0, a1, a2⟩, x0, x1, x2⟩, ku1⟩ := T1.out U2 (Keeps.trans K2.out ku2)
    clear ku1 ku2
    go_wp2_with fail
    refine (CM.out _).mono ?_
    rintro e w3 ⟨rfl, k3⟩
    have K3 := Lib.hid k3
    clear k3 CM a0 a1 a2 b0 b1 b2 x0 x1 x2 y0 y1 y2
    obtain ⟨⟨_, y0, y1, y2⟩, ku2⟩ := T2.out w3 K3.out
    obtain ⟨⟨_, x0, x1, x2⟩, ku1⟩ := T1.out w3 (Keeps.trans K2.out ku2)
    have K4 := Lib.hid (Keeps.trans K1.out ku1)
    clear ku1 ku2
    go_wp2_with fail
    refine (HS.out _ K4.out).mono ?_
    rintro e w5 ⟨rfl, k5⟩
    go_wp2
    go_ret
    exact ⟨rfl, Keeps.trans K4.out k5⟩
end Go.Proofs.YtnkcbefamajghaaDoor
