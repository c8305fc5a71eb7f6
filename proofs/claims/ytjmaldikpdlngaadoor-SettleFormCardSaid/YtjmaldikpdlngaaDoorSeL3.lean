
/- SettleForm: the walk. -/
import Derived.Test.YtjmaldikpdlngaaDoorSeL1
set_option linter.unusedVariables false
namespace Go.Proofs.YtjmaldikpdlngaaDoor
open Go.ChangeShapes Go.WideShapes Go.ChangeAt Go.RowKit Ky Rw Stl

set_option maxHeartbeats 16000000 in
set_option maxRecDepth 100000 in
theorem settleForm_go (s : ByteArray) (w : World) (hp : HasP w) (hs : s.size ≤ maxLen) :
    Calls Tryd.prog 6 #[.string s] w fun e w' => e = .returned (.bool true) ∧ Keeps w w' := by
  have HP : Hid (∀ W, Keeps w W → HasP W) := Lib.hid fun W k => hp.keeps k
  have HS : Hid (∀ W, Keeps w W → Calls Tryd.prog 8 #[] W fun e w' => e = .returned (.bool true) ∧ Keeps W w') := Lib.hid fun W k => sl_settled W (hp.keeps k)
  have CP := Lib.hid (se_parse s w hp hs)
  have CM : Hid (∀ W, Calls Tryd.prog 15 #[stV 0 0 (.slice none 0 0), stV 0 0 (.slice none 0 0)] W fun e w' => e = .returned (.bool true) ∧ Keeps W w') := Lib.hid fun W => same_zero ▸ pw_same 0 0 0 0 _ _ [] [] W (rows_nil W) (rows_nil W)
  unfold stV at CM
  unfold maxLen at hs
  clear hp
  go_enter Tryd.func6, Tryd.ntmps6
  by_cases hbig : s.size ≤ 2000
  rotate_left
  · have hd : (2000 : Int) < (s.size : Int) := by omega
    have hd2 : decide ((2000 : Int) < (s.size : Int)) = true := decide_eq_true hd
    go_wp2_with fail
    refine (HS.out _ (Keeps.refl _)).mono ?_
    rintro e w1 ⟨rfl, k1⟩
    go_wp2
    go_ret
    exact ⟨rfl, k1⟩
  have hd2 : decide ((2000 : Int) < (s.size : Int)) = false := decide_eq_false (by omega)
  go_wp2_with fail
  refine CP.out.mono ?_
  rintro e w1 ho
  rcases ho with ⟨q, L, v, h1, rfl, h3, k1⟩ | ⟨a, b, c, h1, rfl, k1⟩
  · obtain ⟨hV, hF⟩ := file_parse h1
    have HV := Lib.hid hV
    have RI : Hid (∀ W, Keeps w1 W → RowsIn W v L) := Lib.hid fun W k => h3.keeps k
    obtain ⟨p2, c2, e2, _⟩ := h3
    obtain ⟨N, hN⟩ : ∃ N, L.length = N := ⟨_, rfl⟩
    rw [hN] at e2
    subst e2
    have K1 := Lib.hid k1
    have PT : Hid (prtS 0 q L = s ∧ prtC 0 q L = 0) := Lib.hid (by
      have hv : (0 : Int) = 0 ∧ validB 0 q L = true := ⟨rfl, valid_iff.2 hV⟩
      unfold prtS Stl.prt prtC
      rw [if_pos hv, if_pos hv]
      exact ⟨bytes_inj (by rw [data_mk, hF]), rfl⟩)
    clear h1 hV hF k1 CP CM hN
    unfold stV
    go_upto_region 4 with (fail)
    have TW := Lib.hid (two_rj w1 (.int .i64 0) (.int .i64 q) (.slice p2 N c2) (.int .i64 0) (.int .i64 0) (.int .i64 0))
    obtain ⟨U, hU⟩ : ∃ U, (w1.alloc (.cells #[.int .i64 0, .int .i64 q, .slice p2 N c2] tSt)).alloc (.cells #[.int .i64 0, .int .i64 0, .int .i64 0] tRj) = U := ⟨_, rfl⟩
    rw [hU] at TW ⊢
    clear hU
    obtain ⟨⟨⟨t0, t1, t2⟩, r0, r1, r2⟩, ku⟩ := TW.out U (Keeps.refl _)
    have C1 := Lib.hid (se_print 0 q (.slice p2 N c2) L U (RI.out U ku) (HP.out _ (Keeps.trans K1.out ku)))
    rw [PT.out.1, PT.out.2] at C1
    unfold stV at C1
    clear ku
    go_wp2_with fail
    refine C1.out.mono ?_
    rintro e w2 ⟨rfl, k2⟩
    have K2 := Lib.hid k2
    clear C1 k2 t0 t1 t2 r0 r1 r2
    obtain ⟨⟨⟨t0, t1, t2⟩, r0, r1, r2⟩, ku⟩ := TW.out w2 K2.out
    have C2 := Lib.hid (pw_valid 0 q (.slice p2 N c2) L w2 (HP.out _ (Keeps.trans K1.out ku)) (RI.out w2 ku))
    rw [valid_iff.2 HV.out] at C2
    unfold stV at C2
    have K3 := Lib.hid (Keeps.trans K1.out ku)
    clear ku
    go_wp2_with fail
    refine C2.out.mono ?_
    rintro e w3 ⟨rfl, k3⟩
    have K4 := Lib.hid (Keeps.trans K3.out k3)
    clear k3 C2 t0 t1 t2 r0 r1 r2
    go_wp2_with fail
    refine (HS.out _ K4.out).mono ?_
    rintro e w5 ⟨rfl, k5⟩
    go_wp2
    go_ret
    exact ⟨rfl, Keeps.trans K4.out k5⟩
  · obtain ⟨g1, g2, g3⟩ := parse_bad h1
    simp only at g1 g2 g3
    have K1 := Lib.hid k1
    have tc : (c == 0) = false := by rw [beq_eq_false_iff_ne]; omega
    have tc2 : (c != 0) = true := by rw [bne, tc]; rfl
    have ga : (1 : Int) ≤ (a : Int) := by omega
    have gb : (1 : Int) ≤ (b : Int) := by omega
    have TW := Lib.hid (two_rj w1 (.int .i64 0) (.int .i64 0) (.slice none 0 0) (.int .i64 (a : Int)) (.int .i64 (b : Int)) (.int .i64 c))
    clear h1 k1 CP g1 g2 g3
    unfold stV
    go_upto_region 4 with (fail)
    obtain ⟨U, hU⟩ : ∃ U, (w1.alloc (.cells #[.int .i64 0, .int .i64 0, .slice none 0 0] tSt)).alloc (.cells #[.int .i64 (a : Int), .int .i64 (b : Int), .int .i64 c] tRj) = U := ⟨_, rfl⟩
    rw [hU] at TW ⊢
    clear hU
    obtain ⟨⟨⟨t0, t1, t2⟩, r0, r1, r2⟩, ku⟩ := TW.out U (Keeps.refl _)
    have K2 := Lib.hid (Keeps.trans K1.out ku)
    clear ku
    go_wp2_with fail
    refine (CM.out _).mono ?_
    rintro e w3 ⟨rfl, k3⟩
    have K3 := Lib.hid (Keeps.trans K2.out k3)
    clear k3 t0 t1 t2 r0 r1 r2
    go_wp2_with fail
    refine (HS.out _ K3.out).mono ?_
    rintro e w5 ⟨rfl, k5⟩
    go_wp2
    go_ret
    exact ⟨rfl, Keeps.trans K3.out k5⟩
end Go.Proofs.YtjmaldikpdlngaaDoor
