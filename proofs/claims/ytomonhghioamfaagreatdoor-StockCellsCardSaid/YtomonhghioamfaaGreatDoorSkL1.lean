
/- The laws of stock: what is parsed, a bad file, the chapter's file. StockPrint: the walk. -/
import Derived.Test.YtomonhghioamfaaGreatDoorSkC5
import Derived.Test.YtomonhghioamfaaGreatDoorSkC6
import Derived.Test.YtomonhghioamfaaGreatDoorSkRefP
import Derived.Test.YtomonhghioamfaaGreatDoorSkRefQ
set_option linter.unusedVariables false
namespace Go.Proofs.YtomonhghioamfaaGreatDoor
open Go.ChangeShapes Go.WideShapes Go.ChangeAt Go.RowKit Ky Rw Stk

/-- What stock reads of the world: the table of parties, the library's number. -/
structure HasS (w : World) : Prop where
  p : HasP w
  m : HasMax w
theorem HasS.keeps {w w' : World} (h : HasS w) (k : Keeps w w') : HasS w' := ⟨h.p.keeps k, h.m.keeps k⟩
def kA : List UInt8 := [115, 116, 111, 99, 107, 44, 55, 10]
def kB : List UInt8 := [51, 44, 114, 101, 115, 101, 114, 118, 101, 44, 100, 111, 110, 101, 44, 52, 10]
def kC : List UInt8 := [101, 110, 100, 44, 49, 10]
def kC2 : List UInt8 := [101, 110, 100, 44, 50, 10]
def kSh : List UInt8 := [51, 44, 115, 104, 105, 112, 44, 100, 111, 110, 101, 44, 52, 10]
def kZ : List UInt8 := [48, 51, 44, 114, 101, 115, 101, 114, 118, 101, 44, 100, 111, 110, 101, 44, 52, 10]
def kF : List UInt8 := [51, 44, 114, 101, 115, 101, 114, 118, 101, 44, 100, 111, 110, 101, 44, 52, 44, 53, 10]
def kK : List UInt8 := [115, 116, 97, 99, 107, 44, 55, 10]
def oneS : R := ⟨3, 0, 1, 0, 4⟩
theorem stk_valid : validB 1 7 [oneS] = true := by decide +kernel
theorem stk_file : fileL 7 [oneS] = kA ++ kB ++ kC := by decide +kernel
theorem stk_yes : parseM (kA ++ kB ++ kC) = .ok (7, [oneS]) := by rw [← stk_file]; exact parse_file (valid_iff.1 stk_valid)
theorem stk_no1 : parseM (kA ++ kB ++ kC2) = .error (3, 2, 4) := by kernel_rfl
theorem stk_no2 : parseM (kA ++ kB) = .error (3, 1, 7) := by kernel_rfl
theorem stk_no3 : parseM (kA ++ kSh ++ kC) = .error (2, 2, 3) := by kernel_rfl
theorem stk_no4 : parseM (kA ++ kZ ++ kC) = .error (2, 1, 3) := by kernel_rfl
theorem stk_no5 : parseM (kA ++ kF ++ kC) = .error (2, 5, 1) := by kernel_rfl
theorem stk_no6 : parseM (kK ++ kB ++ kC) = .error (1, 1, 7) := by kernel_rfl
theorem skNo (S : ByteArray) (a b : Nat) (c : Int) (w : World) (hp : HasS w) (hs : S.size ≤ maxLen) (h : parseM S.data.toList = .error (a, b, c)) :
    Calls Tryz.prog 14 #[.string S] w fun e w' => e = .returned (.tuple #[stV 0 0 (.slice none 0 0), .agg #[.int .i64 (a : Int), .int .i64 (b : Int), .int .i64 c]]) ∧ Keeps w w' := by
  refine (sp_parse S w hs hp.p hp.m).mono fun e w' ho => ?_
  rcases ho with ⟨s, L, v, h1, _⟩ | ⟨a', b', c', h1, h2, k⟩
  · rw [h] at h1; cases h1
  · rw [h] at h1
    cases h1
    exact ⟨h2, k⟩
theorem skYes (S : ByteArray) (s : Int) (L : List R) (w : World) (hp : HasS w) (hs : S.size ≤ maxLen) (h : parseM S.data.toList = .ok (s, L)) :
    Calls Tryz.prog 14 #[.string S] w fun e w' => ∃ v, e = .returned (.tuple #[stV 1 s v, .agg #[.int .i64 0, .int .i64 0, .int .i64 0]]) ∧ RowsIn w' v L ∧ Keeps w w' := by
  refine (sp_parse S w hs hp.p hp.m).mono fun e w' ho => ?_
  rcases ho with ⟨s', L', v, h1, h2, h3, k⟩ | ⟨a', b', c', h1, _⟩
  · rw [h] at h1
    cases h1
    exact ⟨v, h2, h3, k⟩
  · rw [h] at h1; cases h1
/-- Both results of Parse, each in a box of the law's own. -/
theorem skTwo (w1 : World) (x0 x1 x2 y0 y1 y2 : Value) : ∀ W, Keeps ((w1.alloc (.cells #[x0, x1, x2] tSt)).alloc (.cells #[y0, y1, y2] skRj)) W →
    ((W.cell? ⟨w1.heap.size, 0, none⟩ = some x0 ∧ W.cell? ⟨w1.heap.size, 1, none⟩ = some x1 ∧ W.cell? ⟨w1.heap.size, 2, none⟩ = some x2) ∧ (W.cell? ⟨w1.heap.size + 1, 0, none⟩ = some y0 ∧ W.cell? ⟨w1.heap.size + 1, 1, none⟩ = some y1 ∧ W.cell? ⟨w1.heap.size + 1, 2, none⟩ = some y2)) ∧ Keeps w1 W := fun W k => by
  have s1 : (w1.alloc (.cells #[x0, x1, x2] tSt)).heap.size = w1.heap.size + 1 := by simp
  have n1 := heap_alloc_new (w1.alloc (.cells #[x0, x1, x2] tSt)) (.cells #[y0, y1, y2] skRj)
  rw [s1] at n1
  have k1 := Keeps.trans (ky_box (w1.alloc (.cells #[x0, x1, x2] tSt)) (.cells #[y0, y1, y2] skRj)) k
  have e0 := (k1.block w1.heap.size (by simp)).trans (heap_alloc_new w1 (.cells #[x0, x1, x2] tSt))
  have e1 := (k.block (w1.heap.size + 1) (by simp)).trans n1
  exact ⟨⟨(sk_three_atG e0).1, (sk_three_atG e1).1⟩, Keeps.trans (ky_box w1 _) k1⟩
theorem skRow_lit (w : World) (x : R) : RowsIn (w.alloc (.cells #[.int .i64 x.o, .int .i64 x.d, .int .i64 x.c, .int .i64 x.a, .int .i64 x.q] tRw)) (.slice (some ⟨w.heap.size, 0, none⟩) 1 1) [x] := by
  refine ⟨_, 1, rfl, by simp [maxLen], ⟨Nat.le_refl _, fun e => by cases e⟩, fun j y hy => ⟨_, rfl, ?_⟩⟩
  have hj : j = 0 := by
    have := (List.getElem?_eq_some_iff.1 hy).1
    simp at this; omega
  subst hj
  cases hy
  rw [addr_of]
  obtain ⟨a0, a1, a2, a3, a4⟩ := rw_cells w x _ (Keeps.refl _)
  exact ⟨a0, a1, a2, a3, a4⟩
theorem sk_same_zero : sameB 0 0 0 0 [] [] = true := by decide
set_option maxHeartbeats 4000000 in
set_option maxRecDepth 100000 in
theorem skBad (S : ByteArray) (a b : Nat) (c : Int) (w : World) (hp : HasS w) (hs : S.size ≤ maxLen) (h : parseM S.data.toList = .error (a, b, c)) (A B : Int) (hA : A = (a : Int)) (hB : B = (b : Int)) :
    Calls Tryz.prog 31 #[.string S, .int .i64 A, .int .i64 B, .int .i64 c] w fun e w' => e = .returned (.bool true) ∧ Keeps w w' := by
  subst hA hB
  have C1 := Lib.hid (skNo S a b c w hp hs h)
  have C2 : Hid (∀ W, Calls Tryz.prog 9 #[stV 0 0 (.slice none 0 0), stV 0 0 (.slice none 0 0)] W fun e w' => e = .returned (.bool true) ∧ Keeps W w') := Lib.hid fun W => sk_same_zero ▸ rr_same 0 0 0 0 _ _ [] [] W (rows_nil W) (rows_nil W)
  clear h hp hs
  unfold stV at C1 C2
  go_enter Tryz.func31, Tryz.ntmps31
  go_wp2_with fail
  refine C1.out.mono ?_
  rintro e w1 ⟨rfl, k1⟩
  have K1 := Lib.hid k1
  have TW := Lib.hid (skTwo w1 (.int .i64 0) (.int .i64 0) (.slice none 0 0) (.int .i64 (a : Int)) (.int .i64 (b : Int)) (.int .i64 c))
  clear k1 C1
  go_wp2_with fail
  refine (C2.out _).mono ?_
  rintro e w2 ⟨rfl, k2⟩
  obtain ⟨⟨_, y0, y1, y2⟩, k3⟩ := TW.out _ k2
  have K3 := Lib.hid (Keeps.trans K1.out k3)
  clear k2 k3 C2 TW
  go_wp2
  go_ret
  exact ⟨rfl, K3.out⟩
set_option maxHeartbeats 16000000 in
set_option maxRecDepth 100000 in
theorem sk_stocked (w : World) (hp : HasS w) : Calls Tryz.prog 10 #[] w fun e w' => e = .returned (.bool true) ∧ Keeps w w' := by
  obtain ⟨A, hA⟩ : ∃ A : ByteArray, A = ⟨#[115, 116, 111, 99, 107, 44, 55, 10]⟩ := ⟨_, rfl⟩
  obtain ⟨B, hB⟩ : ∃ A : ByteArray, A = ⟨#[51, 44, 114, 101, 115, 101, 114, 118, 101, 44, 100, 111, 110, 101, 44, 52, 10]⟩ := ⟨_, rfl⟩
  obtain ⟨C, hC⟩ : ∃ A : ByteArray, A = ⟨#[101, 110, 100, 44, 49, 10]⟩ := ⟨_, rfl⟩
  obtain ⟨AB, hAB⟩ : ∃ X, A ++ B = X := ⟨_, rfl⟩
  obtain ⟨ABC, hABC⟩ : ∃ X, AB ++ C = X := ⟨_, rfl⟩
  obtain ⟨ABD, hABD⟩ : ∃ X, AB ++ ⟨#[101, 110, 100, 44, 50, 10]⟩ = X := ⟨_, rfl⟩
  obtain ⟨AS, hAS⟩ : ∃ X, A ++ ⟨#[51, 44, 115, 104, 105, 112, 44, 100, 111, 110, 101, 44, 52, 10]⟩ = X := ⟨_, rfl⟩
  obtain ⟨ASC, hASC⟩ : ∃ X, AS ++ C = X := ⟨_, rfl⟩
  obtain ⟨AZ, hAZ⟩ : ∃ X, A ++ ⟨#[48, 51, 44, 114, 101, 115, 101, 114, 118, 101, 44, 100, 111, 110, 101, 44, 52, 10]⟩ = X := ⟨_, rfl⟩
  obtain ⟨AZC, hAZC⟩ : ∃ X, AZ ++ C = X := ⟨_, rfl⟩
  obtain ⟨AF, hAF⟩ : ∃ X, A ++ ⟨#[51, 44, 114, 101, 115, 101, 114, 118, 101, 44, 100, 111, 110, 101, 44, 52, 44, 53, 10]⟩ = X := ⟨_, rfl⟩
  obtain ⟨AFC, hAFC⟩ : ∃ X, AF ++ C = X := ⟨_, rfl⟩
  obtain ⟨KB, hKB⟩ : ∃ X, ⟨#[115, 116, 97, 99, 107, 44, 55, 10]⟩ ++ B = X := ⟨_, rfl⟩
  obtain ⟨KBC, hKBC⟩ : ∃ X, KB ++ C = X := ⟨_, rfl⟩
  have lA : A.data.toList = kA := by rw [hA]; rfl
  have lB : B.data.toList = kB := by rw [hB]; rfl
  have lC : C.data.toList = kC := by rw [hC]; rfl
  have lAB : AB.data.toList = kA ++ kB := by rw [← hAB, ByteArray.data_append, Array.toList_append, lA, lB]
  have lABC : ABC.data.toList = kA ++ kB ++ kC := by rw [← hABC, ByteArray.data_append, Array.toList_append, lAB, lC]
  have lABD : ABD.data.toList = kA ++ kB ++ kC2 := by rw [← hABD, ByteArray.data_append, Array.toList_append, lAB]; rfl
  have lAS : AS.data.toList = kA ++ kSh := by rw [← hAS, ByteArray.data_append, Array.toList_append, lA]; rfl
  have lASC : ASC.data.toList = kA ++ kSh ++ kC := by rw [← hASC, ByteArray.data_append, Array.toList_append, lAS, lC]
  have lAZ : AZ.data.toList = kA ++ kZ := by rw [← hAZ, ByteArray.data_append, Array.toList_append, lA]; rfl
  have lAZC : AZC.data.toList = kA ++ kZ ++ kC := by rw [← hAZC, ByteArray.data_append, Array.toList_append, lAZ, lC]
  have lAF : AF.data.toList = kA ++ kF := by rw [← hAF, ByteArray.data_append, Array.toList_append, lA]; rfl
  have lAFC : AFC.data.toList = kA ++ kF ++ kC := by rw [← hAFC, ByteArray.data_append, Array.toList_append, lAF, lC]
  have lKB : KB.data.toList = kK ++ kB := by rw [← hKB, ByteArray.data_append, Array.toList_append, lB]; rfl
  have lKBC : KBC.data.toList = kK ++ kB ++ kC := by rw [← hKBC, ByteArray.data_append, Array.toList_append, lKB, lC]
  have zA : A.size = 8 := by rw [hA]; rfl
  have zB : B.size = 17 := by rw [hB]; rfl
  have zC : C.size = 6 := by rw [hC]; rfl
  have zAB : AB.size = 25 := by rw [← hAB, ByteArray.size_append, zA, zB]
  have zABC : ABC.size = 31 := by rw [← hABC, ByteArray.size_append, zAB, zC]
  have zABD : ABD.size = 31 := by rw [← hABD, ByteArray.size_append, zAB]; rfl
  have zAS : AS.size = 22 := by rw [← hAS, ByteArray.size_append, zA]; rfl
  have zASC : ASC.size = 28 := by rw [← hASC, ByteArray.size_append, zAS, zC]
  have zAZ : AZ.size = 26 := by rw [← hAZ, ByteArray.size_append, zA]; rfl
  have zAZC : AZC.size = 32 := by rw [← hAZC, ByteArray.size_append, zAZ, zC]
  have zAF : AF.size = 27 := by rw [← hAF, ByteArray.size_append, zA]; rfl
  have zAFC : AFC.size = 33 := by rw [← hAFC, ByteArray.size_append, zAF, zC]
  have zKB : KB.size = 25 := by rw [← hKB, ByteArray.size_append, zB]; rfl
  have zKBC : KBC.size = 31 := by rw [← hKBC, ByteArray.size_append, zKB, zC]
  have n0 : ¬ (9223372036854775807 < A.size + B.size) := by omega
  have n1 : ¬ (9223372036854775807 < AB.size + C.size) := by omega
  have n2 : ¬ (9223372036854775807 < AB.size + 6) := by omega
  have n3 : ¬ (9223372036854775807 < A.size + 14) := by omega
  have n4 : ¬ (9223372036854775807 < AS.size + C.size) := by omega
  have n5 : ¬ (9223372036854775807 < A.size + 18) := by omega
  have n6 : ¬ (9223372036854775807 < AZ.size + C.size) := by omega
  have n7 : ¬ (9223372036854775807 < A.size + 19) := by omega
  have n8 : ¬ (9223372036854775807 < AF.size + C.size) := by omega
  have n9 : ¬ (9223372036854775807 < 8 + B.size) := by omega
  have n10 : ¬ (9223372036854775807 < KB.size + C.size) := by omega
  have PT : Hid (skPrtS 1 7 [oneS] = ABC ∧ prtC 1 7 [oneS] = 0) := Lib.hid (by
    have hv : (1 : Int) = 1 ∧ validB 1 7 [oneS] = true := ⟨rfl, stk_valid⟩
    unfold skPrtS Stk.prt prtC
    rw [if_pos hv, if_pos hv]
    exact ⟨bytes_inj (by rw [data_mk, lABC, stk_file]), rfl⟩)
  have HP : Hid (∀ W, Keeps w W → HasS W) := Lib.hid fun W k => hp.keeps k
  have CY : Hid (∀ W, Keeps w W → Calls Tryz.prog 14 #[.string ABC] W fun e w' => ∃ v, e = .returned (.tuple #[stV 1 7 v, .agg #[.int .i64 0, .int .i64 0, .int .i64 0]]) ∧ RowsIn w' v [oneS] ∧ Keeps W w') := Lib.hid fun W k => skYes ABC 7 [oneS] W (hp.keeps k) (by unfold maxLen; omega) (by rw [lABC]; exact stk_yes)
  have B0 : Hid (∀ W, Keeps w W → Calls Tryz.prog 31 #[.string ABD, .int .i64 3, .int .i64 2, .int .i64 4] W fun e w' => e = .returned (.bool true) ∧ Keeps W w') := Lib.hid fun W k => skBad ABD 3 2 4 W (hp.keeps k) (by unfold maxLen; omega) (by rw [lABD]; exact stk_no1) 3 2 rfl rfl
  have B1 : Hid (∀ W, Keeps w W → Calls Tryz.prog 31 #[.string AB, .int .i64 3, .int .i64 1, .int .i64 7] W fun e w' => e = .returned (.bool true) ∧ Keeps W w') := Lib.hid fun W k => skBad AB 3 1 7 W (hp.keeps k) (by unfold maxLen; omega) (by rw [lAB]; exact stk_no2) 3 1 rfl rfl
  have B2 : Hid (∀ W, Keeps w W → Calls Tryz.prog 31 #[.string ASC, .int .i64 2, .int .i64 2, .int .i64 3] W fun e w' => e = .returned (.bool true) ∧ Keeps W w') := Lib.hid fun W k => skBad ASC 2 2 3 W (hp.keeps k) (by unfold maxLen; omega) (by rw [lASC]; exact stk_no3) 2 2 rfl rfl
  have B3 : Hid (∀ W, Keeps w W → Calls Tryz.prog 31 #[.string AZC, .int .i64 2, .int .i64 1, .int .i64 3] W fun e w' => e = .returned (.bool true) ∧ Keeps W w') := Lib.hid fun W k => skBad AZC 2 1 3 W (hp.keeps k) (by unfold maxLen; omega) (by rw [lAZC]; exact stk_no4) 2 1 rfl rfl
  have B4 : Hid (∀ W, Keeps w W → Calls Tryz.prog 31 #[.string AFC, .int .i64 2, .int .i64 5, .int .i64 1] W fun e w' => e = .returned (.bool true) ∧ Keeps W w') := Lib.hid fun W k => skBad AFC 2 5 1 W (hp.keeps k) (by unfold maxLen; omega) (by rw [lAFC]; exact stk_no5) 2 5 rfl rfl
  have B5 : Hid (∀ W, Keeps w W → Calls Tryz.prog 31 #[.string KBC, .int .i64 1, .int .i64 1, .int .i64 7] W fun e w' => e = .returned (.bool true) ∧ Keeps W w') := Lib.hid fun W k => skBad KBC 1 1 7 W (hp.keeps k) (by unfold maxLen; omega) (by rw [lKBC]; exact stk_no6) 1 1 rfl rfl
  have RL := Lib.hid (skRow_lit w oneS)
  unfold oneS at RL
  have KR := Lib.hid (ky_box w (.cells #[.int .i64 3, .int .i64 0, .int .i64 1, .int .i64 0, .int .i64 4] tRw))
  have KS := Lib.hid (ky_box (w.alloc (.cells #[.int .i64 3, .int .i64 0, .int .i64 1, .int .i64 0, .int .i64 4] tRw)) (.cells #[.int .i64 1, .int .i64 7, .slice (some ⟨w.heap.size, 0, none⟩) 1 1] tSt))
  have CS := Lib.hid (st_cells (w.alloc (.cells #[.int .i64 3, .int .i64 0, .int .i64 1, .int .i64 0, .int .i64 4] tRw)) 1 7 (.slice (some ⟨w.heap.size, 0, none⟩) 1 1))
  unfold stBox at CS
  rw [show (w.alloc (.cells #[.int .i64 3, .int .i64 0, .int .i64 1, .int .i64 0, .int .i64 4] tRw)).heap.size = w.heap.size + 1 by simp] at CS
  clear lA lB lC lAB lABC lABD lAS lASC lAZ lAZC lAF lAFC lKB lKBC zA zB zC zAB zABC zABD zAS zASC zAZ zAZC zAF zAFC zKB zKBC hp
  have HA := Lib.hid hA
  have HB := Lib.hid hB
  have HC := Lib.hid hC
  clear hA hB hC
  go_enter Tryz.func10, Tryz.ntmps10
  go_wp2_with fail
  rw [← HA.out, ← HB.out, ← HC.out]
  have CP := Lib.hid (sp_print 1 7 (.slice (some ⟨w.heap.size, 0, none⟩) 1 1) [oneS] _ (RL.out.keeps KS.out) (HP.out _ (Keeps.trans KR.out KS.out)).p (HP.out _ (Keeps.trans KR.out KS.out)).m)
  rw [PT.out.1, PT.out.2] at CP
  unfold stV at CP
  refine CP.out.mono ?_
  rintro e w1 ⟨rfl, k1⟩
  have K1 := Lib.hid (Keeps.trans (Keeps.trans KR.out KS.out) k1)
  have KS1 := Lib.hid k1
  clear k1 CP
  go_wp2_with fail
  unfold stV at CY
  refine (CY.out _ K1.out).mono ?_
  rintro e w2 ⟨v2, rfl, r2, k2⟩
  have R2 : Hid (∀ W, Keeps w2 W → RowsIn W v2 [oneS]) := Lib.hid fun W k => r2.keeps k
  obtain ⟨p2, c2, e2, _⟩ := r2
  subst e2
  have K2 := Lib.hid (Keeps.trans K1.out k2)
  have KS2 := Lib.hid (Keeps.trans KS1.out k2)
  clear k2 CY
  go_upto_region 5 with (fail)
  have TW := Lib.hid (skTwo w2 (.int .i64 1) (.int .i64 7) (.slice p2 1 c2) (.int .i64 0) (.int .i64 0) (.int .i64 0))
  obtain ⟨U, hU⟩ : ∃ U, (w2.alloc (.cells #[.int .i64 1, .int .i64 7, .slice p2 1 c2] tSt)).alloc (.cells #[.int .i64 0, .int .i64 0, .int .i64 0] skRj) = U := ⟨_, rfl⟩
  rw [hU] at TW ⊢
  clear hU
  obtain ⟨⟨⟨t0, t1, t2⟩, _⟩, ku⟩ := TW.out U (Keeps.refl _)
  have KU := Lib.hid ku
  obtain ⟨s0, s1, s2⟩ := CS.out U (Keeps.trans KS2.out ku)
  have CM : Hid (Calls Tryz.prog 9 #[stV 1 7 (.slice (some ⟨w.heap.size, 0, none⟩) 1 1), stV 1 7 (.slice p2 1 c2)] U fun e w' => e = .returned (.bool true) ∧ Keeps U w') := Lib.hid (by
    have := rr_same 1 7 1 7 (.slice (some ⟨w.heap.size, 0, none⟩) 1 1) (.slice p2 1 c2) [oneS] [oneS] U (RL.out.keeps (Keeps.trans KS.out (Keeps.trans KS2.out ku))) (R2.out U ku)
    rw [show sameB 1 7 1 7 [oneS] [oneS] = true by decide] at this
    exact this)
  unfold stV at CM
  clear ku
  go_wp2_with fail
  refine CM.out.mono ?_
  rintro e w3 ⟨rfl, k3⟩
  obtain ⟨⟨_, y0, y1, y2⟩, ku⟩ := TW.out w3 k3
  have K3 := Lib.hid (Keeps.trans K2.out ku)
  clear k3 ku CM t0 t1 t2 s0 s1 s2
  go_wp2_with fail
  refine (B0.out _ K3.out).mono ?_
  rintro e w4 ⟨rfl, k4⟩
  have K4 := Lib.hid (Keeps.trans K3.out k4)
  clear k4 B0 y0 y1 y2
  go_wp2_with fail
  refine (B1.out _ K4.out).mono ?_
  rintro e w5 ⟨rfl, k5⟩
  have K5 := Lib.hid (Keeps.trans K4.out k5)
  clear k5 B1
  go_wp2_with fail
  refine (B2.out _ K5.out).mono ?_
  rintro e w6 ⟨rfl, k6⟩
  have K6 := Lib.hid (Keeps.trans K5.out k6)
  clear k6 B2
  go_wp2_with fail
  refine (B3.out _ K6.out).mono ?_
  rintro e w7 ⟨rfl, k7⟩
  have K7 := Lib.hid (Keeps.trans K6.out k7)
  clear k7 B3
  go_wp2_with fail
  refine (B4.out _ K7.out).mono ?_
  rintro e w8 ⟨rfl, k8⟩
  have K8 := Lib.hid (Keeps.trans K7.out k8)
  clear k8 B4
  go_wp2_with fail
  refine (B5.out _ K8.out).mono ?_
  rintro e w9 ⟨rfl, k9⟩
  have K9 := Lib.hid (Keeps.trans K8.out k9)
  clear k9 B5
  go_wp2
  go_ret
  exact ⟨rfl, K9.out⟩
end Go.Proofs.YtomonhghioamfaaGreatDoor
namespace Go.Proofs.YtomonhghioamfaaGreatDoor
open Go.ChangeShapes Go.WideShapes Go.ChangeAt Go.RowKit Ky Rw Stk

theorem sk_same_self (p s : Int) (L : List R) : sameB p s p s L L = true := by unfold sameB; simp
/-- A statement in a box of the law's own. -/
theorem sk_st_box (w : World) (p s : Int) (v : Value) : ∀ W, Keeps (w.alloc (stBox p s v)) W → W.heap[w.heap.size]? = some (.cells #[.int .i64 p, .int .i64 s, v] tSt (0, 0)) := fun W k => (k.block _ (by simp)).trans (heap_alloc_new w (stBox p s v))
end Go.Proofs.YtomonhghioamfaaGreatDoor
