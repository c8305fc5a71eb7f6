
/- The laws of manifest: what is parsed, a bad file, the chapter's file. ManifestPrint: the walk. ManifestParse: the walk. -/
import Derived.Test.YtnkcbefamajghaaDoorMfC5
import Derived.Test.YtnkcbefamajghaaDoorMfRefP
import Derived.Test.YtnkcbefamajghaaDoorMfRefQ
set_option linter.unusedVariables false
namespace Go.Proofs.YtnkcbefamajghaaDoor
open Go.ChangeShapes Go.WideShapes Go.ChangeAt Go.RowKit Ky Rw Mft
open Stk (numN fa wide num_put num_yes num_le put_plain put_short plain_put wide_same wide_zero)

/-- What manifest reads of the world: the table of parties, the library's number. -/
structure HasS (w : World) : Prop where
  p : HasP w
  m : HasMax w
theorem HasS.keeps {w w' : World} (h : HasS w) (k : Keeps w w') : HasS w' := ⟨h.p.keeps k, h.m.keeps k⟩
def mA : List UInt8 := [109, 97, 110, 105, 102, 101, 115, 116, 44, 50, 10]
def mB : List UInt8 := [51, 44, 100, 111, 110, 101, 58, 52, 44, 100, 111, 110, 101, 58, 52, 10]
def mC : List UInt8 := [53, 44, 114, 101, 102, 117, 115, 101, 100, 44, 45, 10]
def mD : List UInt8 := [101, 110, 100, 44, 50, 44, 56, 10]
def mD9 : List UInt8 := [101, 110, 100, 44, 50, 44, 57, 10]
def mN : List UInt8 := [53, 44, 45, 44, 45, 10]
def mR : List UInt8 := [51, 44, 114, 101, 102, 117, 115, 101, 100, 44, 45, 10]
def mZ : List UInt8 := [51, 44, 100, 111, 110, 101, 58, 48, 52, 44, 100, 111, 110, 101, 58, 52, 10]
def threeS : List R := [⟨3, 2, 1, 0, 4⟩, ⟨3, 5, 1, 0, 4⟩, ⟨5, 2, 2, 0, 0⟩]
theorem mft_valid : validB 2 2 threeS = true := by decide +kernel
theorem mft_file : fileL 2 threeS = mA ++ mB ++ mC ++ mD := by decide +kernel
theorem mft_yes : parseM (mA ++ mB ++ mC ++ mD) = .ok (2, threeS) := by rw [← mft_file]; exact parse_file (valid_iff.1 mft_valid)
theorem mft_no0 : parseM (mA ++ mB ++ mC ++ mD9) = .error (4, 3, 5) := by kernel_rfl
theorem mft_no1 : parseM (mA ++ mB ++ mN ++ mD) = .error (3, 2, 3) := by kernel_rfl
theorem mft_no2 : parseM (mA ++ mB ++ mR ++ mD) = .error (3, 1, 6) := by kernel_rfl
theorem mft_no3 : parseM (mA ++ mZ ++ mC ++ mD) = .error (2, 2, 3) := by kernel_rfl
theorem mfNo (S : ByteArray) (a b : Nat) (c : Int) (w : World) (hp : HasS w) (hs : S.size ≤ maxLen) (h : parseM S.data.toList = .error (a, b, c)) :
    Calls Tryd.prog 13 #[.string S] w fun e w' => e = .returned (.tuple #[stV 0 0 (.slice none 0 0), .agg #[.int .i64 (a : Int), .int .i64 (b : Int), .int .i64 c]]) ∧ Keeps w w' := by
  refine (mp_parse S w hs hp.m).mono fun e w' ho => ?_
  rcases ho with ⟨s, L, v, h1, _⟩ | ⟨a', b', c', h1, h2, k⟩
  · rw [h] at h1; cases h1
  · rw [h] at h1
    cases h1
    exact ⟨h2, k⟩
theorem mfYes (S : ByteArray) (s : Int) (L : List R) (w : World) (hp : HasS w) (hs : S.size ≤ maxLen) (h : parseM S.data.toList = .ok (s, L)) :
    Calls Tryd.prog 13 #[.string S] w fun e w' => ∃ v, e = .returned (.tuple #[stV 2 s v, .agg #[.int .i64 0, .int .i64 0, .int .i64 0]]) ∧ RowsIn w' v L ∧ Keeps w w' := by
  refine (mp_parse S w hs hp.m).mono fun e w' ho => ?_
  rcases ho with ⟨s', L', v, h1, h2, h3, k⟩ | ⟨a', b', c', h1, _⟩
  · rw [h] at h1
    cases h1
    exact ⟨v, h2, h3, k⟩
  · rw [h] at h1; cases h1
/-- Both results of Parse, each in a box of the law's own. -/
theorem mfTwo2 (w1 : World) (x0 x1 x2 y0 y1 y2 : Value) : ∀ W, Keeps ((w1.alloc (.cells #[x0, x1, x2] tSt)).alloc (.cells #[y0, y1, y2] skRj)) W →
    ((W.cell? ⟨w1.heap.size, 0, none⟩ = some x0 ∧ W.cell? ⟨w1.heap.size, 1, none⟩ = some x1 ∧ W.cell? ⟨w1.heap.size, 2, none⟩ = some x2) ∧ (W.cell? ⟨w1.heap.size + 1, 0, none⟩ = some y0 ∧ W.cell? ⟨w1.heap.size + 1, 1, none⟩ = some y1 ∧ W.cell? ⟨w1.heap.size + 1, 2, none⟩ = some y2)) ∧ Keeps w1 W := fun W k => by
  have s1 : (w1.alloc (.cells #[x0, x1, x2] tSt)).heap.size = w1.heap.size + 1 := by simp
  have n1 := heap_alloc_new (w1.alloc (.cells #[x0, x1, x2] tSt)) (.cells #[y0, y1, y2] skRj)
  rw [s1] at n1
  have k1 := Keeps.trans (ky_box (w1.alloc (.cells #[x0, x1, x2] tSt)) (.cells #[y0, y1, y2] skRj)) k
  have e0 := (k1.block w1.heap.size (by simp)).trans (heap_alloc_new w1 (.cells #[x0, x1, x2] tSt))
  have e1 := (k.block (w1.heap.size + 1) (by simp)).trans n1
  exact ⟨⟨(sk_three_atG e0).1, (sk_three_atG e1).1⟩, Keeps.trans (ky_box w1 _) k1⟩
theorem mfRows_lit (w : World) : RowsIn (w.alloc (.cells #[.int .i64 3, .int .i64 2, .int .i64 1, .int .i64 0, .int .i64 4, .int .i64 3, .int .i64 5, .int .i64 1, .int .i64 0, .int .i64 4, .int .i64 5, .int .i64 2, .int .i64 2, .int .i64 0, .int .i64 0] tRw)) (.slice (some ⟨w.heap.size, 0, none⟩) 3 3) threeS := by
  have h := heap_alloc_new w (.cells #[.int .i64 3, .int .i64 2, .int .i64 1, .int .i64 0, .int .i64 4, .int .i64 3, .int .i64 5, .int .i64 1, .int .i64 0, .int .i64 4, .int .i64 5, .int .i64 2, .int .i64 2, .int .i64 0, .int .i64 0] tRw)
  refine ⟨_, 3, rfl, by simp [maxLen, threeS], ⟨by simp [threeS], fun e => by cases e⟩, fun j y hy => ⟨_, rfl, ?_⟩⟩
  have hj : j = 0 ∨ j = 1 ∨ j = 2 := by
    have := (List.getElem?_eq_some_iff.1 hy).1
    simp [threeS] at this; omega
  rw [addr_of]
  rcases hj with rfl | rfl | rfl
  · cases hy
    exact ⟨Joins.cell_of_block h 0, Joins.cell_of_block h 1, Joins.cell_of_block h 2, Joins.cell_of_block h 3, Joins.cell_of_block h 4⟩
  · cases hy
    exact ⟨Joins.cell_of_block h 5, Joins.cell_of_block h 6, Joins.cell_of_block h 7, Joins.cell_of_block h 8, Joins.cell_of_block h 9⟩
  · cases hy
    exact ⟨Joins.cell_of_block h 10, Joins.cell_of_block h 11, Joins.cell_of_block h 12, Joins.cell_of_block h 13, Joins.cell_of_block h 14⟩
theorem mf_same_zero : sameB 0 0 0 0 [] [] = true := by decide
set_option maxHeartbeats 4000000 in
set_option maxRecDepth 100000 in
theorem mfBad (S : ByteArray) (a b : Nat) (c : Int) (w : World) (hp : HasS w) (hs : S.size ≤ maxLen) (h : parseM S.data.toList = .error (a, b, c)) (A B : Int) (hA : A = (a : Int)) (hB : B = (b : Int)) :
    Calls Tryd.prog 20 #[.string S, .int .i64 A, .int .i64 B, .int .i64 c] w fun e w' => e = .returned (.bool true) ∧ Keeps w w' := by
  subst hA hB
  have C1 := Lib.hid (mfNo S a b c w hp hs h)
  have C2 : Hid (∀ W, Calls Tryd.prog 12 #[stV 0 0 (.slice none 0 0), stV 0 0 (.slice none 0 0)] W fun e w' => e = .returned (.bool true) ∧ Keeps W w') := Lib.hid fun W => mf_same_zero ▸ rr_same 0 0 0 0 _ _ [] [] W (rows_nil W) (rows_nil W)
  clear h hp hs
  unfold stV at C1 C2
  go_enter Tryd.func20, Tryd.ntmps20
  go_wp2_with fail
  refine C1.out.mono ?_
  rintro e w1 ⟨rfl, k1⟩
  have K1 := Lib.hid k1
  have TW := Lib.hid (mfTwo2 w1 (.int .i64 0) (.int .i64 0) (.slice none 0 0) (.int .i64 (a : Int)) (.int .i64 (b : Int)) (.int .i64 c))
  clear k1 C1
  go_wp2_with fail
  refine (C2.out _).mono ?_
  rintro e w2 ⟨rfl, k2⟩
  obtain ⟨⟨_, y0, y1, y2⟩, k3⟩ := TW.out _ k2
  have K3 := Lib.hid (Keeps.trans K1.out k3)
  clear k2 k3 C2 TW
  go_wp2
  go_ret
  exact ⟨rfl, K3.out⟩
set_option maxHeartbeats 16000000 in
set_option maxRecDepth 100000 in
theorem mf_carried (w : World) (hp : HasS w) : Calls Tryd.prog 9 #[] w fun e w' => e = .returned (.bool true) ∧ Keeps w w' := by
  obtain ⟨A, hA⟩ : ∃ A : ByteArray, A = ⟨#[109, 97, 110, 105, 102, 101, 115, 116, 44, 50, 10]⟩ := ⟨_, rfl⟩
  obtain ⟨B, hB⟩ : ∃ A : ByteArray, A = ⟨#[51, 44, 100, 111, 110, 101, 58, 52, 44, 100, 111, 110, 101, 58, 52, 10]⟩ := ⟨_, rfl⟩
  obtain ⟨C, hC⟩ : ∃ A : ByteArray, A = ⟨#[53, 44, 114, 101, 102, 117, 115, 101, 100, 44, 45, 10]⟩ := ⟨_, rfl⟩
  obtain ⟨D, hD⟩ : ∃ A : ByteArray, A = ⟨#[101, 110, 100, 44, 50, 44, 56, 10]⟩ := ⟨_, rfl⟩
  obtain ⟨AB, hAB⟩ : ∃ X, A ++ B = X := ⟨_, rfl⟩
  obtain ⟨ABC, hABC⟩ : ∃ X, AB ++ C = X := ⟨_, rfl⟩
  obtain ⟨ABCD, hABCD⟩ : ∃ X, ABC ++ D = X := ⟨_, rfl⟩
  obtain ⟨X0, hX0⟩ : ∃ X, ABC ++ ⟨#[101, 110, 100, 44, 50, 44, 57, 10]⟩ = X := ⟨_, rfl⟩
  obtain ⟨ABN, hABN⟩ : ∃ X, AB ++ ⟨#[53, 44, 45, 44, 45, 10]⟩ = X := ⟨_, rfl⟩
  obtain ⟨X1, hX1⟩ : ∃ X, ABN ++ D = X := ⟨_, rfl⟩
  obtain ⟨ABR, hABR⟩ : ∃ X, AB ++ ⟨#[51, 44, 114, 101, 102, 117, 115, 101, 100, 44, 45, 10]⟩ = X := ⟨_, rfl⟩
  obtain ⟨X2, hX2⟩ : ∃ X, ABR ++ D = X := ⟨_, rfl⟩
  obtain ⟨AZ, hAZ⟩ : ∃ X, A ++ ⟨#[51, 44, 100, 111, 110, 101, 58, 48, 52, 44, 100, 111, 110, 101, 58, 52, 10]⟩ = X := ⟨_, rfl⟩
  obtain ⟨AZC, hAZC⟩ : ∃ X, AZ ++ C = X := ⟨_, rfl⟩
  obtain ⟨X3, hX3⟩ : ∃ X, AZC ++ D = X := ⟨_, rfl⟩
  have lA : A.data.toList = mA := by rw [hA]; rfl
  have lB : B.data.toList = mB := by rw [hB]; rfl
  have lC : C.data.toList = mC := by rw [hC]; rfl
  have lD : D.data.toList = mD := by rw [hD]; rfl
  have lAB : AB.data.toList = mA ++ mB := by rw [← hAB, ByteArray.data_append, Array.toList_append, lA, lB]
  have lABC : ABC.data.toList = mA ++ mB ++ mC := by rw [← hABC, ByteArray.data_append, Array.toList_append, lAB, lC]
  have lABCD : ABCD.data.toList = mA ++ mB ++ mC ++ mD := by rw [← hABCD, ByteArray.data_append, Array.toList_append, lABC, lD]
  have lX0 : X0.data.toList = mA ++ mB ++ mC ++ mD9 := by rw [← hX0, ByteArray.data_append, Array.toList_append, lABC]; rfl
  have lABN : ABN.data.toList = mA ++ mB ++ mN := by rw [← hABN, ByteArray.data_append, Array.toList_append, lAB]; rfl
  have lX1 : X1.data.toList = mA ++ mB ++ mN ++ mD := by rw [← hX1, ByteArray.data_append, Array.toList_append, lABN, lD]
  have lABR : ABR.data.toList = mA ++ mB ++ mR := by rw [← hABR, ByteArray.data_append, Array.toList_append, lAB]; rfl
  have lX2 : X2.data.toList = mA ++ mB ++ mR ++ mD := by rw [← hX2, ByteArray.data_append, Array.toList_append, lABR, lD]
  have lAZ : AZ.data.toList = mA ++ mZ := by rw [← hAZ, ByteArray.data_append, Array.toList_append, lA]; rfl
  have lAZC : AZC.data.toList = mA ++ mZ ++ mC := by rw [← hAZC, ByteArray.data_append, Array.toList_append, lAZ, lC]
  have lX3 : X3.data.toList = mA ++ mZ ++ mC ++ mD := by rw [← hX3, ByteArray.data_append, Array.toList_append, lAZC, lD]
  have zA : A.size = 11 := by rw [hA]; rfl
  have zB : B.size = 16 := by rw [hB]; rfl
  have zC : C.size = 12 := by rw [hC]; rfl
  have zD : D.size = 8 := by rw [hD]; rfl
  have zAB : AB.size = 27 := by rw [← hAB, ByteArray.size_append, zA, zB]
  have zABC : ABC.size = 39 := by rw [← hABC, ByteArray.size_append, zAB, zC]
  have zABCD : ABCD.size = 47 := by rw [← hABCD, ByteArray.size_append, zABC, zD]
  have zX0 : X0.size = 47 := by rw [← hX0, ByteArray.size_append, zABC]; rfl
  have zABN : ABN.size = 33 := by rw [← hABN, ByteArray.size_append, zAB]; rfl
  have zX1 : X1.size = 41 := by rw [← hX1, ByteArray.size_append, zABN, zD]
  have zABR : ABR.size = 39 := by rw [← hABR, ByteArray.size_append, zAB]; rfl
  have zX2 : X2.size = 47 := by rw [← hX2, ByteArray.size_append, zABR, zD]
  have zAZ : AZ.size = 28 := by rw [← hAZ, ByteArray.size_append, zA]; rfl
  have zAZC : AZC.size = 40 := by rw [← hAZC, ByteArray.size_append, zAZ, zC]
  have zX3 : X3.size = 48 := by rw [← hX3, ByteArray.size_append, zAZC, zD]
  have n0 : ¬ (9223372036854775807 < A.size + B.size) := by omega
  have n1 : ¬ (9223372036854775807 < AB.size + C.size) := by omega
  have n2 : ¬ (9223372036854775807 < ABC.size + D.size) := by omega
  have n3 : ¬ (9223372036854775807 < ABC.size + 8) := by omega
  have n4 : ¬ (9223372036854775807 < AB.size + 6) := by omega
  have n5 : ¬ (9223372036854775807 < ABN.size + D.size) := by omega
  have n6 : ¬ (9223372036854775807 < AB.size + 12) := by omega
  have n7 : ¬ (9223372036854775807 < ABR.size + D.size) := by omega
  have n8 : ¬ (9223372036854775807 < A.size + 17) := by omega
  have n9 : ¬ (9223372036854775807 < AZ.size + C.size) := by omega
  have n10 : ¬ (9223372036854775807 < AZC.size + D.size) := by omega
  have PT : Hid (mfPrtS 2 2 threeS = ABCD ∧ prtC 2 2 threeS = 0) := Lib.hid (by
    have hv : (2 : Int) = 2 ∧ validB 2 2 threeS = true := ⟨rfl, mft_valid⟩
    unfold mfPrtS Mft.prt prtC
    rw [if_pos hv, if_pos hv]
    exact ⟨bytes_inj (by rw [data_mk, lABCD, mft_file]), rfl⟩)
  have HP : Hid (∀ W, Keeps w W → HasS W) := Lib.hid fun W k => hp.keeps k
  have CY : Hid (∀ W, Keeps w W → Calls Tryd.prog 13 #[.string ABCD] W fun e w' => ∃ v, e = .returned (.tuple #[stV 2 2 v, .agg #[.int .i64 0, .int .i64 0, .int .i64 0]]) ∧ RowsIn w' v threeS ∧ Keeps W w') := Lib.hid fun W k => mfYes ABCD 2 threeS W (hp.keeps k) (by unfold maxLen; omega) (by rw [lABCD]; exact mft_yes)
  have B0 : Hid (∀ W, Keeps w W → Calls Tryd.prog 20 #[.string X0, .int .i64 4, .int .i64 3, .int .i64 5] W fun e w' => e = .returned (.bool true) ∧ Keeps W w') := Lib.hid fun W k => mfBad X0 4 3 5 W (hp.keeps k) (by unfold maxLen; omega) (by rw [lX0]; exact mft_no0) 4 3 rfl rfl
  have B1 : Hid (∀ W, Keeps w W → Calls Tryd.prog 20 #[.string X1, .int .i64 3, .int .i64 2, .int .i64 3] W fun e w' => e = .returned (.bool true) ∧ Keeps W w') := Lib.hid fun W k => mfBad X1 3 2 3 W (hp.keeps k) (by unfold maxLen; omega) (by rw [lX1]; exact mft_no1) 3 2 rfl rfl
  have B2 : Hid (∀ W, Keeps w W → Calls Tryd.prog 20 #[.string X2, .int .i64 3, .int .i64 1, .int .i64 6] W fun e w' => e = .returned (.bool true) ∧ Keeps W w') := Lib.hid fun W k => mfBad X2 3 1 6 W (hp.keeps k) (by unfold maxLen; omega) (by rw [lX2]; exact mft_no2) 3 1 rfl rfl
  have B3 : Hid (∀ W, Keeps w W → Calls Tryd.prog 20 #[.string X3, .int .i64 2, .int .i64 2, .int .i64 3] W fun e w' => e = .returned (.bool true) ∧ Keeps W w') := Lib.hid fun W k => mfBad X3 2 2 3 W (hp.keeps k) (by unfold maxLen; omega) (by rw [lX3]; exact mft_no3) 2 2 rfl rfl
  have RL := Lib.hid (mfRows_lit w)
  have KR := Lib.hid (ky_box w (.cells #[.int .i64 3, .int .i64 2, .int .i64 1, .int .i64 0, .int .i64 4, .int .i64 3, .int .i64 5, .int .i64 1, .int .i64 0, .int .i64 4, .int .i64 5, .int .i64 2, .int .i64 2, .int .i64 0, .int .i64 0] tRw))
  have KS := Lib.hid (ky_box (w.alloc (.cells #[.int .i64 3, .int .i64 2, .int .i64 1, .int .i64 0, .int .i64 4, .int .i64 3, .int .i64 5, .int .i64 1, .int .i64 0, .int .i64 4, .int .i64 5, .int .i64 2, .int .i64 2, .int .i64 0, .int .i64 0] tRw)) (.cells #[.int .i64 2, .int .i64 2, .slice (some ⟨w.heap.size, 0, none⟩) 3 3] tSt))
  have CS := Lib.hid (st_cells (w.alloc (.cells #[.int .i64 3, .int .i64 2, .int .i64 1, .int .i64 0, .int .i64 4, .int .i64 3, .int .i64 5, .int .i64 1, .int .i64 0, .int .i64 4, .int .i64 5, .int .i64 2, .int .i64 2, .int .i64 0, .int .i64 0] tRw)) 2 2 (.slice (some ⟨w.heap.size, 0, none⟩) 3 3))
  unfold stBox at CS
  rw [show (w.alloc (.cells #[.int .i64 3, .int .i64 2, .int .i64 1, .int .i64 0, .int .i64 4, .int .i64 3, .int .i64 5, .int .i64 1, .int .i64 0, .int .i64 4, .int .i64 5, .int .i64 2, .int .i64 2, .int .i64 0, .int .i64 0] tRw)).heap.size = w.heap.size + 1 by simp] at CS
  clear lA lB lC lD lAB lABC lABCD lX0 lABN lX1 lABR lX2 lAZ lAZC lX3 zA zB zC zD zAB zABC zABCD zX0 zABN zX1 zABR zX2 zAZ zAZC zX3 hp
  have HA := Lib.hid hA
  have HB := Lib.hid hB
  have HC := Lib.hid hC
  have HD := Lib.hid hD
  clear hA hB hC hD
  go_enter Tryd.func9, Tryd.ntmps9
  go_wp2_with fail
  rw [← HA.out, ← HB.out, ← HC.out, ← HD.out]
  have CP := Lib.hid (mp_print 2 2 (.slice (some ⟨w.heap.size, 0, none⟩) 3 3) threeS _ (RL.out.keeps KS.out) (HP.out _ (Keeps.trans KR.out KS.out)).p (HP.out _ (Keeps.trans KR.out KS.out)).m)
  rw [PT.out.1, PT.out.2] at CP
  unfold stV at CP
  refine CP.out.mono ?_
  rintro e w1 ⟨rfl, k1⟩
  have K1 := Lib.hid (Keeps.trans (Keeps.trans KR.out KS.out) k1)
  have KS1 := Lib.hid k1
  clear k1 CP
  go_wp2_with fail
  unfold stV at CY
  refine (CY.out _ K1.out).mono ?_
  rintro e w2 ⟨v2, rfl, r2, k2⟩
  have R2 : Hid (∀ W, Keeps w2 W → RowsIn W v2 threeS) := Lib.hid fun W k => r2.keeps k
  obtain ⟨p2, c2, e2, _⟩ := r2
  rw [show threeS.length = 3 from rfl] at e2
  subst e2
  have K2 := Lib.hid (Keeps.trans K1.out k2)
  have KS2 := Lib.hid (Keeps.trans KS1.out k2)
  clear k2 CY
  go_upto_region 5 with (fail)
  have TW := Lib.hid (mfTwo2 w2 (.int .i64 2) (.int .i64 2) (.slice p2 3 c2) (.int .i64 0) (.int .i64 0) (.int .i64 0))
  obtain ⟨U, hU⟩ : ∃ U, (w2.alloc (.cells #[.int .i64 2, .int .i64 2, .slice p2 3 c2] tSt)).alloc (.cells #[.int .i64 0, .int .i64 0, .int .i64 0] skRj) = U := ⟨_, rfl⟩
  rw [hU] at TW ⊢
  clear hU
  obtain ⟨⟨⟨t0, t1, t2⟩, _⟩, ku⟩ := TW.out U (Keeps.refl _)
  have KU := Lib.hid ku
  obtain ⟨s0, s1, s2⟩ := CS.out U (Keeps.trans KS2.out ku)
  have CM : Hid (Calls Tryd.prog 12 #[stV 2 2 (.slice (some ⟨w.heap.size, 0, none⟩) 3 3), stV 2 2 (.slice p2 3 c2)] U fun e w' => e = .returned (.bool true) ∧ Keeps U w') := Lib.hid (by
    have := rr_same 2 2 2 2 (.slice (some ⟨w.heap.size, 0, none⟩) 3 3) (.slice p2 3 c2) threeS threeS U (RL.out.keeps (Keeps.trans KS.out (Keeps.trans KS2.out ku))) (R2.out U ku)
    rw [show sameB 2 2 2 2 threeS threeS = true by decide] at this
    exact this)
  unfold stV at CM
  clear ku
  go_wp2_with fail
  refine CM.out.mono ?_
  rintro e w3 ⟨rfl, k3⟩
  obtain ⟨⟨_, y0, y1, y2⟩, ku⟩ := TW.out w3 k3
  have K3 := Lib.hid (Keeps.trans K2.out ku)
  clear k3 ku CM t0 t1 t2 s0 s1 s2
  go_wp2_with fail
  refine (B0.out _ K3.out).mono ?_
  rintro e w4 ⟨rfl, k4⟩
  have K4 := Lib.hid (Keeps.trans K3.out k4)
  clear k4 B0 y0 y1 y2
  go_wp2_with fail
  refine (B1.out _ K4.out).mono ?_
  rintro e w5 ⟨rfl, k5⟩
  have K5 := Lib.hid (Keeps.trans K4.out k5)
  clear k5 B1
  go_wp2_with fail
  refine (B2.out _ K5.out).mono ?_
  rintro e w6 ⟨rfl, k6⟩
  have K6 := Lib.hid (Keeps.trans K5.out k6)
  clear k6 B2
  go_wp2_with fail
  refine (B3.out _ K6.out).mono ?_
  rintro e w7 ⟨rfl, k7⟩
  have K7 := Lib.hid (Keeps.trans K6.out k7)
  clear k7 B3
  go_wp2
  go_ret
  exact ⟨rfl, K7.out⟩
theorem mf_same_self (p s : Int) (L : List R) : sameB p s p s L L = true := by unfold sameB; simp
/-- A statement in a box of the law's own. -/
theorem mf_st_box (w : World) (p s : Int) (v : Value) : ∀ W, Keeps (w.alloc (stBox p s v)) W → W.heap[w.heap.size]? = some (.cells #[.int .i64 p, .int .i64 s, v] tSt (0, 0)) := fun W k => (k.block _ (by simp)).trans (heap_alloc_new w (stBox p s v))
set_option maxHeartbeats 16000000 in
set_option maxRecDepth 100000 in
theorem manifestPrint_go (p s : Int) (v : Value) (L : List R) (w : World) (hp : HasS w) (hl : RowsIn w v L) :
    Calls Tryd.prog 3 #[stV p s v] w fun e w' => e = .returned (.bool true) ∧ Keeps w w' := by
  have I1 := Lib.hid hl
  obtain ⟨q, c, rfl, hmx, _, _⟩ := hl
  obtain ⟨N, hN⟩ : ∃ N, L.length = N := ⟨_, rfl⟩
  have HN := Lib.hid hN
  rw [hN] at hmx I1 ⊢
  clear hN
  have KB := Lib.hid (ky_box w (stBox p s (.slice q N c)))
  have SB := Lib.hid (mf_st_box w p s (.slice q N c))
  have IB := Lib.hid (I1.out.keeps KB.out)
  have HP : Hid (∀ W, Keeps w W → HasS W) := Lib.hid fun W k => hp.keeps k
  have HS : Hid (∀ W, Keeps w W → Calls Tryd.prog 9 #[] W fun e w' => e = .returned (.bool true) ∧ Keeps W w') := Lib.hid fun W k => mf_carried W (hp.keeps k)
  unfold maxLen at hmx
  unfold stV
  unfold stBox at KB SB IB
  clear hp
  obtain ⟨x0, x1, x2⟩ := (sk_three_atG (SB.out _ (Keeps.refl _))).1
  by_cases hbig : N ≤ 420
  rotate_left
  · go_enter Tryd.func3, Tryd.ntmps3
    go_wp2_with fail
    refine (HS.out _ KB.out).mono ?_
    rintro e w1 ⟨rfl, k1⟩
    go_wp2
    go_ret
    exact ⟨rfl, KB.out.trans k1⟩
  obtain ⟨w1, hw1⟩ : ∃ W, w.alloc (.cells #[.int .i64 p, .int .i64 s, .slice q N c] tSt) = W := ⟨_, rfl⟩
  have z1 : w1.heap.size = w.heap.size + 1 := by rw [← hw1]; simp
  have KC := Lib.hid (ky_box w1 (stBox p s (.slice q N c)))
  have SC := Lib.hid (mf_st_box w1 p s (.slice q N c))
  unfold stBox at KC SC
  rw [hw1] at KB SB IB x0 x1 x2
  obtain ⟨qo, co, w3, R1, R2, R3⟩ := rowK.copy_row (w1.alloc (.cells #[.int .i64 p, .int .i64 s, .slice q N c] tSt)) (.slice q N c) L (IB.out.keeps KC.out).src (by rw [HN.out]; omega)
  rw [HN.out] at R1 R2
  have HR : Hid ((Builtin.append_ #[tRs, tRs] tRs #[.slice none 0 0, .slice q N c]).run Tryd.prog (w1.alloc (.cells #[.int .i64 p, .int .i64 s, .slice q N c] tSt)) = .ok (.slice qo N co) w3) := Lib.hid R1
  have hc3 := SC.out w3 R3
  rw [z1] at hc3
  have hs3 := SB.out w3 (Keeps.trans KC.out R3)
  obtain ⟨⟨_, _, y2⟩, _, _, g2⟩ := sk_three_atG hc3
  have HC4 := Lib.hid (Joins.block_setCell (i := 2) hc3 (.slice qo N co))
  have HS4 := Lib.hid ((Below.heap_setCell w3 ⟨w.heap.size + 1, 2, none⟩ (.slice qo N co) w.heap.size (show w.heap.size ≠ w.heap.size + 1 by omega)).trans hs3)
  have K4 : Hid (Keeps w1 (w3.setCell ⟨w.heap.size + 1, 2, none⟩ (.slice qo N co))) := Lib.hid ((Keeps.trans KC.out R3).setCell (p := ⟨w.heap.size + 1, 2, none⟩) (by show w1.heap.size ≤ w.heap.size + 1; omega) _)
  have O4 : Hid (RowsIn (w3.setCell ⟨w.heap.size + 1, 2, none⟩ (.slice qo N co)) (.slice qo N co) L) := Lib.hid (own_rows (sk_own_set R2 (by simp; omega) _) (by rw [HN.out]; omega))
  obtain ⟨X, hX⟩ : ∃ X, mfPrtS p s L = X := ⟨_, rfl⟩
  obtain ⟨cc, hcc⟩ : ∃ X, prtC p s L = X := ⟨_, rfl⟩
  clear R1 R2 R3 hc3 hs3
  go_enter Tryd.func3, Tryd.ntmps3
  go_upto_region 4 with (fail)
  clear x0 x1 x2
  obtain ⟨x0, x1, x2⟩ := (sk_three_atG ((KC.out.block _ (by omega)).trans (SB.out w1 (Keeps.refl _)))).1
  go_upto_region 5 with (at_builtin; refine wpAppKnown rfl _ _ _ _ rfl _ _ _ _ rfl rfl HR.out ?_)
  clear x0 x1 x2 y2 g2
  obtain ⟨w4, hw4⟩ : ∃ W, w3.setCell ⟨w.heap.size + 1, 2, none⟩ (.slice qo N co) = W := ⟨_, rfl⟩
  rw [hw4] at HC4 HS4 K4 O4 ⊢
  clear hw4 hw1
  obtain ⟨y0, y1, y2⟩ := (sk_three_atG (show w4.heap[w.heap.size + 1]? = some (.cells #[.int .i64 p, .int .i64 s, .slice qo N co] tSt (0, 0)) from HC4.out)).1
  have C1 : Hid (Calls Tryd.prog 10 #[stV p s (.slice qo N co)] w4 fun e w' => e = .returned (.tuple #[.string X, .int .i64 cc]) ∧ Keeps w4 w') := Lib.hid (by rw [← hX, ← hcc]; exact mp_print p s _ L w4 O4.out (HP.out _ (Keeps.trans KB.out K4.out)).p (HP.out _ (Keeps.trans KB.out K4.out)).m)
  have C2 : Hid (∀ W, Keeps w4 W → Calls Tryd.prog 11 #[stV p s (.slice q N c)] W fun e w' => e = .returned (.tuple #[.string X, .int .i64 cc]) ∧ Keeps W w') := Lib.hid fun W k => by rw [← hX, ← hcc]; exact mr_print p s _ L W (IB.out.keeps (Keeps.trans K4.out k))
  have C3 : Hid (∀ W, Keeps w4 W → Calls Tryd.prog 12 #[stV p s (.slice q N c), stV p s (.slice qo N co)] W fun e w' => e = .returned (.bool true) ∧ Keeps W w') := Lib.hid fun W k => by
    have := rr_same p s p s (.slice q N c) (.slice qo N co) L L W (IB.out.keeps (Keeps.trans K4.out k)) (O4.out.keeps k)
    rwa [mf_same_self] at this
  unfold stV at C1 C2 C3
  clear hX hcc
  go_wp2_with fail
  refine C1.out.mono ?_
  rintro e w5 ⟨rfl, k5⟩
  have K5 := Lib.hid k5
  obtain ⟨x0, x1, x2⟩ := (sk_three_atG ((k5.block _ (Array.getElem?_eq_some_iff.1 HS4.out).1).trans HS4.out)).1
  clear k5 C1 y0 y1 y2
  go_wp2_with fail
  refine (C2.out _ K5.out).mono ?_
  rintro e w6 ⟨rfl, k6⟩
  have K6 := Lib.hid (Keeps.trans K5.out k6)
  clear k6 C2 x0 x1 x2
  obtain ⟨x0, x1, x2⟩ := (sk_three_atG ((K6.out.block _ (Array.getElem?_eq_some_iff.1 HS4.out).1).trans HS4.out)).1
  obtain ⟨y0, y1, y2⟩ := (sk_three_atG ((K6.out.block _ (Array.getElem?_eq_some_iff.1 HC4.out).1).trans (show w4.heap[w.heap.size + 1]? = some (.cells #[.int .i64 p, .int .i64 s, .slice qo N co] tSt (0, 0)) from HC4.out))).1
  go_wp2_with fail
  refine (C3.out _ K6.out).mono ?_
  rintro e w7 ⟨rfl, k7⟩
  have K7 := Lib.hid (Keeps.trans KB.out (Keeps.trans K4.out (Keeps.trans K6.out k7)))
  clear k7 C3 x0 x1 x2 y0 y1 y2
  go_wp2_with fail
  refine (HS.out _ K7.out).mono ?_
  rintro e w8 ⟨rfl, k8⟩
  go_wp2
  go_ret
  exact ⟨rfl, Keeps.trans K7.out k8⟩
end Go.Proofs.YtnkcbefamajghaaDoor
namespace Go.Proofs.YtnkcbefamajghaaDoor
open Go.ChangeShapes Go.WideShapes Go.ChangeAt Go.RowKit Ky Rw Mft

theorem mfrNo (S : ByteArray) (a b : Nat) (c : Int) (w : World) (hs : S.size ≤ maxLen) (h : parseM S.data.toList = .error (a, b, c)) :
    Calls Tryd.prog 14 #[.string S] w fun e w' => e = .returned (.tuple #[stV 0 0 (.slice none 0 0), .agg #[.int .i64 (a : Int), .int .i64 (b : Int), .int .i64 c]]) ∧ Keeps w w' := by
  refine (mr_parse S w hs).mono fun e w' ho => ?_
  rcases ho with ⟨s, L, v, h1, _⟩ | ⟨a', b', c', h1, h2, k⟩
  · rw [h] at h1; cases h1
  · rw [h] at h1
    cases h1
    exact ⟨h2, k⟩
theorem mfrYes (S : ByteArray) (s : Int) (L : List R) (w : World) (hs : S.size ≤ maxLen) (h : parseM S.data.toList = .ok (s, L)) :
    Calls Tryd.prog 14 #[.string S] w fun e w' => ∃ v, e = .returned (.tuple #[stV 2 s v, .agg #[.int .i64 0, .int .i64 0, .int .i64 0]]) ∧ RowsIn w' v L ∧ Keeps w w' := by
  refine (mr_parse S w hs).mono fun e w' ho => ?_
  rcases ho with ⟨s', L', v, h1, h2, h3, k⟩ | ⟨a', b', c', h1, _⟩
  · rw [h] at h1
    cases h1
    exact ⟨v, h2, h3, k⟩
  · rw [h] at h1; cases h1
set_option maxHeartbeats 16000000 in
set_option maxRecDepth 100000 in
theorem manifestParse_go (s : ByteArray) (w : World) (hp : HasS w) (hs : s.size ≤ maxLen) :
    Calls Tryd.prog 4 #[.string s] w fun e w' => e = .returned (.bool true) ∧ Keeps w w' := by
  have HS : Hid (∀ W, Keeps w W → Calls Tryd.prog 9 #[] W fun e w' => e = .returned (.bool true) ∧ Keeps W w') := Lib.hid fun W k => mf_carried W (hp.keeps k)
  have HP := Lib.hid hp
  have HZ := Lib.hid hs
  unfold maxLen at hs
  clear hp
  go_enter Tryd.func4, Tryd.ntmps4
  by_cases hbig : s.size ≤ 3000
  rotate_left
  · have hd : (3000 : Int) < (s.size : Int) := by omega
    have hd2 : decide ((3000 : Int) < (s.size : Int)) = true := decide_eq_true hd
    go_wp2_with fail
    refine (HS.out _ (Keeps.refl _)).mono ?_
    rintro e w1 ⟨rfl, k1⟩
    go_wp2
    go_ret
    exact ⟨rfl, k1⟩
  have hd2 : decide ((3000 : Int) < (s.size : Int)) = false := decide_eq_false (by omega)
  cases hP : parseM s.data.toList with
  | ok r =>
    obtain ⟨q, L⟩ := r
    have C1 := Lib.hid (mfYes s q L w HP.out HZ.out hP)
    have C2 : Hid (∀ W, Calls Tryd.prog 14 #[.string s] W fun e w' => ∃ v, e = .returned (.tuple #[stV 2 q v, .agg #[.int .i64 0, .int .i64 0, .int .i64 0]]) ∧ RowsIn w' v L ∧ Keeps W w') := Lib.hid fun W => mfrYes s q L W HZ.out hP
    unfold stV at C1 C2
    obtain ⟨N, hN⟩ : ∃ N, L.length = N := ⟨_, rfl⟩
    have HN := Lib.hid hN
    clear hP hN
    go_wp2_with fail
    refine C1.out.mono ?_
    rintro e w1 ⟨v1, rfl, i1, k1⟩
    have I1 : Hid (∀ W, Keeps w1 W → RowsIn W v1 L) := Lib.hid fun W k => i1.keeps k
    obtain ⟨p1, c1, e1, _⟩ := i1
    rw [HN.out] at e1
    subst e1
    have K1 := Lib.hid k1
    clear k1 C1
    go_upto_region 4 with (fail)
    have T1 := Lib.hid (mfTwo2 w1 (.int .i64 2) (.int .i64 q) (.slice p1 N c1) (.int .i64 0) (.int .i64 0) (.int .i64 0))
    obtain ⟨U1, hU⟩ : ∃ U, (w1.alloc (.cells #[.int .i64 2, .int .i64 q, .slice p1 N c1] tSt)).alloc (.cells #[.int .i64 0, .int .i64 0, .int .i64 0] skRj) = U := ⟨_, rfl⟩
    rw [hU] at T1 ⊢
    clear hU
    go_wp2_with fail
    refine (C2.out _).mono ?_
    rintro e w2 ⟨v2, rfl, i2, k2⟩
    have I2 : Hid (∀ W, Keeps w2 W → RowsIn W v2 L) := Lib.hid fun W k => i2.keeps k
    obtain ⟨p2, c2, e2, _⟩ := i2
    rw [HN.out] at e2
    subst e2
    have K2 := Lib.hid k2
    clear k2 C2
    go_upto_region 5 with (fail)
    have T2 := Lib.hid (mfTwo2 w2 (.int .i64 2) (.int .i64 q) (.slice p2 N c2) (.int .i64 0) (.int .i64 0) (.int .i64 0))
    obtain ⟨U2, hU⟩ : ∃ U, (w2.alloc (.cells #[.int .i64 2, .int .i64 q, .slice p2 N c2] tSt)).alloc (.cells #[.int .i64 0, .int .i64 0, .int .i64 0] skRj) = U := ⟨_, rfl⟩
    rw [hU] at T2 ⊢
    clear hU
    obtain ⟨⟨⟨b0, b1, b2⟩, y0, y1, y2⟩, ku2⟩ := T2.out U2 (Keeps.refl _)
    obtain ⟨⟨⟨a0, a1, a2⟩, x0, x1, x2⟩, ku1⟩ := T1.out U2 (Keeps.trans K2.out ku2)
    have CM : Hid (Calls Tryd.prog 12 #[stV 2 q (.slice p1 N c1), stV 2 q (.slice p2 N c2)] U2 fun e w' => e = .returned (.bool true) ∧ Keeps U2 w') := Lib.hid (by
      have := rr_same 2 q 2 q (.slice p1 N c1) (.slice p2 N c2) L L U2 (I1.out U2 ku1) (I2.out U2 ku2)
      rwa [mf_same_self] at this)
    unfold stV at CM
    have KU2 := Lib.hid ku2
    clear ku1 ku2
    go_wp2_with fail
    refine CM.out.mono ?_
    rintro e w3 ⟨rfl, k3⟩
    have K3 := Lib.hid k3
    clear k3 CM a0 a1 a2 b0 b1 b2 x0 x1 x2 y0 y1 y2
    obtain ⟨⟨_, y0, y1, y2⟩, ku2⟩ := T2.out w3 K3.out
    obtain ⟨⟨_, x0, x1, x2⟩, ku1⟩ := T1.out w3 (Keeps.trans K2.out ku2)
    have K4 := Lib.hid (Keeps.trans K1.out ku1)
    clear ku1 ku2
    go_wp2_with fail
    refine (HS.out _ K4.out).mono ?_
    rintro e w5 ⟨rfl, k5⟩
    go_wp2
    go_ret
    exact ⟨rfl, Keeps.trans K4.out k5⟩
  | error r =>
    obtain ⟨a, b, c⟩ := r
    have C1 := Lib.hid (mfNo s a b c w HP.out HZ.out hP)
    have C2 : Hid (∀ W, Calls Tryd.prog 14 #[.string s] W fun e w' => e = .returned (.tuple #[stV 0 0 (.slice none 0 0), .agg #[.int .i64 (a : Int), .int .i64 (b : Int), .int .i64 c]]) ∧ Keeps W w') := Lib.hid fun W => mfrNo s a b c W HZ.out hP
    have CM : Hid (∀ W, Calls Tryd.prog 12 #[stV 0 0 (.slice none 0 0), stV 0 0 (.slice none 0 0)] W fun e w' => e = .returned (.bool true) ∧ Keeps W w') := Lib.hid fun W => mf_same_zero ▸ rr_same 0 0 0 0 _ _ [] [] W (rows_nil W) (rows_nil W)
    unfold stV at C1 C2 CM
    clear hP
    go_wp2_with fail
    refine C1.out.mono ?_
    rintro e w1 ⟨rfl, k1⟩
    have K1 := Lib.hid k1
    clear k1 C1
    go_upto_region 4 with (fail)
    have T1 := Lib.hid (mfTwo2 w1 (.int .i64 0) (.int .i64 0) (.slice none 0 0) (.int .i64 (a : Int)) (.int .i64 (b : Int)) (.int .i64 c))
    obtain ⟨U1, hU⟩ : ∃ U, (w1.alloc (.cells #[.int .i64 0, .int .i64 0, .slice none 0 0] tSt)).alloc (.cells #[.int .i64 (a : Int), .int .i64 (b : Int), .int .i64 c] skRj) = U := ⟨_, rfl⟩
    rw [hU] at T1 ⊢
    clear hU
    go_wp2_with fail
    refine (C2.out _).mono ?_
    rintro e w2 ⟨rfl, k2⟩
    have K2 := Lib.hid k2
    clear k2 C2
    go_upto_region 5 with (fail)
    have T2 := Lib.hid (mfTwo2 w2 (.int .i64 0) (.int .i64 0) (.slice none 0 0) (.int .i64 (a : Int)) (.int .i64 (b : Int)) (.int .i64 c))
    obtain ⟨U2, hU⟩ : ∃ U, (w2.alloc (.cells #[.int .i64 0, .int .i64 0, .slice none 0 0] tSt)).alloc (.cells #[.int .i64 (a : Int), .int .i64 (b : Int), .int .i64 c] skRj) = U := ⟨_, rfl⟩
    rw [hU] at T2 ⊢
    clear hU
    obtain ⟨⟨⟨b0, b1, b2⟩, y0, y1, y2⟩, ku2⟩ := T2.out U2 (Keeps.refl _)
    obtain ⟨⟨⟨a0, a1, a2⟩, x0, x1, x2⟩, ku1⟩ := T1.out U2 (Keeps.trans K2.out ku2)
    clear ku1 ku2
    go_wp2_with fail
    refine (CM.out _).mono ?_
    rintro e w3 ⟨rfl, k3⟩
    have K3 := Lib.hid k3
    clear k3 CM a0 a1 a2 b0 b1 b2 x0 x1 x2 y0 y1 y2
    obtain ⟨⟨_, y0, y1, y2⟩, ku2⟩ := T2.out w3 K3.out
    obtain ⟨⟨_, x0, x1, x2⟩, ku1⟩ := T1.out w3 (Keeps.trans K2.out ku2)
    have K4 := Lib.hid (Keeps.trans K1.out ku1)
    clear ku1 ku2
    go_wp2_with fail
    refine (HS.out _ K4.out).mono ?_
    rintro e w5 ⟨rfl, k5⟩
    go_wp2
    go_ret
    exact ⟨rfl, Keeps.trans K4.out k5⟩
end Go.Proofs.YtnkcbefamajghaaDoor
