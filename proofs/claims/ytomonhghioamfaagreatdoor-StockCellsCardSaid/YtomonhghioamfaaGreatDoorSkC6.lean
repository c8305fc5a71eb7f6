
/- The program's stock: Print. -/
import Derived.Test.YtomonhghioamfaaGreatDoorSkRefQ
import Derived.Test.YtomonhghioamfaaGreatDoorSkC2
import Derived.Test.YtomonhghioamfaaGreatDoorRwCP
import Derived.Test.YtomonhghioamfaaGreatDoorKyCP
import Derived.Test.YtomonhghioamfaaGreatDoorMoneyPutC
import Derived.Test.YtomonhghioamfaaGreatDoorCsvPrintC
set_option linter.unusedVariables false
namespace Go.Proofs.YtomonhghioamfaaGreatDoor
open Go.ChangeShapes Go.WideShapes Go.ChangeAt Go.RowKit Ky Rw Csv Stk

set_option maxHeartbeats 16000000 in
set_option maxRecDepth 100000 in
theorem sp_print (p s : Int) (v : Value) (L : List R) (w : World) (h : RowsIn w v L) (hhp : HasP w) (hhm : HasMax w) :
    Calls Tryz.prog 30 #[stV p s v] w fun e w' => e = .returned (.tuple #[.string (skPrtS p s L), .int .i64 (prtC p s L)]) ∧ Keeps w w' := by
  have KB := Lib.hid (ky_box w (stBox p s v))
  have HR := Lib.hid (h.keeps KB.out)
  have CX := Lib.hid (st_cells w p s v)
  obtain ⟨b, hb⟩ : ∃ b, validB p s L = b := ⟨_, rfl⟩
  have HB := Lib.hid hb
  have C1 := Lib.hid (hb ▸ pw_valid p s v L _ (hhp.keeps KB.out) HR.out)
  have HM : Hid (∀ W, Keeps w W → HasMax W) := Lib.hid fun W k => hhm.keeps k
  obtain ⟨pp, cp, rfl, hmx, _, _⟩ := h
  obtain ⟨N, hN⟩ : ∃ N, L.length = N := ⟨_, rfl⟩
  have HN := Lib.hid hN
  rw [hN] at hmx KB HR C1 CX ⊢
  clear hN hb hhp hhm
  unfold maxLen at hmx
  unfold stBox at KB HR C1 CX
  unfold stV at C1 ⊢
  obtain ⟨x0, x1, x2⟩ := CX.out _ (Keeps.refl _)
  by_cases hp : p = 1
  rotate_left
  · have E : Hid (skPrtS p s L = ⟨#[]⟩ ∧ prtC p s L = 2) := Lib.hid (by unfold skPrtS Stk.prt prtC; rw [if_neg (fun e => hp e.1), if_neg (fun e => hp e.1)]; exact ⟨rfl, rfl⟩)
    have t : (p == 1) = false := by rw [beq_eq_false_iff_ne]; exact hp
    have t2 : (p != 1) = true := by rw [bne, t]; rfl
    clear hp
    go_enter Tryz.func30, Tryz.ntmps30
    go_wp2
    go_ret2
    exact ⟨ret_skP E.out.1.symm E.out.2.symm, KB.out⟩
  subst hp
  go_enter Tryz.func30, Tryz.ntmps30
  go_wp2_with fail
  refine C1.out.mono ?_
  rintro e w1 ⟨rfl, k1⟩
  have K1 := Lib.hid k1
  clear k1 C1 x0 x1 x2
  cases b with
  | false =>
    have E : Hid (skPrtS 1 s L = ⟨#[]⟩ ∧ prtC 1 s L = 2) := Lib.hid (by unfold skPrtS Stk.prt prtC; rw [HB.out, if_neg (by simp), if_neg (by simp)]; exact ⟨rfl, rfl⟩)
    go_wp2
    go_ret2
    exact ⟨ret_skP E.out.1.symm E.out.2.symm, KB.out.trans K1.out⟩
  | true =>
    have VA := Lib.hid (valid_iff.1 HB.out)
    have EO : Hid (skPrtS 1 s L = ⟨(fileL s L).toArray⟩ ∧ prtC 1 s L = 0) := Lib.hid (by unfold skPrtS Stk.prt prtC; rw [HB.out, if_pos ⟨rfl, rfl⟩, if_pos ⟨rfl, rfl⟩]; exact ⟨rfl, rfl⟩)
    have N4 : N ≤ 400 := by have := VA.out.good.len; rw [HN.out] at this; exact this
    have HN4 := Lib.hid N4
    have CXX : Hid (∀ W, Keeps w1 W → W.cell? ⟨w.heap.size, 0, none⟩ = some (.int .i64 1) ∧ W.cell? ⟨w.heap.size, 1, none⟩ = some (.int .i64 s) ∧ W.cell? ⟨w.heap.size, 2, none⟩ = some (.slice pp N cp)) := Lib.hid fun W k => CX.out W (K1.out.trans k)
    obtain ⟨x0, x1, x2⟩ := CXX.out _ (Keeps.refl _)
    obtain ⟨P0, hP0⟩ : ∃ P : ByteArray, ⟨(Mon.put s).toArray⟩ = P := ⟨_, rfl⟩
    have HP0 := Lib.hid hP0
    have C2 : Hid (∀ W, Calls Tryz.prog 65 #[.int .i64 s] W fun e w' => e = .returned (.string P0) ∧ Keeps W w') := Lib.hid fun W => hP0 ▸ moPut_any s W (by have := VA.out.s0; have := VA.out.s1; unfold I64 top; omega)
    have ws : wrap64 s = s := i64w (by have := VA.out.s0; unfold top; omega) (by have := VA.out.s1; unfold top; omega)
    clear hP0
    go_wp2_with fail
    refine (C2.out _).mono ?_
    rintro e w2 ⟨rfl, k2⟩
    have K2 := Lib.hid k2
    clear k2 C2 x0 x1 x2 ws
    obtain ⟨w3, hw3⟩ : ∃ W, w2.alloc (.cells #[.string ⟨#[115, 116, 111, 99, 107]⟩, .string P0] tS) = W := ⟨_, rfl⟩
    obtain ⟨g3, hg3⟩ : ∃ n, w2.heap.size = n := ⟨_, rfl⟩
    have LO : Hid (skStrK.Own w1.heap.size w3 (slV (some ⟨g3, 0, none⟩, 2, 2)) (headT s)) := Lib.hid (by rw [← hw3, ← hg3]; exact sk_lit (n := 2) (by rw [← HP0.out]; rfl) rfl (by simp [maxLen]) _ K2.out.size)
    have K3 : Hid (Keeps w1 w3) := Lib.hid (hw3 ▸ kept_alloc K2.out _)
    have G3 : Hid (w3.heap.size = g3 + 1) := Lib.hid (by rw [← hw3, ← hg3]; simp)
    have TF := Lib.hid (TblO.first (B := w1.heap.size) K3.out.size LO.out)
    have K4 : Hid (Keeps w1 (w3.alloc (.cells #[slV (some ⟨g3, 0, none⟩, 2, 2)] tR))) := Lib.hid (kept_alloc K3.out _)
    obtain ⟨x0, x1, x2⟩ := CXX.out _ K4.out
    unfold slV at x0 x1 x2 K4 TF
    simp only at x0 x1 x2 K4 TF
    go_upto_region 4 with (fail)
    clear hw3 hg3 x0 x1 x2
    obtain ⟨w4, hw4⟩ : ∃ W, w3.alloc (.cells #[.slice (some ⟨g3, 0, none⟩) 2 2] tR) = W := ⟨_, rfl⟩
    obtain ⟨g4, hg4⟩ : ∃ n, w3.heap.size = n := ⟨_, rfl⟩
    rw [hw4] at K4 TF ⊢
    rw [hg4] at TF ⊢
    clear hw4 hg4 G3 LO
    obtain ⟨x0, x1, x2⟩ := CXX.out _ K4.out
    go_wp2_with fail
    go_loopg [4, 25] N (fun g v4 vi W => ∃ (k : Nat) (p4 : Option Addr) (c4 : Nat) (vs : List Sl3), k + g = N ∧ v4 = .slice p4 (k + 1) c4 ∧ vi = .int .i64 (k : Int) ∧ TblO w1.heap.size W (.slice p4 (k + 1) c4) vs (headT s :: (L.take k).map rowT) ∧ Keeps w1 W)
    case atStart => exact ⟨0, _, 1, _, by omega, rfl, rfl, TF.out, K4.out⟩
    case round =>
      obtain ⟨k, p4, c4, vs, hi, rfl, rfl, ht, hw⟩ := hrel
      have HI := Lib.hid hi
      have HT := Lib.hid ht
      have HW := Lib.hid hw
      clear ht hw x0 x1 x2
      obtain ⟨x0, x1, x2⟩ := CXX.out _ HW.out
      cases gk with
      | zero =>
        obtain rfl : k = N := by as_aux_lemma => (omega)
        have hd : decide ((k : Int) < (k : Int)) = false := decide_eq_false (by as_aux_lemma => (omega))
        have hz : ¬ ((k : Int) < (k : Int)) := by as_aux_lemma => (omega)
        obtain ⟨PE, hPE⟩ : ∃ P : ByteArray, ⟨(Mon.put (k : Int)).toArray⟩ = P := ⟨_, rfl⟩
        have HPE := Lib.hid hPE
        have CE : Hid (∀ W, Calls Tryz.prog 65 #[.int .i64 (k : Int)] W fun e w' => e = .returned (.string PE) ∧ Keeps W w') := Lib.hid fun W => hPE ▸ moPut_any (k : Int) W (by have := HN4.out; unfold I64 top; omega)
        have wk : wrap64 (k : Int) = (k : Int) := i64w (by as_aux_lemma => (unfold top; omega)) (by as_aux_lemma => (unfold top; have := HN4.out; omega))
        have TK : Hid (tableL s L = headT s :: (L.take k).map rowT ++ [endT k]) := Lib.hid (by unfold tableL; rw [List.take_of_length_le (by rw [HN.out]; exact Nat.le_refl _), HN.out]; rfl)
        clear hPE
        go_wp2_with fail
        refine (CE.out _).mono ?_
        rintro e w5 ⟨rfl, k5⟩
        have K5 := Lib.hid (HW.out.trans k5)
        have T5 := Lib.hid (HT.out.keeps k5)
        obtain ⟨w6, hw6⟩ : ∃ W, w5.alloc (.cells #[.string ⟨#[101, 110, 100]⟩, .string PE] tS) = W := ⟨_, rfl⟩
        obtain ⟨g6, hg6⟩ : ∃ n, w5.heap.size = n := ⟨_, rfl⟩
        have K6 : Hid (Keeps w1 w6) := Lib.hid (hw6 ▸ kept_alloc K5.out _)
        have T6 : Hid (TblO w1.heap.size w6 (.slice p4 (k + 1) c4) vs (headT s :: (L.take k).map rowT)) := Lib.hid (T5.out.keeps (hw6 ▸ kept_alloc (Keeps.refl _) _))
        have LO : Hid (skStrK.Own w1.heap.size w6 (slV (some ⟨g6, 0, none⟩, 2, 2)) (endT k)) := Lib.hid (by rw [← hw6, ← hg6]; exact sk_lit (n := 2) (by rw [← HPE.out]; rfl) rfl (by simp [maxLen]) _ K5.out.size)
        have LV : Hid (vs.length = k + 1) := Lib.hid (by rw [T6.out.2.1, List.length_cons, List.length_map, List.length_take, HN.out, Nat.min_self])
        have T7 := Lib.hid (T6.out.keeps (kept_alloc (Keeps.refl w6) (.cells #[slV (some ⟨g6, 0, none⟩, 2, 2)] tR)))
        obtain ⟨p8, c8, w8, R1, R2, R3⟩ := skSliK.app_row (w6.alloc (.cells #[slV (some ⟨g6, 0, none⟩, 2, 2)] tR)) w1.heap.size (.slice p4 (k + 1) c4) vs (.slice (some ⟨w6.heap.size, 0, none⟩) 1 1) [(some ⟨g6, 0, none⟩, 2, 2)] T7.out.1 (sk_src1 w6 (some ⟨g6, 0, none⟩, 2, 2)) (by rw [LV.out]; have := HN4.out; simp; omega) (Nat.le_trans K6.out.size (by simp))
        rw [List.length_singleton, LV.out] at R1 R2
        have T8 : Hid (TblO w1.heap.size w8 (.slice p8 (k + 1 + 1) c8) (vs ++ [(some ⟨g6, 0, none⟩, 2, 2)]) (tableL s L)) := Lib.hid (by
          rw [TK.out]
          exact T7.out.app (skStrK.own_keeps LO.out (kept_alloc (Keeps.refl w6) _)) R2 R3)
        have K8 : Hid (Keeps w1 w8) := Lib.hid (sk_mono (kept_alloc K6.out (.cells #[slV (some ⟨g6, 0, none⟩, 2, 2)] tR)) R3 (fun j hj => (T6.out.off j hj).1))
        have HRA : Hid ((Builtin.append_ #[skSliK.ts, skSliK.ts] skSliK.ts #[.slice p4 (k + 1) c4, .slice (some ⟨w6.heap.size, 0, none⟩) 1 1]).run Tryz.prog (w6.alloc (.cells #[.slice (some ⟨g6, 0, none⟩) 2 2] tR)) = .ok (.slice p8 (k + 1 + 1) c8) w8) := Lib.hid R1
        obtain ⟨X, hX⟩ : ∃ X : ByteArray, ⟨(fileL s L).toArray⟩ = X := ⟨_, rfl⟩
        have HX := Lib.hid hX
        have CP : Hid (Calls Tryz.prog 67 #[.slice p8 (k + 1 + 1) c8] w8 fun e w' => e = .returned (.string X) ∧ Keeps w8 w') := Lib.hid (by
          rw [← hX]
          exact csPrint_any (.slice p8 (k + 1 + 1) c8) (tableL s L) w8 (T8.out.rows (by rw [table_len, HN.out]; have := HN4.out; omega)) (sk_fits VA.out) (HM.out _ (KB.out.trans (K1.out.trans K8.out))))
        clear R1 R2 R3 hX k5
        go_wp2_with (first
          | (at_builtin; refine wpAppKnown rfl _ _ _ _ rfl _ _ _ _ rfl rfl HRA.out ?_)
          | (go_at_call 67; refine CP.out.mono ?_; rintro e w9 ⟨rfl, k9⟩))
        go_ret2
        exact ⟨ret_skP (by rw [EO.out.1, HX.out]) EO.out.2.symm, KB.out.trans (K1.out.trans (K8.out.trans k9))⟩
      | succ g =>
        have hlt : k < N := by as_aux_lemma => (omega)
        obtain ⟨x, hx⟩ : ∃ x, L[k]? = some x := ⟨_, List.getElem?_eq_getElem (by have := HN.out; omega)⟩
        obtain ⟨p9, c9, e9, _, _, hc9⟩ := HR.out.keeps (K1.out.trans HW.out)
        rw [HN.out] at e9
        simp only [Value.slice.injEq] at e9
        obtain ⟨rfl, _, rfl⟩ := e9
        obtain ⟨ad, rfl, q0, q1, q2, q3, q4⟩ := hc9 k x hx
        have RX := Lib.hid (VA.out.good.each x (List.mem_of_getElem? hx))
        have TK : Hid (headT s :: (L.take (k + 1)).map rowT = headT s :: (L.take k).map rowT ++ [rowT x]) := Lib.hid (by rw [List.take_add_one, hx, List.map_append]; rfl)
        have hi1 : (k : Int) < (N : Int) := by as_aux_lemma => (omega)
        have hi0 : (0 : Int) ≤ (k : Int) := by as_aux_lemma => (omega)
        have wi : wrap64 ((k : Int) + 1) = (k : Int) + 1 := i64w (by as_aux_lemma => (unfold top; omega)) (by as_aux_lemma => (unfold top; have := HN4.out; omega))
        obtain ⟨P1, hP1⟩ : ∃ P : ByteArray, ⟨(Mon.put x.o).toArray⟩ = P := ⟨_, rfl⟩
        obtain ⟨P2, hP2⟩ : ∃ P : ByteArray, ⟨(Mon.put x.q).toArray⟩ = P := ⟨_, rfl⟩
        obtain ⟨WD, hWD⟩ : ∃ P : ByteArray, wordS x.d = P := ⟨_, rfl⟩
        obtain ⟨LT, hLT⟩ : ∃ P : ByteArray, ⟨(codeW x.c).toArray⟩ = P := ⟨_, rfl⟩
        have HP1 := Lib.hid hP1
        have HP2 := Lib.hid hP2
        have HWD : Hid (⟨(wordB x.d).toArray⟩ = WD) := Lib.hid hWD
        have HLT := Lib.hid hLT
        have CP1 : Hid (∀ W, Calls Tryz.prog 65 #[.int .i64 x.o] W fun e w' => e = .returned (.string P1) ∧ Keeps W w') := Lib.hid fun W => hP1 ▸ moPut_any x.o W (by have := RX.out.key.o0; have := RX.out.key.o1; unfold I64 top; omega)
        have CP2 : Hid (∀ W, Calls Tryz.prog 65 #[.int .i64 x.q] W fun e w' => e = .returned (.string P2) ∧ Keeps W w') := Lib.hid fun W => hP2 ▸ moPut_any x.q W (by have := RX.out.q0; have := RX.out.q1; unfold I64 top; omega)
        have CWd : Hid (∀ W, Calls Tryz.prog 45 #[.int .i64 x.d] W fun e w' => e = .returned (.string WD) ∧ Keeps W w') := Lib.hid fun W => hWD ▸ pk_word x.d W
        have CLt : Hid (∀ W, Calls Tryz.prog 66 #[.int .i64 x.c] W fun e w' => e = .returned (.string LT) ∧ Keeps W w') := Lib.hid fun W => (sp_codeWord x.c W).mono fun e w' h => ⟨by
          rw [h.1, ← hLT]
          unfold codeW
          have h1 := RX.out.c1
          have h2 := RX.out.c2
          by_cases hc : x.c = 2
          · rw [if_pos hc, if_neg (by omega)]
          · rw [if_neg hc, if_pos (by omega)], Keeps.of_eq h.2⟩
        have w1o : wrap64 x.o = x.o := i64w (by have := RX.out.key.o0; unfold top; omega) (by have := RX.out.key.o1; unfold top; omega)
        have w1q : wrap64 x.q = x.q := i64w (by have := RX.out.q0; unfold top; omega) (by have := RX.out.q1; unfold top; omega)
        have LV : Hid (vs.length = k + 1) := Lib.hid (by rw [HT.out.2.1, List.length_cons, List.length_map, List.length_take, HN.out]; omega)
        have LEN : Hid (vs.length + [(some (⟨0, 0, none⟩ : Addr), 4, 4)].length = k + 1 + 1) := Lib.hid (by rw [LV.out]; rfl)
        have LN : Hid (vs.length + [(some (⟨0, 0, none⟩ : Addr), 4, 4)].length ≤ 100000) := Lib.hid (by rw [LV.out]; have := HN4.out; simp; omega)
        clear hc9 hx hP1 hP2 hWD hLT hlt
        go_upto_region 7 with (fail)
        obtain ⟨wq, hwq⟩ : ∃ W, wr.alloc (.cells #[.int .i64 x.o, .int .i64 x.d, .int .i64 x.c, .int .i64 x.a, .int .i64 x.q] tRw) = W := ⟨_, rfl⟩
        obtain ⟨rb, hrb⟩ : ∃ n, wr.heap.size = n := ⟨_, rfl⟩
        have RB : Hid (Row5 wq rb x) := Lib.hid (by rw [← hwq, ← hrb]; exact rw_cells wr x _ (Keeps.refl _))
        have AX : Hid (Keeps wr wq) := Lib.hid (hwq ▸ kept_alloc (Keeps.refl wr) _)
        have RLT : Hid (wr.heap.size ≤ rb) := Lib.hid (by rw [← hrb]; exact Nat.le_refl _)
        rw [hwq, hrb]
        clear hwq hrb q0 q1 q2 q3 q4 x0 x1 x2 hi1 hi0
        obtain ⟨y0, y1, y2, y3, y4⟩ := RB.out
        have HV := Lib.hid (Keeps.refl wq)
        have RBK : Hid (∀ W, Keeps wq W → Row5 W rb x) := Lib.hid fun W k => RB.out.keeps k
        go_region_held3 (fun W => W.cell? ⟨rb, 0, none⟩ = some (.int .i64 x.o) ∧ W.cell? ⟨rb, 1, none⟩ = some (.int .i64 x.d) ∧ W.cell? ⟨rb, 2, none⟩ = some (.int .i64 x.c) ∧ W.cell? ⟨rb, 3, none⟩ = some (.int .i64 x.a) ∧ W.cell? ⟨rb, 4, none⟩ = some (.int .i64 x.q))
          (first | exact RBK.out _ HV.out | exact RBK.out _ (HV.out.trans (ky_drew _)) | assumption) (first
          | (go_at_call 65; (with_reducible refine (CP1.out _).mono ?_); clear CP1; rintro e wv ⟨rfl, hv⟩; have HV := Lib.hid (Keeps.trans (ky_drew wq) hv); have zv := RBK.out _ HV.out; clear hv)
          | (go_at_call 65; (with_reducible refine (CP2.out _).mono ?_); clear CP2; rintro e wv2 ⟨rfl, hv⟩; have HV := Lib.hid (Keeps.trans HV.out hv); have zv := RBK.out _ HV.out; clear hv))
        have HV : Hid (Row5 wv2 rb x ∧ Keeps wq wv2) := Lib.hid ⟨RBK.out _ HV.out, HV.out⟩
        clear y0 y1 y2 y3 y4
        go_upto_region 8 with (fail)
        refine wp_region_held_drew (S := fun W => Row5 W rb x) (by kernel_rfl) (HV.out.1.keeps (ky_drew _)) (fun hHeld => ?_)
        have HK := Lib.hid (HV.out.2.trans (ky_drew _))
        refine takeH (i := 0) (d := some 36) (v := ?av0) rfl rfl (by kernel_rfl) (by kernel_rfl) (by kernel_rfl) (fun _ _ _ h => h) (Or.inl ⟨by rfl, ?ay0⟩) (by assumption) ?ar0
        case ay0 => (intro W hSw; obtain ⟨y0, y1, y2, y3, y4⟩ := hSw; go_simp; try with_reducible rfl)
        try simp only [Act.put, List.setIfInBounds_toArray, List.set_cons_zero, List.set_cons_succ]
        refine takeH (i := 1) (d := some 37) (v := ?av1) rfl rfl (by kernel_rfl) (by kernel_rfl) (by kernel_rfl) (fun _ _ _ h => h) (Or.inl ⟨by rfl, ?ay1⟩) (by assumption) ?ar1
        case ay1 => (intro W hSw; obtain ⟨y0, y1, y2, y3, y4⟩ := hSw; go_simp; try with_reducible rfl)
        try simp only [Act.put, List.setIfInBounds_toArray, List.set_cons_zero, List.set_cons_succ]
        refine takeH (i := 2) (d := some 38) (v := ?av2) rfl rfl (by kernel_rfl) (by kernel_rfl) (by kernel_rfl) (fun _ _ _ h => h) (Or.inl ⟨by rfl, ?ay2⟩) (by assumption) ?ar2
        case ay2 => (intro W hSw; obtain ⟨y0, y1, y2, y3, y4⟩ := hSw; go_simp; try with_reducible rfl)
        try simp only [Act.put, List.setIfInBounds_toArray, List.set_cons_zero, List.set_cons_succ]
        refine takeH (i := 3) (d := some 39) (v := ?av3) rfl rfl (by kernel_rfl) (by kernel_rfl) (by kernel_rfl) (fun _ _ _ h => h) (Or.inl ⟨by rfl, ?ay3⟩) (by assumption) ?ar3
        case ay3 => (intro W hSw; obtain ⟨y0, y1, y2, y3, y4⟩ := hSw; go_simp; try with_reducible rfl)
        try simp only [Act.put, List.setIfInBounds_toArray, List.set_cons_zero, List.set_cons_succ]
        refine takeH (i := 4) (d := some 40) (v := ?av4) rfl rfl (by kernel_rfl) (by kernel_rfl) (by kernel_rfl) (fun _ _ _ h => h) (Or.inl ⟨by rfl, ?ay4⟩) (by assumption) ?ar4
        case ay4 => (intro W hSw; obtain ⟨y0, y1, y2, y3, y4⟩ := hSw; go_simp; try with_reducible rfl)
        try simp only [Act.put, List.setIfInBounds_toArray, List.set_cons_zero, List.set_cons_succ]
        refine takeH (i := 6) (d := some 42) (v := ?av6) rfl rfl (by kernel_rfl) (by kernel_rfl) (by kernel_rfl) (fun _ _ _ h => h) (Or.inl ⟨by rfl, ?ay6⟩) (by assumption) ?ar6
        case ay6 => (intro W hSw; obtain ⟨y0, y1, y2, y3, y4⟩ := hSw; go_simp; try with_reducible rfl)
        try simp only [Act.put, List.setIfInBounds_toArray, List.set_cons_zero, List.set_cons_succ]
        refine takeH (i := 7) (d := some 43) (v := ?av7) rfl rfl (by kernel_rfl) (by kernel_rfl) (by kernel_rfl) (fun _ _ _ h => h) (Or.inl ⟨by rfl, ?ay7⟩) (by assumption) ?ar7
        case ay7 => (intro W hSw; obtain ⟨y0, y1, y2, y3, y4⟩ := hSw; go_simp; try with_reducible rfl)
        try simp only [Act.put, List.setIfInBounds_toArray, List.set_cons_zero, List.set_cons_succ]
        refine takeH (i := 9) (d := some 45) (v := ?av9) rfl rfl (by kernel_rfl) (by kernel_rfl) (by kernel_rfl) (fun _ _ _ h => h) (Or.inl ⟨by rfl, ?ay9⟩) (by assumption) ?ar9
        case ay9 => (intro W hSw; obtain ⟨y0, y1, y2, y3, y4⟩ := hSw; go_simp; try with_reducible rfl)
        try simp only [Act.put, List.setIfInBounds_toArray, List.set_cons_zero, List.set_cons_succ]
        refine wpAnyH_ready (rs := [5]) (by decide +kernel) (by simp) ?_
        refine AllReadyH.cons rfl (fun K hK => ?_) AllReadyH.nil
        go_simp
        refine (CWd.out _).mono ?_
        rintro e wv0 ⟨rfl, kk⟩
        refine hK.out _ _ (hHeld.keeps kk) (fun hHeld => ?_)
        have HK := Lib.hid (HK.out.trans kk)
        clear hK K kk
        try simp only [Act.put, List.setIfInBounds_toArray, List.set_cons_zero, List.set_cons_succ]
        refine wpAnyH_ready (rs := [8]) (by decide +kernel) (by simp) ?_
        refine AllReadyH.cons rfl (fun K hK => ?_) AllReadyH.nil
        go_simp
        refine (CLt.out _).mono ?_
        rintro e wv1 ⟨rfl, kk⟩
        refine hK.out _ _ (hHeld.keeps kk) (fun hHeld => ?_)
        have HK := Lib.hid (HK.out.trans kk)
        clear hK K kk
        try simp only [Act.put, List.setIfInBounds_toArray, List.set_cons_zero, List.set_cons_succ]
        refine wpAnyH_ready (rs := [10]) (by decide +kernel) (by simp) ?_
        refine AllReadyH.cons rfl (fun K hK => ?_) AllReadyH.nil
        go_simp
        refine hK.out _ _ (hHeld.keeps (kept_alloc (Keeps.refl _) _)) (fun hHeld => ?_)
        clear hK K
        try simp only [Act.put, List.setIfInBounds_toArray, List.set_cons_zero, List.set_cons_succ]
        refine wpAnyH_ready (rs := [11]) (by decide +kernel) (by simp) ?_
        refine AllReadyH.cons rfl (fun K hK => ?_) AllReadyH.nil
        go_simp
        refine hK.out _ _ (hHeld.keeps (kept_alloc (Keeps.refl _) _)) (fun hHeld => ?_)
        clear hK K
        try simp only [Act.put, List.setIfInBounds_toArray, List.set_cons_zero, List.set_cons_succ]
        obtain ⟨wl, hwl⟩ : ∃ W, wv1.alloc (.cells #[.string P1, .string WD, .string LT, .string P2] tS) = W := ⟨_, rfl⟩
        obtain ⟨gl, hgl⟩ : ∃ n, wv1.heap.size = n := ⟨_, rfl⟩
        have LO : Hid (skStrK.Own w1.heap.size wl (slV (some ⟨gl, 0, none⟩, 4, 4)) (rowT x)) := Lib.hid (by rw [← hwl, ← hgl]; exact sk_lit (n := 4) (by rw [← HP1.out, ← HWD.out, ← HLT.out, ← HP2.out]; rfl) rfl (by simp [maxLen]) _ (HW.out.trans (AX.out.trans HK.out)).size)
        have KL : Hid (Keeps wr wl) := Lib.hid (by rw [← hwl]; exact kept_alloc (AX.out.trans HK.out) _)
        have SL : Hid (skSliK.Src (wl.alloc (.cells #[.slice (some ⟨gl, 0, none⟩) 4 4] tR)) (.slice (some ⟨gl + 1, 0, none⟩) 1 1) [(some ⟨gl, 0, none⟩, 4, 4)]) := Lib.hid (by
          have e : wl.heap.size = gl + 1 := by rw [← hwl, ← hgl]; simp
          rw [← e]
          exact sk_src1 wl (some ⟨gl, 0, none⟩, 4, 4))
        rw [hwl] at hHeld ⊢
        rw [hgl] at hHeld ⊢
        clear hwl hgl HK
        have TB := Lib.hid ((HT.out.keeps KL.out).keeps (kept_alloc (Keeps.refl wl) (.cells #[slV (some ⟨gl, 0, none⟩, 4, 4)] tR)))
        refine wpAnyH_ready (rs := [12]) (by decide +kernel) (by simp) ?_
        refine AllReadyH.cons rfl (fun K hK => ?_) AllReadyH.nil
        refine stepAppOwnK skSliK rfl _ _ rfl rfl w1.heap.size ?hB (.slice p4 (k + 1) c4) (.slice (some ⟨gl + 1, 0, none⟩) 1 1) vs [(some ⟨gl, 0, none⟩, 4, 4)] (k + 1 + 1) LEN.out rfl rfl ?hO SL.out LN.out ?_
        case hB => exact Nat.le_trans (HW.out.trans KL.out).size (by simp)
        case hO => exact TB.out.1
        intro p5 c5 w5 o5 g5
        refine hK.out _ _ (hHeld.grown g5 (fun e => by have := (HT.out.off rb e).2; have := RLT.out; omega)) (fun hHeld => ?_)
        clear hK K
        try simp only [Act.put, List.setIfInBounds_toArray]
        have TA : Hid (TblO w1.heap.size w5 (.slice p5 (k + 1 + 1) c5) (vs ++ [(some ⟨gl, 0, none⟩, 4, 4)]) (headT s :: (L.take (k + 1)).map rowT)) := Lib.hid (by
          have := TB.out.app (skStrK.own_keeps LO.out (kept_alloc (Keeps.refl wl) _)) o5 g5
          rw [TK.out]
          exact this)
        have KA : Hid (Keeps w1 w5) := Lib.hid (sk_mono ((HW.out.trans KL.out).trans (kept_alloc (Keeps.refl wl) _)) g5 (fun j hj => (HT.out.off j hj).1))
        clear o5 g5
        refine takeH (i := 13) (d := some 4) (v := ?bv13) rfl rfl (by kernel_rfl) (by kernel_rfl) (by kernel_rfl) (fun _ _ _ h => h) (Or.inl ⟨by rfl, ?by13⟩) (by assumption) ?br13
        case by13 => (intro W hSw; obtain ⟨y0, y1, y2, y3, y4⟩ := hSw; go_simp; try with_reducible rfl)
        refine wpAnyH_done (by kernel_rfl) ?_ _
        clear hHeld
        go_wp2_with fail
        go_roundg g
        case measure => omega
        case rel => exact ⟨k + 1, p5, c5, _, by have := HI.out; omega, rfl, by first | rfl | go_num, TA.out, KA.out⟩
end Go.Proofs.YtomonhghioamfaaGreatDoor
