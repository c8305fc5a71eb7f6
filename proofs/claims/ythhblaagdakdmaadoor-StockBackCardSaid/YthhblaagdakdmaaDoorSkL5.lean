/- StockBack: the walk. -/
import Derived.Test.YthhblaagdakdmaaDoorSkL1
set_option linter.unusedVariables false
namespace Go.Proofs.YthhblaagdakdmaaDoor
open Go.ChangeShapes Go.WideShapes Go.ChangeAt Go.RowKit Ky Rw Stk

namespace Stk
theorem quoJ_snoc : ∀ (xs : List Bt) (x : Bt), quoJ (xs ++ [x]) = (if xs = [] then quo x else quoJ xs ++ 44 :: quo x)
  | [], x => rfl
  | [f], x => rfl
  | f :: g :: r, x => by
    have ih := quoJ_snoc (g :: r) x
    rw [if_neg (by simp)] at ih
    rw [if_neg (by simp)]
    show quo f ++ 44 :: quoJ ((g :: r) ++ [x]) = _
    rw [ih]; simp [quoJ]
theorem quoJ_take (r : List Bt) (m : Nat) (x : Bt) (h : r[m]? = some x) : quoJ (r.take (m + 1)) = (if m = 0 then quo x else quoJ (r.take m) ++ 44 :: quo x) := by
  rw [List.take_add_one, h]
  show quoJ (r.take m ++ [x]) = _
  rw [quoJ_snoc]
  have hl := (List.getElem?_eq_some_iff.1 h).1
  by_cases hm : m = 0
  · subst hm; simp
  · rw [if_neg hm, if_neg]
    intro e
    have := congrArg List.length e
    rw [List.length_take, List.length_nil] at this; omega
theorem quoT_take (T : List (List Bt)) (k : Nat) (r : List Bt) (h : T[k]? = some r) : quoT (T.take (k + 1)) = quoT (T.take k) ++ (quoJ r ++ [10]) := by
  rw [List.take_add_one, h]
  simp [quoT]
theorem quoT_part (T : List (List Bt)) (k : Nat) : (quoT (T.take k)).length ≤ (quoT T).length := by
  have : quoT T = quoT (T.take k) ++ quoT (T.drop k) := by
    unfold quoT; rw [← List.flatMap_append, List.take_append_drop]
  rw [this, List.length_append]; omega
theorem quoJ_part : ∀ (r : List Bt) (m : Nat), (quoJ (r.take m)).length ≤ (quoJ r).length
  | [], m => by simp
  | [f], m => by cases m <;> simp [quoJ]
  | f :: g :: r, m => by
    match m with
    | 0 => simp [quoJ]
    | 1 => simp [quoJ]
    | m + 2 =>
      have ih := quoJ_part (g :: r) (m + 1)
      simp only [List.take_succ_cons, quoJ, List.length_append, List.length_cons] at ih ⊢
      omega
theorem file_pos (s : Int) (L : List R) : 0 < (fileL s L).length := by
  have e : fileL s L = Csv.prRow (headT s) ++ Csv.prRows (L.map rowT ++ [endT L.length]) := rfl
  rw [e, List.length_append, Csv.prRow, List.length_append, List.length_cons]
  omega
end Stk
theorem cat1 (Q X : ByteArray) (l m : List UInt8) (h : Q.data.toList = l) (hx : X.data.toList = m) : (Q ++ X).data.toList = l ++ m := by
  rw [ByteArray.data_append, Array.toList_append, h, hx]
theorem cap_le {q x y z : Nat} (h : q = x + y) (h2 : y ≤ z) (h3 : x + z + 1 ≤ 65536) : q ≤ 65536 := by omega
theorem pp_le {x y l : Nat} (h : x + (y + 1) ≤ l) (g : l ≤ 65536) : x + y + 1 ≤ 65536 := by omega
theorem far_none {q q3 q4 z : Nat} (hq : q ≤ 65536) (hz : z ≤ 19) (h3 : q3 = q + 1) (h4 : q4 = q3 + z) : (¬ (9223372036854775807 < q + 1)) ∧ (¬ (9223372036854775807 < q3 + z)) ∧ ¬ (9223372036854775807 < q4 + 1) := by omega
theorem far_more {q q0 q3 q4 z : Nat} (hq : q ≤ 65536) (hz : z ≤ 19) (h0 : q0 = q + 1) (h3 : q3 = q0 + 1) (h4 : q4 = q3 + z) : (¬ (9223372036854775807 < q + 1)) ∧ (¬ (9223372036854775807 < q0 + 1)) ∧ (¬ (9223372036854775807 < q3 + z)) ∧ ¬ (9223372036854775807 < q4 + 1) := by omega
theorem not_pos {m : Nat} (h : m = 0) : ¬ ((0 : Int) < (m : Int)) := by omega
theorem is_pos {m : Nat} (h : ¬ m = 0) : (0 : Int) < (m : Int) := by omega
theorem not_far {a b : Nat} (h : a ≤ 200000) (g : b ≤ 200000) : ¬ (9223372036854775807 < a + b) := by omega
set_option maxHeartbeats 16000000 in
set_option maxRecDepth 100000 in
theorem stockBack_go (p s : Int) (v : Value) (L : List R) (cut : Nat) (w : World) (hp : HasS w) (hl : RowsIn w v L) (hc : cut < 65536) :
    Calls Tryd.prog 5 #[stV p s v, .int .u16 (cut : Int)] w fun e w' => e = .returned (.bool true) ∧ Keeps w w' := by
  have HCU := Lib.hid hc
  have I1 := Lib.hid hl
  obtain ⟨q, c, rfl, hmx, -, -⟩ := hl
  obtain ⟨N, hN⟩ : ∃ N, L.length = N := ⟨_, rfl⟩
  have HN := Lib.hid hN
  rw [hN] at hmx I1 ⊢
  clear hN hc
  have KB := Lib.hid (ky_box w (stBox p s (.slice q N c)))
  have SB := Lib.hid (sk_st_box w p s (.slice q N c))
  have IB := Lib.hid (I1.out.keeps KB.out)
  have HP : Hid (∀ W, Keeps w W → HasS W) := Lib.hid fun W k => hp.keeps k
  have HS : Hid (∀ W, Keeps w W → Calls Tryd.prog 8 #[] W fun e w' => e = .returned (.bool true) ∧ Keeps W w') := Lib.hid fun W k => sk_stocked W (hp.keeps k)
  unfold maxLen at hmx
  unfold stV
  unfold stBox at KB SB IB
  clear hp
  obtain ⟨w1, hw1⟩ : ∃ W, w.alloc (.cells #[.int .i64 p, .int .i64 s, .slice q N c] tSt) = W := ⟨_, rfl⟩
  rw [hw1] at KB SB IB
  obtain ⟨x0, x1, x2⟩ := (sk_three_atG (SB.out _ (Keeps.refl _))).1
  go_enter Tryd.func5, Tryd.ntmps5
  by_cases hbig : N ≤ 100
  rotate_left
  · go_wp2_with fail
    refine (HS.out _ KB.out).mono ?_
    rintro e w2 ⟨rfl, k2⟩
    go_wp2
    go_ret
    exact ⟨rfl, KB.out.trans k2⟩
  have C1 := Lib.hid (sp_print p s _ L w1 IB.out (HP.out _ KB.out).p (HP.out _ KB.out).m)
  have C2 : Hid (∀ W, Keeps w1 W → Calls Tryd.prog 14 #[stV p s (.slice q N c)] W fun e w' => e = .returned (.bool (validB p s L)) ∧ Keeps W w') := Lib.hid fun W k => pw_valid p s _ L W (HP.out _ (Keeps.trans KB.out k)).p (IB.out.keeps k)
  by_cases hv : p = 1 ∧ validB p s L = true
  rotate_left
  · have PT : Hid (skPrtS p s L = ⟨#[]⟩ ∧ prtC p s L = 2) := Lib.hid (by unfold skPrtS Stk.prt prtC; rw [if_neg hv, if_neg hv]; exact ⟨rfl, rfl⟩)
    rw [PT.out.1, PT.out.2] at C1
    unfold stV at C1
    go_wp2_with fail
    refine C1.out.mono ?_
    rintro e w2 ⟨rfl, k2⟩
    have K2 := Lib.hid k2
    clear k2 C1 x0 x1 x2
    obtain ⟨x0, x1, x2⟩ := (sk_three_atG (SB.out _ K2.out)).1
    by_cases hp0 : p = 1
    · subst hp0
      have hvb : validB 1 s L = false := by
        cases h : validB 1 s L with
        | false => rfl
        | true => exact absurd ⟨rfl, h⟩ hv
      have C2 := Lib.hid (C2.out _ K2.out)
      rw [hvb] at C2
      unfold stV at C2
      clear hv hvb
      go_wp2_with fail
      refine C2.out.mono ?_
      rintro e w3 ⟨rfl, k3⟩
      have K3 := Lib.hid (Keeps.trans KB.out (Keeps.trans K2.out k3))
      clear k3 C2 x0 x1 x2
      go_wp2_with fail
      refine (HS.out _ K3.out).mono ?_
      rintro e w4 ⟨rfl, k4⟩
      go_wp2
      go_ret
      exact ⟨rfl, Keeps.trans K3.out k4⟩
    · have t : (p == 1) = false := by rw [beq_eq_false_iff_ne]; exact hp0
      have t2 : (p != 1) = true := by rw [bne, t]; rfl
      have K3 := Lib.hid (Keeps.trans KB.out K2.out)
      clear hv hp0
      go_wp2_with fail
      refine (HS.out _ K3.out).mono ?_
      rintro e w4 ⟨rfl, k4⟩
      go_wp2
      go_ret
      exact ⟨rfl, Keeps.trans K3.out k4⟩
  obtain ⟨rfl, hvb⟩ := hv
  have VA := Lib.hid (valid_iff.1 hvb)
  rw [hvb] at C2
  obtain ⟨T, hT⟩ : ∃ T, skPrtS 1 s L = T := ⟨_, rfl⟩
  have HTL : Hid (T.data.toList = fileL s L) := Lib.hid (by
    have hv : (1 : Int) = 1 ∧ validB 1 s L = true := ⟨rfl, hvb⟩
    rw [← hT]
    unfold skPrtS Stk.prt
    rw [if_pos hv, data_mk])
  have PC : prtC 1 s L = 0 := by unfold prtC; rw [if_pos ⟨rfl, hvb⟩]
  rw [hT, PC] at C1
  have zT : T.size ≤ 65536 := by rw [← len_data, HTL.out]; exact file_small VA.out
  have zp : 0 < T.size := by rw [← len_data, HTL.out]; exact file_pos s L
  have CPs : Hid (∀ W, Keeps w W → Calls Tryd.prog 12 #[.string T] W fun e w' => ∃ v, e = .returned (.tuple #[stV 1 s v, .agg #[.int .i64 0, .int .i64 0, .int .i64 0]]) ∧ RowsIn w' v L ∧ Keeps W w') := Lib.hid fun W k => skYes T s L W (HP.out _ k) (by unfold maxLen; omega) (by rw [HTL.out]; exact parse_file VA.out)
  unfold stV at C1 C2 CPs
  clear hT PC hvb
  go_wp2_with fail
  refine C1.out.mono ?_
  rintro e w2 ⟨rfl, k2⟩
  have K2 := Lib.hid k2
  clear k2 C1 x0 x1 x2
  obtain ⟨x0, x1, x2⟩ := (sk_three_atG (SB.out _ K2.out)).1
  go_wp2_with fail
  refine (C2.out _ K2.out).mono ?_
  rintro e w3 ⟨rfl, k3⟩
  have K3 := Lib.hid (Keeps.trans K2.out k3)
  clear k3 C2 x0 x1 x2
  go_wp2_with fail
  refine (CPs.out _ (Keeps.trans KB.out K3.out)).mono ?_
  rintro e w4 ⟨v4, rfl, r4, k4⟩
  have R4 : Hid (∀ W, Keeps w4 W → RowsIn W v4 L) := Lib.hid fun W k => r4.keeps k
  obtain ⟨p4, c4, e4, -⟩ := r4
  rw [HN.out] at e4
  subst e4
  have K4 := Lib.hid (Keeps.trans K3.out k4)
  clear k4 CPs
  go_upto_region 7 with (fail)
  have TW := Lib.hid (skTwo w4 (.int .i64 1) (.int .i64 s) (.slice p4 N c4) (.int .i64 0) (.int .i64 0) (.int .i64 0))
  obtain ⟨U, hU⟩ : ∃ U, (w4.alloc (.cells #[.int .i64 1, .int .i64 s, .slice p4 N c4] tSt)).alloc (.cells #[.int .i64 0, .int .i64 0, .int .i64 0] skRj) = U := ⟨_, rfl⟩
  rw [hU] at TW ⊢
  clear hU
  obtain ⟨⟨⟨t0, t1, t2⟩, r0, r1, r2⟩, ku⟩ := TW.out U (Keeps.refl _)
  have KU := Lib.hid (Keeps.trans K4.out ku)
  obtain ⟨x0, x1, x2⟩ := (sk_three_atG (SB.out _ KU.out)).1
  have CM : Hid (Calls Tryd.prog 15 #[stV 1 s (.slice q N c), stV 1 s (.slice p4 N c4)] U fun e w' => e = .returned (.bool true) ∧ Keeps U w') := Lib.hid (by
    have := pw_same 1 s 1 s (.slice q N c) (.slice p4 N c4) L L U (IB.out.keeps KU.out) (R4.out U ku)
    rwa [sk_same_self] at this)
  unfold stV at CM
  have ez : ((T.size : Int) == 0) = false := by rw [beq_eq_false_iff_ne]; omega
  have ez2 : ¬ T = ByteArray.empty := fun e => by rw [e] at zp; simp at zp
  clear ku
  go_wp2_with fail
  refine CM.out.mono ?_
  rintro e w5 ⟨rfl, k5⟩
  have KW5 : Hid (Keeps w1 w5) := Lib.hid (Keeps.trans KU.out k5)
  have K5 := Lib.hid (Keeps.trans KB.out (Keeps.trans KU.out k5))
  clear k5 CM x0 x1 x2 t0 t1 t2 r0 r1 r2
  have HZT := Lib.hid zT
  have CT : Hid (∀ W, Keeps w W → Calls Tryd.prog 16 #[.string T] W (RowsOut (tableL s L) W)) := Lib.hid fun W k => parse_rows T W zT (HP.out _ k).m (by rw [HTL.out]; exact run_file VA.out)
  go_wp2_with fail
  refine (CT.out _ K5.out).mono ?_
  rintro e w6 ⟨vt, rfl, rt, k6⟩
  have K6 := Lib.hid (Keeps.trans K5.out k6)
  have KW6 : Hid (Keeps w1 w6) := Lib.hid (KW5.out.trans k6)
  obtain ⟨M, hM⟩ : ∃ M, (tableL s L).length = M := ⟨_, rfl⟩
  have HM := Lib.hid hM
  have HMM : Hid (M ≤ 102) := Lib.hid (by rw [← hM, table_len, HN.out]; omega)
  have RT : Hid (∀ W, Keeps w6 W → RowsAt W vt (tableL s L)) := Lib.hid fun W k => rt.keeps k
  obtain ⟨pt, ct, rfl, -⟩ := rt
  rw [hM] at RT ⊢
  clear k6 CT hM ez ez2
  go_upto_region 11 with (fail)
  obtain ⟨w7, hw7⟩ : ∃ W, w6.alloc (.cells #[.int .i64 0, .int .i64 0, .int .i64 0] skRj) = W := ⟨_, rfl⟩
  have K67 : Hid (Keeps w6 w7) := Lib.hid (hw7 ▸ kept_alloc (Keeps.refl w6) _)
  rw [hw7]
  clear hw7
  obtain ⟨LQ, hLQ⟩ : ∃ l, quoT (tableL s L) = l := ⟨_, rfl⟩
  have HLQ : Hid (LQ.length ≤ 65536) := Lib.hid (by rw [← hLQ]; exact quo_le VA.out)
  have HTQ := Lib.hid hLQ
  clear hLQ
  go_wp2_with fail
  go_loopg [9, 12] M (fun g v9 v12 W => ∃ (i : Nat) (Q : ByteArray), i + g = M ∧ v9 = .string Q ∧ Q.data.toList = quoT ((tableL s L).take i) ∧ v12 = .int .i64 (i : Int) ∧ W = w7)
  case atStart => exact ⟨0, ⟨#[]⟩, by omega, rfl, rfl, rfl, rfl⟩
  case round =>
    obtain ⟨i, Q, hi, rfl, hq, rfl, rfl⟩ := hrel
    have HI := Lib.hid hi
    have HQ := Lib.hid hq
    have QS : Q.size ≤ 65536 := by
      have h := congrArg List.length hq
      rw [len_data] at h
      rw [h]
      refine Nat.le_trans (quoT_part _ _) ?_
      rw [HTQ.out]
      exact HLQ.out
    clear hq
    cases gk with
    | zero =>
      obtain rfl : i = M := by as_aux_lemma => (omega)
      have hd : decide ((i : Int) < (i : Int)) = false := decide_eq_false (by as_aux_lemma => (omega))
      have hz : ¬ ((i : Int) < (i : Int)) := by as_aux_lemma => (omega)
      have QL : Hid (Q.data.toList = quoT (tableL s L)) := Lib.hid (by rw [HQ.out, List.take_of_length_le (by rw [HM.out]; exact Nat.le_refl _)])
      have CPq : Hid (∀ W, Keeps w W → Calls Tryd.prog 12 #[.string Q] W fun e w' => ∃ v, e = .returned (.tuple #[stV 1 s v, .agg #[.int .i64 0, .int .i64 0, .int .i64 0]]) ∧ RowsIn w' v L ∧ Keeps W w') := Lib.hid fun W k => skYes Q s L W (HP.out _ k) (by unfold maxLen; omega) (by rw [QL.out]; exact parse_quoted VA.out)
      unfold stV at CPq
      obtain ⟨k, hk⟩ : ∃ k : Nat, cut % T.size = k := ⟨_, rfl⟩
      have hk2 : k < T.size := by rw [← hk]; exact Nat.mod_lt _ zp
      have hk3 : (cut : Int) % (T.size : Int) = (k : Int) := by rw [← hk]; first | exact (Int.natCast_emod _ _).symm | exact (Int.ofNat_emod _ _).symm
      have hk4 : k ≤ T.size := Nat.le_of_lt hk2
      have wc : wrap64 (cut : Int) = (cut : Int) := i64w (by as_aux_lemma => (unfold top; omega)) (by as_aux_lemma => (unfold top; have := HCU.out; omega))
      have wk : wrap64 (k : Int) = (k : Int) := i64w (by as_aux_lemma => (unfold top; omega)) (by as_aux_lemma => (unfold top; have := HZT.out; omega))
      obtain ⟨V, hV⟩ : ∃ V, T.extract 0 k = V := ⟨_, rfl⟩
      have VL : V.data.toList = (fileL s L).take k := by
        have q : (T.extract 0 k).data.toList = (T.data.toList.drop 0).take (k - 0) := by rw [← extract_list, ByteArray.toList_eq]
        rw [← hV, q, HTL.out]
        simp
      have HVS : Hid (V.size ≤ maxLen) := Lib.hid (Nat.le_trans (by rw [← len_data, VL, List.length_take]; exact Nat.min_le_left _ _) (Nat.le_trans hk4 (Nat.le_trans zT (by unfold maxLen; decide))))
      have HKF : Hid (k < (fileL s L).length) := Lib.hid (by
        have e := congrArg List.length HTL.out
        rw [len_data] at e
        exact e ▸ hk2)
      have HVL := Lib.hid VL
      obtain ⟨ee, h1⟩ := cut_file VA.out HKF.out
      obtain ⟨line, col, code⟩ := ee
      obtain ⟨b1, b2, b3⟩ := Stk.parse_bad h1
      simp only at b1 b2 b3
      have CQ : Hid (∀ W, Keeps w W → Calls Tryd.prog 12 #[.string V] W fun e w' => e = .returned (.tuple #[stV 0 0 (.slice none 0 0), .agg #[.int .i64 (line : Int), .int .i64 (col : Int), .int .i64 code]]) ∧ Keeps W w') := Lib.hid fun W kk => skNo V line col code W (HP.out _ kk) HVS.out (by rw [HVL.out]; exact h1)
      unfold stV at CQ
      have tc : (code == 0) = false := by rw [beq_eq_false_iff_ne]; exact Int.ne_of_gt (Int.lt_of_lt_of_le (by decide) b3)
      have tc2 : (code != 0) = true := by rw [bne, tc]; rfl
      have ga : (1 : Int) ≤ (line : Int) := by exact_mod_cast b1
      have gb : (1 : Int) ≤ (col : Int) := by exact_mod_cast b2
      clear h1 hk VL b1 b2 b3 zT
      go_wp2_with fail
      refine (CPq.out _ (K6.out.trans K67.out)).mono ?_
      rintro e w8 ⟨v8, rfl, r8, k8⟩
      have R8 : Hid (∀ W, Keeps w8 W → RowsIn W v8 L) := Lib.hid fun W k => r8.keeps k
      obtain ⟨p8, c8, e8, -⟩ := r8
      rw [HN.out] at e8
      subst e8
      have K8 := Lib.hid ((K6.out.trans K67.out).trans k8)
      have KW8 : Hid (Keeps w1 w8) := Lib.hid ((KW6.out.trans K67.out).trans k8)
      clear k8 CPq
      go_upto_region 22 with (fail)
      have T8 := Lib.hid (skTwo w8 (.int .i64 1) (.int .i64 s) (.slice p8 N c8) (.int .i64 0) (.int .i64 0) (.int .i64 0))
      obtain ⟨U8, hU⟩ : ∃ U, (w8.alloc (.cells #[.int .i64 1, .int .i64 s, .slice p8 N c8] tSt)).alloc (.cells #[.int .i64 0, .int .i64 0, .int .i64 0] skRj) = U := ⟨_, rfl⟩
      rw [hU] at T8 ⊢
      clear hU
      have KU8 := Lib.hid (K8.out.trans (T8.out U8 (Keeps.refl _)).2)
      go_wp2_with fail
      refine (CQ.out _ KU8.out).mono ?_
      rintro e w9 ⟨rfl, k9⟩
      have K9 := Lib.hid k9
      clear k9 CQ hV
      go_upto_region 23 with (fail)
      have T9 := Lib.hid (skTwo w9 (.int .i64 0) (.int .i64 0) (.slice none 0 0) (.int .i64 (line : Int)) (.int .i64 (col : Int)) (.int .i64 code))
      obtain ⟨U9, hU⟩ : ∃ U, (w9.alloc (.cells #[.int .i64 0, .int .i64 0, .slice none 0 0] tSt)).alloc (.cells #[.int .i64 (line : Int), .int .i64 (col : Int), .int .i64 code] skRj) = U := ⟨_, rfl⟩
      rw [hU] at T9 ⊢
      clear hU hk3 wc wk
      have KS9 : Hid (Keeps w1 U9) := Lib.hid (by
        have h : Keeps w8 U9 := (T8.out U9 (K9.out.trans (T9.out U9 (Keeps.refl _)).2)).2
        exact KW8.out.trans h)
      obtain ⟨⟨⟨t0, t1, t2⟩, r0, r1, r2⟩, ku⟩ := T8.out U9 (K9.out.trans (T9.out U9 (Keeps.refl _)).2)
      obtain ⟨x0, x1, x2⟩ := (sk_three_atG (SB.out _ KS9.out)).1
      have C8 : Hid (Calls Tryd.prog 15 #[stV 1 s (.slice p8 N c8), stV 1 s (.slice q N c)] U9 fun e w' => e = .returned (.bool true) ∧ Keeps U9 w') := Lib.hid (by
        have := pw_same 1 s 1 s (.slice p8 N c8) (.slice q N c) L L U9 (R8.out U9 ku) (IB.out.keeps KS9.out)
        rwa [sk_same_self] at this)
      have C9 : Hid (∀ W, Calls Tryd.prog 15 #[stV 0 0 (.slice none 0 0), stV 0 0 (.slice none 0 0)] W fun e w' => e = .returned (.bool true) ∧ Keeps W w') := Lib.hid fun W => sk_same_zero ▸ pw_same 0 0 0 0 _ _ [] [] W (rows_nil W) (rows_nil W)
      unfold stV at C8 C9
      have KU9 := Lib.hid (KB.out.trans KS9.out)
      clear ku
      go_wp2_with fail
      refine C8.out.mono ?_
      rintro e w10 ⟨rfl, k10⟩
      have K10 := Lib.hid k10
      clear k10 C8 t0 t1 t2 r0 r1 r2 x0 x1 x2
      obtain ⟨⟨⟨t0, t1, t2⟩, _⟩, _⟩ := T9.out w10 K10.out
      go_wp2_with fail
      refine (C9.out _).mono ?_
      rintro e w11 ⟨rfl, k11⟩
      have K11 := Lib.hid (K10.out.trans k11)
      clear k11 C9 t0 t1 t2
      obtain ⟨⟨_, r0, r1, r2⟩, _⟩ := T9.out w11 K11.out
      go_wp2_with fail
      refine (HS.out _ (KU9.out.trans K11.out)).mono ?_
      rintro e w12 ⟨rfl, k12⟩
      go_wp2
      go_ret
      exact ⟨rfl, (KU9.out.trans K11.out).trans k12⟩
    | succ g =>
      have hlt : i < M := by as_aux_lemma => (omega)
      obtain ⟨F, hF⟩ : ∃ F, (tableL s L)[i]? = some F := ⟨_, List.getElem?_eq_getElem (by rw [HM.out]; exact hlt)⟩
      have HF := Lib.hid hF
      have PF := Lib.hid (plain_table VA.out F (List.mem_of_getElem? hF))
      obtain ⟨pq, cq, eq, -, hcq⟩ := RT.out wr K67.out
      rw [HM.out] at eq
      simp only [Value.slice.injEq] at eq
      obtain ⟨rfl, -, rfl⟩ := eq
      obtain ⟨ad, vF, rfl, hcl, hst⟩ := hcq i F hF
      obtain ⟨pf, cf, rfl, -, hcf⟩ := hst
      obtain ⟨FM, hFM⟩ : ∃ n, F.length = n := ⟨_, rfl⟩
      have HFM := Lib.hid hFM
      have HFL : Hid (FM ≤ 4) := Lib.hid (by rw [← hFM]; exact PF.out.2.1)
      have HCF := Lib.hid hcf
      have hi1 : (i : Int) < (M : Int) := by as_aux_lemma => (omega)
      have hi0 : (0 : Int) ≤ (i : Int) := by as_aux_lemma => (omega)
      have wi : wrap64 ((i : Int) + 1) = (i : Int) + 1 := i64w (by as_aux_lemma => (unfold top; omega)) (by as_aux_lemma => (unfold top; have := HMM.out; omega))
      have TT := Lib.hid (quoT_take _ _ _ hF)
      have PP : Hid ((quoT ((tableL s L).take i)).length + (quoJ F).length + 1 ≤ 65536) := Lib.hid (by
        have h1 := quoT_part (tableL s L) (i + 1)
        rw [TT.out, HTQ.out] at h1
        simp only [List.length_append, List.length_cons, List.length_nil] at h1
        exact pp_le h1 HLQ.out)
      rw [hFM] at hcl
      clear hF hcq hcf hFM hlt
      go_wp2_with fail
      go_loopg [9, 13] FM (fun g2 v9 v13 W => ∃ (m : Nat) (Q2 : ByteArray), m + g2 = FM ∧ v9 = .string Q2 ∧ Q2.data.toList = quoT ((tableL s L).take i) ++ quoJ (F.take m) ∧ v13 = .int .i64 (m : Int) ∧ W = wr)
      case atStart => exact ⟨0, Q, by omega, rfl, by rw [HQ.out]; simp [quoJ], rfl, rfl⟩
      case round =>
        obtain ⟨m, Q2, hm, rfl, hq2, rfl, rfl⟩ := hrel
        have HM2 := Lib.hid hm
        have HQ2 := Lib.hid hq2
        have QS2 : Q2.size ≤ 65536 := by
          have h := congrArg List.length hq2
          rw [len_data, List.length_append] at h
          exact cap_le h (quoJ_part F m) PP.out
        clear hq2
        cases gk with
        | zero =>
          obtain rfl : m = FM := by as_aux_lemma => (omega)
          have hd : decide ((m : Int) < (m : Int)) = false := decide_eq_false (by as_aux_lemma => (omega))
          have hz : ¬ ((m : Int) < (m : Int)) := by as_aux_lemma => (omega)
          obtain ⟨Q3, hQ3⟩ : ∃ X, Q2 ++ ⟨#[10]⟩ = X := ⟨_, rfl⟩
          have L3 : Hid (Q3.data.toList = quoT ((tableL s L).take (i + 1))) := Lib.hid (by
            rw [← hQ3, cat1 Q2 ⟨#[10]⟩ _ [10] HQ2.out rfl, TT.out, List.take_of_length_le (l := F) (by rw [HFM.out]; exact Nat.le_refl _), List.append_assoc])
          have nf := not_far (a := Q2.size) (b := 1) (Nat.le_trans QS2 (by decide)) (by decide)
          go_wp2_with fail
          go_roundg g
          case measure => omega
          case rel => exact ⟨i + 1, Q3, by as_aux_lemma => (have := HI.out; omega), rfl, L3.out, by first | (rw [wi]; rfl) | rfl | go_num, rfl⟩
        | succ g2 =>
          have hlt : m < FM := by as_aux_lemma => (omega)
          obtain ⟨f, hf⟩ : ∃ f, F[m]? = some f := ⟨_, List.getElem?_eq_getElem (by rw [HFM.out]; exact hlt)⟩
          obtain ⟨af, rfl, hcx⟩ := HCF.out m f hf
          have QT := Lib.hid (quoJ_take F m f hf)
          have fS : f.length ≤ 19 := (PF.out.2.2 f (List.mem_of_getElem? hf)).2
          obtain ⟨S, hS⟩ : ∃ S : ByteArray, ⟨f.toArray⟩ = S := ⟨_, rfl⟩
          have SL : Hid (S.data.toList = f) := Lib.hid (by rw [← hS, data_mk])
          have SS : S.size ≤ 19 := by rw [← hS, size_mk]; exact fS
          unfold sv at hcx
          rw [hS] at hcx
          have hm1 : (m : Int) < (FM : Int) := by as_aux_lemma => (omega)
          have hm0 : (0 : Int) ≤ (m : Int) := by as_aux_lemma => (omega)
          have wm : wrap64 ((m : Int) + 1) = (m : Int) + 1 := i64w (by as_aux_lemma => (unfold top; omega)) (by as_aux_lemma => (unfold top; have := HFL.out; omega))
          clear hf hlt fS hS
          by_cases hz : m = 0
          · obtain ⟨Q3, hQ3⟩ : ∃ X, Q2 ++ ⟨#[34]⟩ = X := ⟨_, rfl⟩
            obtain ⟨Q4, hQ4⟩ : ∃ X, Q3 ++ S = X := ⟨_, rfl⟩
            obtain ⟨Q5, hQ5⟩ : ∃ X, Q4 ++ ⟨#[34]⟩ = X := ⟨_, rfl⟩
            have s3 : Q3.size = Q2.size + 1 := by rw [← hQ3, ByteArray.size_append]; rfl
            have s4 : Q4.size = Q3.size + S.size := by rw [← hQ4, ByteArray.size_append]
            have L5 : Hid (Q5.data.toList = quoT ((tableL s L).take i) ++ quoJ (F.take (m + 1))) := Lib.hid (by
              rw [← hQ5, cat1 Q4 ⟨#[34]⟩ _ [34] rfl rfl, ← hQ4, cat1 Q3 S _ _ rfl SL.out, ← hQ3, cat1 Q2 ⟨#[34]⟩ _ [34] HQ2.out rfl, QT.out, if_pos hz, hz]
              simp [quoJ, quo])
            obtain ⟨n1, n2, n3⟩ := far_none QS2 SS s3 s4
            have hd1 := not_pos hz
            have hd0 : decide ((0 : Int) < (m : Int)) = false := decide_eq_false hd1
            clear hz s3 s4 hm hi wi QS
            go_wp2_with fail
            go_roundg g2
            case measure => omega
            case rel => exact ⟨m + 1, Q5, by as_aux_lemma => (have := HM2.out; omega), rfl, L5.out, by first | (rw [wm]; rfl) | rfl | go_num, rfl⟩
          · obtain ⟨Q0, hQ0⟩ : ∃ X, Q2 ++ ⟨#[44]⟩ = X := ⟨_, rfl⟩
            obtain ⟨Q3, hQ3⟩ : ∃ X, Q0 ++ ⟨#[34]⟩ = X := ⟨_, rfl⟩
            obtain ⟨Q4, hQ4⟩ : ∃ X, Q3 ++ S = X := ⟨_, rfl⟩
            obtain ⟨Q5, hQ5⟩ : ∃ X, Q4 ++ ⟨#[34]⟩ = X := ⟨_, rfl⟩
            have s0 : Q0.size = Q2.size + 1 := by rw [← hQ0, ByteArray.size_append]; rfl
            have s3 : Q3.size = Q0.size + 1 := by rw [← hQ3, ByteArray.size_append]; rfl
            have s4 : Q4.size = Q3.size + S.size := by rw [← hQ4, ByteArray.size_append]
            have L5 : Hid (Q5.data.toList = quoT ((tableL s L).take i) ++ quoJ (F.take (m + 1))) := Lib.hid (by
              rw [← hQ5, cat1 Q4 ⟨#[34]⟩ _ [34] rfl rfl, ← hQ4, cat1 Q3 S _ _ rfl SL.out, ← hQ3, cat1 Q0 ⟨#[34]⟩ _ [34] rfl rfl, ← hQ0, cat1 Q2 ⟨#[44]⟩ _ [44] HQ2.out rfl, QT.out, if_neg hz]
              simp [quo])
            obtain ⟨n0, n1, n2, n3⟩ := far_more QS2 SS s0 s3 s4
            have hd1 := is_pos hz
            have hd0 : decide ((0 : Int) < (m : Int)) = true := decide_eq_true hd1
            clear hz s0 s3 s4 hm hi wi QS
            go_wp2_with fail
            go_roundg g2
            case measure => omega
            case rel => exact ⟨m + 1, Q5, by as_aux_lemma => (have := HM2.out; omega), rfl, L5.out, by first | (rw [wm]; rfl) | rfl | go_num, rfl⟩
theorem ku16_of {n : Int} (h : (Lit.int .u16 n).wf = true) : ∃ N : Nat, n = N ∧ N < 65536 := by
  simp only [Lit.wf, IntKind.min, IntKind.max, IntKind.signed, IntKind.bits, Bool.and_eq_true] at h
  refine ⟨n.toNat, ?_, ?_⟩ <;> simp at h <;> omega
theorem stockBack_go' (p s : Int) (v : Value) (L : List R) (n : Int) (w : World) (hp : HasS w) (hl : RowsIn w v L) (hn : (Lit.int .u16 n).wf = true) :
    Calls Tryd.prog 5 #[stV p s v, .int .u16 n] w fun e w' => e = .returned (.bool true) ∧ Keeps w w' := by
  obtain ⟨C, rfl, hC⟩ := ku16_of hn
  exact stockBack_go p s v L C w hp hl hC
end Go.Proofs.YthhblaagdakdmaaDoor
