
/- ManifestBack: the walk. -/
import Derived.Test.YtnkcbefamajghaaDoorMfL1
set_option linter.unusedVariables false
namespace Go.Proofs.YtnkcbefamajghaaDoor
open Go.ChangeShapes Go.WideShapes Go.ChangeAt Go.RowKit Ky Rw Mft

theorem mf_file_pos (s : Int) (L : List R) : 0 < (Mft.fileL s L).length := by
  have e : Mft.fileL s L = Csv.prRow (Mft.headT s) ++ Csv.prRows ((grpL L).map Mft.rowT ++ [Mft.endT ((grpL L).length : Int) (totL L)]) := rfl
  rw [e, List.length_append, Csv.prRow, List.length_append, List.length_cons]
  omega
set_option maxHeartbeats 16000000 in
set_option maxRecDepth 100000 in
theorem manifestBack_go (p s : Int) (v : Value) (L : List R) (cut : Nat) (w : World) (hp : HasS w) (hl : RowsIn w v L) (hc : cut < 65536) :
    Calls Tryd.prog 6 #[stV p s v, .int .u16 (cut : Int)] w fun e w' => e = .returned (.bool true) ∧ Keeps w w' := by
  have HCU := Lib.hid hc
  have I1 := Lib.hid hl
  obtain ⟨q, c, rfl, hmx, -, -⟩ := hl
  obtain ⟨N, hN⟩ : ∃ N, L.length = N := ⟨_, rfl⟩
  have HN := Lib.hid hN
  rw [hN] at hmx I1 ⊢
  clear hN hc
  have KB := Lib.hid (ky_box w (stBox p s (.slice q N c)))
  have SB := Lib.hid (mf_st_box w p s (.slice q N c))
  have IB := Lib.hid (I1.out.keeps KB.out)
  have HP : Hid (∀ W, Keeps w W → HasS W) := Lib.hid fun W k => hp.keeps k
  have HS : Hid (∀ W, Keeps w W → Calls Tryd.prog 9 #[] W fun e w' => e = .returned (.bool true) ∧ Keeps W w') := Lib.hid fun W k => mf_carried W (hp.keeps k)
  unfold maxLen at hmx
  unfold stV
  unfold stBox at KB SB IB
  clear hp
  obtain ⟨w1, hw1⟩ : ∃ W, w.alloc (.cells #[.int .i64 p, .int .i64 s, .slice q N c] tSt) = W := ⟨_, rfl⟩
  rw [hw1] at KB SB IB
  obtain ⟨x0, x1, x2⟩ := (sk_three_atG (SB.out _ (Keeps.refl _))).1
  go_enter Tryd.func6, Tryd.ntmps6
  by_cases hbig : N ≤ 100
  rotate_left
  · go_wp2_with fail
    refine (HS.out _ KB.out).mono ?_
    rintro e w2 ⟨rfl, k2⟩
    go_wp2
    go_ret
    exact ⟨rfl, KB.out.trans k2⟩
  have C1 := Lib.hid (mp_print p s _ L w1 IB.out (HP.out _ KB.out).p (HP.out _ KB.out).m)
  have C2 : Hid (∀ W, Keeps w1 W → Calls Tryd.prog 17 #[stV p s (.slice q N c)] W fun e w' => e = .returned (.bool (validB p s L)) ∧ Keeps W w') := Lib.hid fun W k => pw_valid p s _ L W (HP.out _ (Keeps.trans KB.out k)).p (IB.out.keeps k)
  by_cases hv : p = 2 ∧ validB p s L = true
  rotate_left
  · have PT : Hid (mfPrtS p s L = ⟨#[]⟩ ∧ Mft.prtC p s L = 2) := Lib.hid (by unfold mfPrtS Mft.prt Mft.prtC; rw [if_neg hv, if_neg hv]; exact ⟨rfl, rfl⟩)
    rw [PT.out.1, PT.out.2] at C1
    unfold stV at C1
    go_wp2_with fail
    refine C1.out.mono ?_
    rintro e w2 ⟨rfl, k2⟩
    have K2 := Lib.hid k2
    clear k2 C1 x0 x1 x2
    obtain ⟨x0, x1, x2⟩ := (sk_three_atG (SB.out _ K2.out)).1
    by_cases hp0 : p = 2
    · subst hp0
      have hvb : validB 2 s L = false := by
        cases h : validB 2 s L with
        | false => rfl
        | true => exact absurd ⟨rfl, h⟩ hv
      have C2 := Lib.hid (C2.out _ K2.out)
      rw [hvb] at C2
      unfold stV at C2
      clear hv hvb
      go_wp2_with fail
      refine C2.out.mono ?_
      rintro e w3 ⟨rfl, k3⟩
      have K3 := Lib.hid (Keeps.trans KB.out (Keeps.trans K2.out k3))
      clear k3 C2 x0 x1 x2
      go_wp2_with fail
      refine (HS.out _ K3.out).mono ?_
      rintro e w4 ⟨rfl, k4⟩
      go_wp2
      go_ret
      exact ⟨rfl, Keeps.trans K3.out k4⟩
    · have t : (p == 2) = false := by rw [beq_eq_false_iff_ne]; exact hp0
      have t2 : (p != 2) = true := by rw [bne, t]; rfl
      have K3 := Lib.hid (Keeps.trans KB.out K2.out)
      clear hv hp0
      go_wp2_with fail
      refine (HS.out _ K3.out).mono ?_
      rintro e w4 ⟨rfl, k4⟩
      go_wp2
      go_ret
      exact ⟨rfl, Keeps.trans K3.out k4⟩
  obtain ⟨rfl, hvb⟩ := hv
  have VA := Lib.hid (valid_iff.1 hvb)
  rw [hvb] at C2
  obtain ⟨T, hT⟩ : ∃ T, mfPrtS 2 s L = T := ⟨_, rfl⟩
  have HTL : Hid (T.data.toList = Mft.fileL s L) := Lib.hid (by
    have hv : (2 : Int) = 2 ∧ validB 2 s L = true := ⟨rfl, hvb⟩
    rw [← hT]
    unfold mfPrtS Mft.prt
    rw [if_pos hv, data_mk])
  have PC : Mft.prtC 2 s L = 0 := by unfold Mft.prtC; rw [if_pos ⟨rfl, hvb⟩]
  rw [hT, PC] at C1
  have zT : T.size ≤ 65536 := by rw [← len_data, HTL.out]; exact file_small VA.out
  have zp : 0 < T.size := by rw [← len_data, HTL.out]; exact mf_file_pos s L
  have CPs : Hid (∀ W, Keeps w W → Calls Tryd.prog 13 #[.string T] W fun e w' => ∃ v, e = .returned (.tuple #[stV 2 s v, .agg #[.int .i64 0, .int .i64 0, .int .i64 0]]) ∧ RowsIn w' v L ∧ Keeps W w') := Lib.hid fun W k => mfYes T s L W (HP.out _ k) (by unfold maxLen; omega) (by rw [HTL.out]; exact parse_file VA.out)
  unfold stV at C1 C2 CPs
  clear hT PC hvb
  go_wp2_with fail
  refine C1.out.mono ?_
  rintro e w2 ⟨rfl, k2⟩
  have K2 := Lib.hid k2
  clear k2 C1 x0 x1 x2
  obtain ⟨x0, x1, x2⟩ := (sk_three_atG (SB.out _ K2.out)).1
  go_wp2_with fail
  refine (C2.out _ K2.out).mono ?_
  rintro e w3 ⟨rfl, k3⟩
  have K3 := Lib.hid (Keeps.trans K2.out k3)
  clear k3 C2 x0 x1 x2
  go_wp2_with fail
  refine (CPs.out _ (Keeps.trans KB.out K3.out)).mono ?_
  rintro e w4 ⟨v4, rfl, r4, k4⟩
  have R4 : Hid (∀ W, Keeps w4 W → RowsIn W v4 L) := Lib.hid fun W k => r4.keeps k
  obtain ⟨p4, c4, e4, -⟩ := r4
  rw [HN.out] at e4
  subst e4
  have K4 := Lib.hid (Keeps.trans K3.out k4)
  clear k4 CPs
  go_upto_region 7 with (fail)
  have TW := Lib.hid (mfTwo2 w4 (.int .i64 2) (.int .i64 s) (.slice p4 N c4) (.int .i64 0) (.int .i64 0) (.int .i64 0))
  obtain ⟨U, hU⟩ : ∃ U, (w4.alloc (.cells #[.int .i64 2, .int .i64 s, .slice p4 N c4] tSt)).alloc (.cells #[.int .i64 0, .int .i64 0, .int .i64 0] skRj) = U := ⟨_, rfl⟩
  rw [hU] at TW ⊢
  clear hU
  obtain ⟨⟨⟨t0, t1, t2⟩, r0, r1, r2⟩, ku⟩ := TW.out U (Keeps.refl _)
  have KU := Lib.hid (Keeps.trans K4.out ku)
  obtain ⟨x0, x1, x2⟩ := (sk_three_atG (SB.out _ KU.out)).1
  have CM : Hid (Calls Tryd.prog 18 #[stV 2 s (.slice q N c), stV 2 s (.slice p4 N c4)] U fun e w' => e = .returned (.bool true) ∧ Keeps U w') := Lib.hid (by
    have := pw_same 2 s 2 s (.slice q N c) (.slice p4 N c4) L L U (IB.out.keeps KU.out) (R4.out U ku)
    rwa [mf_same_self] at this)
  unfold stV at CM
  have ez : ((T.size : Int) == 0) = false := by rw [beq_eq_false_iff_ne]; omega
  have ez2 : ¬ T = ByteArray.empty := fun e => by rw [e] at zp; simp at zp
  clear ku
  go_wp2_with fail
  refine CM.out.mono ?_
  rintro e w5 ⟨rfl, k5⟩
  have KW5 : Hid (Keeps w1 w5) := Lib.hid (Keeps.trans KU.out k5)
  have K5 := Lib.hid (Keeps.trans KB.out (Keeps.trans KU.out k5))
  clear k5 CM x0 x1 x2 t0 t1 t2 r0 r1 r2
  have HZT := Lib.hid zT
  have N4 : N ≤ 100 := hbig
  have HN4 := Lib.hid N4
  go_upto_region 10 with (fail)
  go_wp2_with fail
  go_loopg [9, 10] N (fun g v9 v10 W => ∃ (k M : Nat), k + g = N ∧ v9 = .int .i64 (M : Int) ∧ v10 = .int .i64 (k : Int) ∧ M = (ordL 0 (L.take k)).length ∧ Keeps w5 W)
  case atStart => exact ⟨0, 0, by omega, rfl, rfl, by simp [ordL], Keeps.refl _⟩
  case round =>
    obtain ⟨k, M, hi, rfl, rfl, hm, hw⟩ := hrel
    have HI := Lib.hid hi
    have HM := Lib.hid hm
    have HW := Lib.hid hw
    have MB : Hid (M ≤ k) := Lib.hid (by have := ord_len (L.take k) 0; rw [List.length_take] at this; omega)
    clear hm hw
    obtain ⟨x0, x1, x2⟩ := (sk_three_atG (SB.out _ (Keeps.trans KW5.out HW.out))).1
    cases gk with
    | succ g =>
      have hlt : k < N := by as_aux_lemma => (omega)
      obtain ⟨x, hx⟩ : ∃ x, L[k]? = some x := ⟨_, List.getElem?_eq_getElem (by have := HN.out; omega)⟩
      have HX := Lib.hid hx
      obtain ⟨p9, c9, e9, _, _, hc9⟩ := IB.out.keeps (Keeps.trans KW5.out HW.out)
      rw [HN.out] at e9
      simp only [Value.slice.injEq] at e9
      obtain ⟨rfl, _, rfl⟩ := e9
      obtain ⟨ad, rfl, QQ⟩ := hc9 k x hx
      have HCC := Lib.hid hc9
      have RX := Lib.hid (VA.out.good.each x (List.mem_of_getElem? hx))
      obtain ⟨q0, q1, q2, q3, q4⟩ := QQ
      have hi1 : (k : Int) < (N : Int) := by as_aux_lemma => (omega)
      have hi0 : (0 : Int) ≤ (k : Int) := by as_aux_lemma => (omega)
      clear hc9 hx hlt
      obtain ⟨nb, hnb⟩ : ∃ b : Bool, (b = true ↔ x.o ≠ ((L.take k).getLast?.map (·.o)).getD 0) := ⟨decide (x.o ≠ ((L.take k).getLast?.map (·.o)).getD 0), by simp⟩
      have NB := Lib.hid hnb
      clear hnb
      go_upto_region 13 with (fail)
      go_cut [91] (fun v W => v = .bool nb ∧ Keeps wr W)
      case first =>
        rcases Nat.eq_zero_or_pos k with hk0 | hk0
        · have hb : nb = true := NB.out.2 (by
            rw [hk0]
            have := RX.out.key.o0
            show x.o ≠ 0
            omega)
          subst hb
          have e0 : ((k : Int) == 0) = true := by rw [hk0]; rfl
          subst hk0
          go_quiet (fail)
          have KQ := Lib.hid (keeps_drewN (Keeps.refl wr) nq)
          go_wp2
          go_meet
          case rel => exact ⟨rfl, KQ.out⟩
        · obtain ⟨j, hj⟩ : ∃ j, k - 1 = j := ⟨_, rfl⟩
          obtain ⟨y, hy⟩ : ∃ y, L[j]? = some y := ⟨_, List.getElem?_eq_getElem (by have := HN.out; have := (List.getElem?_eq_some_iff.1 HX.out).1; omega)⟩
          obtain ⟨ad2, had, QY⟩ := HCC.out j y hy
          cases had
          obtain ⟨r0, r1, r2, r3, r4⟩ := QY
          have LL : Hid ((L.take k).getLast? = some y) := Lib.hid (by
            have := last_take hy
            rw [show j + 1 = k by omega] at this
            exact this)
          have ek : ((k : Int) == 0) = false := by rw [beq_eq_false_iff_ne]; omega
          obtain ⟨u1, u2⟩ := pred_wrap (k := k) (j := j) hk0 hj (by have := HN4.out; have := (List.getElem?_eq_some_iff.1 HX.out).1; have := HN.out; omega)
          have hj1 : (j : Int) < (N : Int) := by omega
          have hj0 : (0 : Int) ≤ (j : Int) := by omega
          clear hy q1 q2 q3 q4 r1 r2 r3 r4 hj
          by_cases ho : y.o = x.o
          · have hb : nb = false := by
              cases nb with
              | false => rfl
              | true =>
                have := NB.out.1 rfl
                rw [LL.out] at this
                exact absurd ho.symm this
            subst hb
            rw [ho] at r0
            clear hk0 ho
            go_quiet (fail)
            have KQ := Lib.hid (keeps_drewN (Keeps.refl wr) nq)
            go_wp2
            go_meet
            case rel => exact ⟨rfl, KQ.out⟩
          · have hb : nb = true := NB.out.2 (by
              rw [LL.out]
              exact fun e => ho e.symm)
            subst hb
            obtain ⟨t1, t2⟩ := ne_tests ho
            clear hk0 ho
            go_quiet (fail)
            have KQ := Lib.hid (keeps_drewN (Keeps.refl wr) nq)
            go_wp2
            go_meet
            case rel => exact ⟨rfl, KQ.out⟩
      case rest =>
      obtain ⟨rfl, hkq⟩ := hcut
      have KC : Hid (Keeps w5 wc) := Lib.hid (HW.out.trans hkq)
      have wi : wrap64 ((k : Int) + 1) = (k : Int) + 1 := i64w (by as_aux_lemma => (unfold top; omega)) (by as_aux_lemma => (unfold top; have := HN4.out; omega))
      have wm : wrap64 ((M : Int) + 1) = (M : Int) + 1 := i64w (by as_aux_lemma => (unfold top; omega)) (by as_aux_lemma => (unfold top; have := MB.out; have := HN4.out; omega))
      clear hkq x0 x1 x2 q0 q1 q2 q3 q4
      cases nb with
      | false =>
        have ON : Hid (ordL 0 (L.take (k + 1)) = ordL 0 (L.take k)) := Lib.hid (by
          rw [ord_next HX.out, if_pos, List.append_nil]
          by_cases hz : x.o = ((L.take k).getLast?.map (·.o)).getD 0
          · exact hz
          · have := NB.out.2 hz; cases this)
        go_wp2_with fail
        go_roundg g
        case measure => omega
        case rel => exact ⟨k + 1, M, by have := HI.out; omega, rfl, by first | rfl | go_num, by rw [ON.out]; exact HM.out, KC.out⟩
      | true =>
        have ON : Hid ((ordL 0 (L.take (k + 1))).length = M + 1) := Lib.hid (by rw [ord_next HX.out, if_neg (NB.out.1 rfl), List.length_append, ← HM.out]; rfl)
        go_wp2_with fail
        go_roundg g
        case measure => omega
        case rel => exact ⟨k + 1, M + 1, by have := HI.out; omega, by first | rfl | go_num, by first | rfl | go_num, ON.out.symm, KC.out⟩
    | zero =>
      obtain rfl : k = N := by as_aux_lemma => (omega)
      have hd : decide ((k : Int) < (k : Int)) = false := decide_eq_false (by as_aux_lemma => (omega))
      have hz : ¬ ((k : Int) < (k : Int)) := by as_aux_lemma => (omega)
      have ML : Hid ((Mft.tableL s L).length = M + 2) := Lib.hid (by
        have h1 := HM.out
        rw [List.take_of_length_le (by rw [HN.out]; exact Nat.le_refl _), ord_all VA.out.good, List.length_map] at h1
        rw [h1]
        exact table_len s (grpL L) (totL L))
      have wm : wrap64 ((M : Int) + 2) = ((M + 2 : Nat) : Int) := by rw [i64w (by as_aux_lemma => (unfold top; omega)) (by as_aux_lemma => (unfold top; have := MB.out; have := HN4.out; omega))]; rfl
      obtain ⟨M2, hM2⟩ : ∃ m, M + 2 = m := ⟨_, rfl⟩
      rw [hM2] at ML wm
      have KR := Lib.hid (Keeps.trans K5.out HW.out)
      have CT : Hid (∀ W, Keeps w W → Calls Tryd.prog 19 #[.string T] W (RowsOut (Mft.tableL s L) W)) := Lib.hid fun W k => parse_rows T W HZT.out (HP.out _ k).m (by rw [HTL.out]; exact run_file VA.out)
      obtain ⟨cu, hk⟩ : ∃ k : Nat, cut % T.size = k := ⟨_, rfl⟩
      have hk2 : cu < T.size := by rw [← hk]; exact Nat.mod_lt _ zp
      have hk3 : (cut : Int) % (T.size : Int) = (cu : Int) := by rw [← hk]; first | exact (Int.natCast_emod _ _).symm | exact (Int.ofNat_emod _ _).symm
      have hk4 : cu ≤ T.size := Nat.le_of_lt hk2
      have wc : wrap64 (cut : Int) = (cut : Int) := i64w (by as_aux_lemma => (unfold top; omega)) (by as_aux_lemma => (unfold top; have := HCU.out; omega))
      have wk : wrap64 (cu : Int) = (cu : Int) := i64w (by as_aux_lemma => (unfold top; omega)) (by as_aux_lemma => (unfold top; have := HZT.out; omega))
      obtain ⟨V, hV⟩ : ∃ V, T.extract 0 cu = V := ⟨_, rfl⟩
      have VL : V.data.toList = (Mft.fileL s L).take cu := by
        have q : (T.extract 0 cu).data.toList = (T.data.toList.drop 0).take (cu - 0) := by rw [← extract_list, ByteArray.toList_eq]
        rw [← hV, q, HTL.out]
        simp
      have HVS : Hid (V.size ≤ maxLen) := Lib.hid (Nat.le_trans (by rw [← len_data, VL, List.length_take]; exact Nat.min_le_left _ _) (Nat.le_trans hk4 (Nat.le_trans HZT.out (by unfold maxLen; decide))))
      have HKF : Hid (cu < (Mft.fileL s L).length) := Lib.hid (by
        have e := congrArg List.length HTL.out
        rw [len_data] at e
        exact e ▸ hk2)
      have HVL := Lib.hid VL
      obtain ⟨ee, h1⟩ := cut_file VA.out HKF.out
      obtain ⟨line, col, code⟩ := ee
      obtain ⟨b1, b2, b3⟩ := Mft.parse_bad h1
      simp only at b1 b2 b3
      have CQ : Hid (∀ W, Keeps w W → Calls Tryd.prog 13 #[.string V] W fun e w' => e = .returned (.tuple #[stV 0 0 (.slice none 0 0), .agg #[.int .i64 (line : Int), .int .i64 (col : Int), .int .i64 code]]) ∧ Keeps W w') := Lib.hid fun W kk => mfNo V line col code W (HP.out _ kk) HVS.out (by rw [HVL.out]; exact h1)
      unfold stV at CQ
      have tc : (code == 0) = false := by rw [beq_eq_false_iff_ne]; exact Int.ne_of_gt (Int.lt_of_lt_of_le (by decide) b3)
      have tc2 : (code != 0) = true := by rw [bne, tc]; rfl
      have ga : (1 : Int) ≤ (line : Int) := by exact_mod_cast b1
      have gb : (1 : Int) ≤ (col : Int) := by exact_mod_cast b2
      clear h1 hk VL b1 b2 b3 zT
      go_wp2_with fail
      refine (CT.out _ KR.out).mono ?_
      rintro e w6 ⟨vt, rfl, rt, k6⟩
      have K6 := Lib.hid (Keeps.trans KR.out k6)
      obtain ⟨pt, ct, rfl, -⟩ := rt
      rw [ML.out]
      clear k6 CT x0 x1 x2
      go_upto_region 16 with (fail)
      obtain ⟨w7, hw7⟩ : ∃ W, w6.alloc (.cells #[.int .i64 0, .int .i64 0, .int .i64 0] skRj) = W := ⟨_, rfl⟩
      have B7 : Hid (∀ W, Keeps w7 W → W.cell? ⟨w6.heap.size, 0, none⟩ = some (.int .i64 0) ∧ W.cell? ⟨w6.heap.size, 1, none⟩ = some (.int .i64 0) ∧ W.cell? ⟨w6.heap.size, 2, none⟩ = some (.int .i64 0)) := Lib.hid fun W kk => by
        have h : W.heap[w6.heap.size]? = some (.cells #[.int .i64 0, .int .i64 0, .int .i64 0] skRj (0, 0)) := (kk.block _ (by rw [← hw7]; simp)).trans (hw7 ▸ heap_alloc_new w6 _)
        exact (sk_three_atG h).1
      have K7 : Hid (Keeps w w7) := Lib.hid (K6.out.trans (hw7 ▸ kept_alloc (Keeps.refl w6) _))
      obtain ⟨g6, hg6⟩ : ∃ n, w6.heap.size = n := ⟨_, rfl⟩
      rw [hg6] at B7
      rw [hw7, hg6]
      clear hw7 hg6
      go_wp2_with fail
      refine (CQ.out _ K7.out).mono ?_
      rintro e w9 ⟨rfl, k9⟩
      have K9 := Lib.hid k9
      clear k9 CQ hV
      go_upto_region 17 with (fail)
      have T9 := Lib.hid (mfTwo2 w9 (.int .i64 0) (.int .i64 0) (.slice none 0 0) (.int .i64 (line : Int)) (.int .i64 (col : Int)) (.int .i64 code))
      obtain ⟨U9, hU⟩ : ∃ U, (w9.alloc (.cells #[.int .i64 0, .int .i64 0, .slice none 0 0] tSt)).alloc (.cells #[.int .i64 (line : Int), .int .i64 (col : Int), .int .i64 code] skRj) = U := ⟨_, rfl⟩
      rw [hU] at T9 ⊢
      clear hU hk3 wc wk
      obtain ⟨⟨⟨t0, t1, t2⟩, _⟩, ku⟩ := T9.out U9 (Keeps.refl _)
      obtain ⟨x0, x1, x2⟩ := B7.out U9 (K9.out.trans ku)
      have C9 : Hid (∀ W, Calls Tryd.prog 18 #[stV 0 0 (.slice none 0 0), stV 0 0 (.slice none 0 0)] W fun e w' => e = .returned (.bool true) ∧ Keeps W w') := Lib.hid fun W => mf_same_zero ▸ pw_same 0 0 0 0 _ _ [] [] W (rows_nil W) (rows_nil W)
      unfold stV at C9
      have KU9 := Lib.hid (K7.out.trans (K9.out.trans ku))
      clear ku
      go_wp2_with fail
      refine (C9.out _).mono ?_
      rintro e w11 ⟨rfl, k11⟩
      have K11 := Lib.hid k11
      clear k11 C9 t0 t1 t2 x0 x1 x2
      obtain ⟨⟨_, r0, r1, r2⟩, _⟩ := T9.out w11 K11.out
      go_wp2_with fail
      refine (HS.out _ (KU9.out.trans K11.out)).mono ?_
      rintro e w12 ⟨rfl, k12⟩
      go_wp2
      go_ret
      exact ⟨rfl, (KU9.out.trans K11.out).trans k12⟩
theorem ku16_of {n : Int} (h : (Lit.int .u16 n).wf = true) : ∃ N : Nat, n = N ∧ N < 65536 := by
  simp only [Lit.wf, IntKind.min, IntKind.max, IntKind.signed, IntKind.bits, Bool.and_eq_true] at h
  refine ⟨n.toNat, ?_, ?_⟩ <;> simp at h <;> omega
theorem manifestBack_go' (p s : Int) (v : Value) (L : List R) (n : Int) (w : World) (hp : HasS w) (hl : RowsIn w v L) (hn : (Lit.int .u16 n).wf = true) :
    Calls Tryd.prog 6 #[stV p s v, .int .u16 n] w fun e w' => e = .returned (.bool true) ∧ Keeps w w' := by
  obtain ⟨C, rfl, hC⟩ := ku16_of hn
  exact manifestBack_go p s v L C w hp hl hC
end Go.Proofs.YtnkcbefamajghaaDoor
