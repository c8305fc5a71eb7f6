
/- ManifestCells: the walk. -/
import Derived.Test.YtnkcbefamajghaaDoorMfTbl
set_option linter.unusedVariables false
set_option linter.unusedSimpArgs false
namespace Go.Proofs.YtnkcbefamajghaaDoor
open Go.ChangeShapes Go.WideShapes Go.ChangeAt Go.RowKit Ky Rw Mft
open Stk (Bt)

set_option maxHeartbeats 32000000 in
set_option maxRecDepth 100000 in
theorem manifestCells_go (p s : Int) (v : Value) (L : List R) (vl : Value) (CL : List CeM) (n : Int) (w : World) (hp : HasS w) (hl : RowsIn w v L) (hcl : CesIn w vl CL) (hn : -128 ≤ n ∧ n ≤ 127) :
    Calls Tryd.prog 5 #[stV p s v, vl, .int .i8 n] w fun e w' => e = .returned (.bool true) ∧ Keeps w w' := by
  have HNN := Lib.hid hn
  have I1 := Lib.hid hl
  obtain ⟨q, c, rfl, hmx, -, -⟩ := hl
  have F1 : Hid (∀ W, Keeps w W → CesIn W vl CL) := Lib.hid fun W k => hcl.keeps k
  obtain ⟨pb, cb, rfl, hmb, -⟩ := hcl
  obtain ⟨N, hN⟩ : ∃ N, L.length = N := ⟨_, rfl⟩
  have HN := Lib.hid hN
  obtain ⟨NB, hNB⟩ : ∃ N, CL.length = N := ⟨_, rfl⟩
  have HNB := Lib.hid hNB
  rw [hN] at hmx I1 ⊢
  rw [hNB] at hmb F1 ⊢
  clear hN hNB hn
  have KB := Lib.hid (ky_box w (stBox p s (.slice q N c)))
  have SB := Lib.hid (mf_st_box w p s (.slice q N c))
  have IB := Lib.hid (I1.out.keeps KB.out)
  have HP : Hid (∀ W, Keeps w W → HasS W) := Lib.hid fun W k => hp.keeps k
  have HS : Hid (∀ W, Keeps w W → Calls Tryd.prog 9 #[] W fun e w' => e = .returned (.bool true) ∧ Keeps W w') := Lib.hid fun W k => mf_carried W (hp.keeps k)
  unfold maxLen at hmx hmb
  unfold stV
  unfold stBox at KB SB IB
  clear hp
  obtain ⟨w1, hw1⟩ : ∃ W, w.alloc (.cells #[.int .i64 p, .int .i64 s, .slice q N c] tSt) = W := ⟨_, rfl⟩
  rw [hw1] at KB SB IB
  obtain ⟨x0, x1, x2⟩ := (sk_three_atG (SB.out _ (Keeps.refl _))).1
  go_enter Tryd.func5, Tryd.ntmps5
  by_cases hbig : N ≤ 60
  rotate_left
  · go_wp2_with fail
    refine (HS.out _ KB.out).mono ?_
    rintro e w2 ⟨rfl, k2⟩
    go_wp2
    go_ret
    exact ⟨rfl, KB.out.trans k2⟩
  by_cases hbb : NB ≤ 5
  rotate_left
  · go_wp2_with fail
    refine (HS.out _ KB.out).mono ?_
    rintro e w2 ⟨rfl, k2⟩
    go_wp2
    go_ret
    exact ⟨rfl, KB.out.trans k2⟩
  have HBIG := Lib.hid hbig
  have HBB := Lib.hid hbb
  have C1 := Lib.hid (mr_print p s _ L w1 IB.out)
  by_cases hv : p = 2 ∧ validB p s L = true
  rotate_left
  · have PT : Hid (mfPrtS p s L = ⟨#[]⟩ ∧ Mft.prtC p s L = 2) := Lib.hid (by unfold mfPrtS Mft.prt Mft.prtC; rw [if_neg hv, if_neg hv]; exact ⟨rfl, rfl⟩)
    rw [PT.out.1, PT.out.2] at C1
    unfold stV at C1
    go_wp2_with fail
    refine C1.out.mono ?_
    rintro e w2 ⟨rfl, k2⟩
    have K2 := Lib.hid (KB.out.trans k2)
    clear k2 C1 x0 x1 x2
    go_wp2_with fail
    refine (HS.out _ K2.out).mono ?_
    rintro e w4 ⟨rfl, k4⟩
    go_wp2
    go_ret
    exact ⟨rfl, Keeps.trans K2.out k4⟩
  obtain ⟨rfl, hvb⟩ := hv
  have VA := Lib.hid (valid_iff.1 hvb)
  obtain ⟨T, hT⟩ : ∃ T, mfPrtS 2 s L = T := ⟨_, rfl⟩
  have HTL : Hid (T.data.toList = Mft.fileL s L) := Lib.hid (by
    have hv : (2 : Int) = 2 ∧ validB 2 s L = true := ⟨rfl, hvb⟩
    rw [← hT]
    unfold mfPrtS Mft.prt
    rw [if_pos hv, data_mk])
  have PC : Mft.prtC 2 s L = 0 := by unfold Mft.prtC; rw [if_pos ⟨rfl, hvb⟩]
  rw [hT, PC] at C1
  have ZT : Hid (T.size ≤ maxLen) := Lib.hid (Nat.le_trans (by rw [← len_data, HTL.out]; exact file_small VA.out) (by unfold maxLen; decide))
  unfold stV at C1
  clear hT PC hvb
  go_wp2_with fail
  refine C1.out.mono ?_
  rintro e w2 ⟨rfl, k2⟩
  have K2 := Lib.hid (KB.out.trans k2)
  clear k2 C1 x0 x1 x2
  go_wp2_with fail
  refine (rcsv_own T VA.out HTL.out ZT.out w2).mono ?_
  rintro e w3 ⟨vt, rfl, ot, k3⟩
  have K3 := Lib.hid k3
  have OT := Lib.hid ot
  clear ot k3
  go_upto_region 7 with (fail)
  obtain ⟨w4, hw4⟩ : ∃ W, w3.alloc (.cells #[.int .i64 0, .int .i64 0, .int .i64 0] skRj) = W := ⟨_, rfl⟩
  have k34 : Keeps w3 w4 := hw4 ▸ kept_alloc (Keeps.refl w3) _
  have K24 := Lib.hid (K3.out.trans k34)
  obtain ⟨vs0, tb⟩ := own_tbl (OT.out.keeps k34)
  obtain ⟨M, hM⟩ : ∃ M, (Mft.tableL s L).length = M := ⟨_, rfl⟩
  have hM2 : M = (grpL L).length + 2 := by rw [← hM]; exact table_len s (grpL L) (totL L)
  obtain ⟨tg, tc, rfl, hg0, hg1, hg2, hg3, -⟩ := tb.lies (show Mft.tableL s L ≠ [] by simp [Mft.tableL, tableK])
  rw [hM] at hg2 tb ⊢
  have TB := Lib.hid tb
  have HM := Lib.hid hM
  have HMS : M ≤ 62 := by rw [hM2]; exact Nat.add_le_add_right (grp_ok VA.out.good).1.few 2
  have HM0 : 0 < M := by rw [hM2]; exact Nat.succ_pos _
  have G0 := Lib.hid hg0
  have G2 := Lib.hid hg2
  have G3 := Lib.hid hg3
  have HMS2 := Lib.hid HMS
  rw [hw4]
  clear hw4 hM hM2 hg0 hg1 hg2 hg3 tb k34
  go_wp2_with fail
  go_loopg [11] NB (fun g v11 W => ∃ (i : Nat) (vs : List Sl3) (T : List (List Bt)), i + g = NB ∧ v11 = .int .i64 (i : Int) ∧ TblO w2.heap.size W (.slice (some ⟨tg, 0, none⟩) M tc) vs T ∧ T.length = M ∧ SmallT T i ∧ Keeps w2 W)
  case atStart => exact ⟨0, vs0, Mft.tableL s L, by omega, rfl, TB.out, HM.out, small_table VA.out, K24.out⟩
  case round =>
    obtain ⟨i, vs, T, hi, rfl, tbo, htl, hsm, kw⟩ := hrel
    have HI := Lib.hid hi
    have TBO := Lib.hid tbo
    have HTL2 := Lib.hid htl
    have SM := Lib.hid hsm
    have KW := Lib.hid kw
    clear tbo htl hsm kw hi
    cases gk with
    | succ g =>
      have hlt : i < NB := by have := HI.out; as_aux_lemma => (omega)
      obtain ⟨x, hx⟩ : ∃ x, CL[i]? = some x := ⟨_, List.getElem?_eq_getElem (by rw [HNB.out]; exact hlt)⟩
      obtain ⟨pf, cf, ef, -, hcf⟩ := F1.out wr (K2.out.trans KW.out)
      rw [HNB.out] at ef
      simp only [Value.slice.injEq] at ef
      obtain ⟨rfl, -, rfl⟩ := ef
      obtain ⟨⟨hr1, hr2⟩, af, rfl, d0, d1, d2⟩ := hcf i x hx
      obtain ⟨xr, xc, S⟩ := x
      simp only at hr1 hr2 d0 d1 d2
      have hi1 : (i : Int) < (NB : Int) := by as_aux_lemma => (omega)
      have hi0 : (0 : Int) ≤ (i : Int) := by as_aux_lemma => (omega)
      clear hx hcf hlt
      by_cases hz : S.size ≤ 20
      rotate_left
      · clear hr1 hr2 d0 d1
        go_wp2_with fail
        refine (HS.out _ (K2.out.trans KW.out)).mono ?_
        rintro e w5 ⟨rfl, k5⟩
        go_wp2
        go_ret
        exact ⟨rfl, (K2.out.trans KW.out).trans k5⟩
      obtain ⟨k, hk⟩ : ∃ k, xr % M = k := ⟨_, rfl⟩
      have hkM : k < M := by rw [← hk]; exact Nat.mod_lt _ HM0
      have hk2 : (xr : Int) % (M : Int) = (k : Int) := by rw [← hk]; first | exact (Int.natCast_emod _ _).symm | exact (Int.ofNat_emod _ _).symm
      have HKM := Lib.hid hkM
      obtain ⟨F, hF⟩ : ∃ F, T[k]? = some F := ⟨_, List.getElem?_eq_getElem (by rw [HTL2.out]; exact hkM)⟩
      have SF := Lib.hid (SM.out F (List.mem_of_getElem? hF))
      obtain ⟨y, hy, oy⟩ := TBO.out.2.2 k F hF
      obtain ⟨FL, hFL⟩ : ∃ n, F.length = n := ⟨_, rfl⟩
      have HFL := Lib.hid hFL
      have hFL9 : FL ≤ 9 := by rw [← hFL]; exact Nat.le_trans SF.out.1 (by have := HI.out; have := HBB.out; as_aux_lemma => (omega))
      obtain ⟨py, ny, cy⟩ := y
      obtain ⟨p', c', es⟩ := RowK.own_shape skStrK oy
      have es2 : ny = FL := by
        unfold slV at es
        simp only [Value.slice.injEq] at es
        rw [es.2.1, hFL]
      subst es2
      have OY := Lib.hid oy
      obtain ⟨tcell, tfro⟩ : wr.cell? ⟨tg, k, none⟩ = some (.slice py ny cy) ∧ wr.frozen? ⟨tg, k, none⟩ = false := by
        obtain ⟨g', c'', e', _, _, _, _, h5⟩ := TBO.out.lies (fun e => by rw [e] at hF; cases hF)
        rw [HTL2.out] at e' h5
        simp only [Value.slice.injEq, Option.some.injEq, Addr.mk.injEq] at e'
        obtain ⟨⟨rfl, _, _⟩, _, _⟩ := e'
        obtain ⟨z, h6, h7, h8⟩ := h5 k hkM
        rw [hy] at h6
        cases h6
        exact ⟨h7, h8⟩
      obtain ⟨p5, c5, w5, R1, R2, R3⟩ := skStrK.copy_row wr (.slice py ny cy) F (RowK.own_src skStrK OY.out) (HFL.out ▸ Nat.le_trans hFL9 (by decide))
      rw [HFL.out] at R1 R2
      have HR1 : Hid ((Builtin.append_ #[skStrK.ts, skStrK.ts] skStrK.ts #[.slice none 0 0, .slice py ny cy]).run Tryd.prog wr = .ok (.slice p5 ny c5) w5) := Lib.hid R1
      have K5 := Lib.hid R3
      have O5 := Lib.hid R2
      have TB5 := Lib.hid (TBO.out.keeps R3)
      have HB := Lib.hid (Nat.le_trans KW.out.size (Nat.le_refl wr.heap.size))
      obtain ⟨cc, hcc⟩ : ∃ k, xc % (ny + 1) = k := ⟨_, rfl⟩
      have hccM : cc < ny + 1 := by rw [← hcc]; exact Nat.mod_lt _ (Nat.succ_pos _)
      have hcc2 : (xc : Int) % ((ny : Int) + 1) = (cc : Int) := by rw [← hcc]; first | exact (Int.natCast_emod _ _).symm | exact (Int.ofNat_emod _ _).symm
      have tc5 : w5.cell? ⟨tg, k, none⟩ = some (.slice py ny cy) := cell_keeps R3 tcell
      have d15 := cell_keeps R3 d1
      have d25 := cell_keeps R3 d2
      have tf5 : ∀ (W : World), TblO w2.heap.size W (.slice (some ⟨tg, 0, none⟩) M tc) vs T → W.frozen? ⟨tg, k, none⟩ = false := fun W tbw => by
        obtain ⟨g', c'', e', _, _, _, _, h5⟩ := tbw.lies (fun e => by rw [e] at hF; cases hF)
        rw [HTL2.out] at e' h5
        simp only [Value.slice.injEq, Option.some.injEq, Addr.mk.injEq] at e'
        obtain ⟨⟨rfl, _, _⟩, _, _⟩ := e'
        obtain ⟨z, h6, h7, h8⟩ := h5 k hkM
        exact h8
      have TF5 := Lib.hid tf5
      clear R1 R2 R3 hF hy oy es hk hcc tf5 hFL
      by_cases hcE : cc = ny
      · subst hcE
        have hq : ((cc : Int) == (cc : Int)) = true := beq_self_eq_true _
        obtain ⟨p6, c6, w6, Q1, Q2, Q3⟩ := skStrK.app_row (w5.alloc (.cells #[.string S] tS)) wr.heap.size (.slice p5 cc c5) F (.slice (some ⟨w5.heap.size, 0, none⟩) 1 1) [S.data.toList] (skStrK.own_keeps O5.out (kept_alloc (Keeps.refl w5) _)) (RowK.own_src skStrK (sk_lit (G := [S.data.toList]) (by rw [sv_of S]; rfl) rfl (show 1 ≤ maxLen by unfold maxLen; decide) w5.heap.size (Nat.le_refl _))) (by rw [HFL.out]; exact Nat.le_trans (Nat.succ_le_succ hFL9) (by decide)) (Nat.le_trans K5.out.size (by simp))
        have e6 : F.length + [S.data.toList].length = cc + 1 := by rw [HFL.out]; rfl
        rw [e6] at Q1 Q2
        have HR2 : Hid ((Builtin.append_ #[skStrK.ts, skStrK.ts] skStrK.ts #[.slice p5 cc c5, .slice (some ⟨w5.heap.size, 0, none⟩) 1 1]).run Tryd.prog (w5.alloc (.cells #[.string S] tS)) = .ok (.slice p6 (cc + 1) c6) w6) := Lib.hid Q1
        have K6 : Hid (Keeps wr w6) := Lib.hid (sk_mono (v := .slice p5 cc c5) (kept_alloc K5.out _) Q3 fun j hj => (skStrK.own_lt O5.out j hj).1)
        have O6 : Hid (skStrK.Own w2.heap.size w6 (slV (p6, cc + 1, c6)) (F ++ [S.data.toList])) := Lib.hid (skStrK.own_base Q2 fun j hj => Nat.le_trans HB.out (skStrK.own_lt Q2 j hj).1)
        have tc6 : w6.cell? ⟨tg, k, none⟩ = some (.slice py cc cy) := cell_keeps K6.out tcell
        have tf6 := TF5.out w6 (TBO.out.keeps K6.out)
        clear Q1 Q2 Q3 e6 tfro
        go_upto_region 14 with (at_builtin; refine wpAppKnown rfl _ _ _ _ rfl _ _ _ _ rfl rfl HR1.out ?_)
        clear HR1
        go_wp2_with (at_builtin; refine wpAppKnown rfl _ _ _ _ rfl _ _ _ _ rfl rfl HR2.out ?_)
        go_roundg g
        case measure => omega
        case rel =>
          refine ⟨i + 1, vs.set k (p6, cc + 1, c6), T.set k (F ++ [S.data.toList]), by have := HI.out; as_aux_lemma => (omega), by first | rfl | go_num, TblO.set (TBO.out.keeps K6.out) O6.out, by rw [List.length_set]; exact HTL2.out, ?_, ?_⟩
          · refine SM.out.set ?_ ?_
            · rw [List.length_append, HFL.out]
              have := SF.out.1
              rw [HFL.out] at this
              exact Nat.succ_le_succ this
            · intro f hf
              rcases List.mem_append.1 hf with hf | hf
              · exact SF.out.2 f hf
              · rw [List.mem_singleton.1 hf, len_data]; exact Nat.le_trans hz (by decide)
          · exact (KW.out.trans K6.out).setCell (p := ⟨tg, k, none⟩) G0.out _
      · have hq : ((cc : Int) == (ny : Int)) = false := by rw [beq_eq_false_iff_ne]; exact fun e => hcE (Int.ofNat.inj e)
        have hq2 : ¬ (cc : Int) = (ny : Int) := fun e => hcE (Int.ofNat.inj e)
        have hccL : cc < ny := Nat.lt_of_le_of_ne (Nat.le_of_lt_succ hccM) hcE
        obtain ⟨g5, c5', z5, e5, hg5, z1, z2⟩ := str_lies O5.out (i := cc) (by rw [HFL.out]; exact hccL)
        rw [HFL.out] at e5
        simp only [Value.slice.injEq] at e5
        obtain ⟨rfl, -, rfl⟩ := e5
        obtain ⟨w6, hw6⟩ : ∃ W, w5.setCell ⟨g5, cc, none⟩ (.string S) = W := ⟨_, rfl⟩
        have K6 : Hid (Keeps wr w6) := Lib.hid (hw6 ▸ K5.out.setCell (p := ⟨g5, cc, none⟩) hg5 _)
        have O6 : Hid (skStrK.Own w2.heap.size w6 (slV (some ⟨g5, 0, none⟩, ny, c5)) (F.set cc S.data.toList)) := Lib.hid (by
          rw [← hw6, sv_of S]
          exact skStrK.own_base (str_set O5.out) fun j hj => Nat.le_trans HB.out (skStrK.own_lt O5.out j hj).1)
        have tc6 : w6.cell? ⟨tg, k, none⟩ = some (.slice py ny cy) := cell_keeps K6.out tcell
        have tf6 := TF5.out w6 (TBO.out.keeps K6.out)
        clear tfro hcE
        go_wp2_with (at_builtin; refine wpAppKnown rfl _ _ _ _ rfl _ _ _ _ rfl rfl HR1.out ?_)
        go_roundg g
        case measure => omega
        case rel =>
          refine ⟨i + 1, vs.set k (some ⟨g5, 0, none⟩, ny, c5), T.set k (F.set cc S.data.toList), by have := HI.out; as_aux_lemma => (omega), by first | rfl | go_num, TblO.set (TBO.out.keeps K6.out) O6.out, by rw [List.length_set]; exact HTL2.out, ?_, ?_⟩
          · refine SM.out.set ?_ ?_
            · rw [List.length_set]
              exact Nat.le_succ_of_le SF.out.1
            · intro f hf
              rcases List.mem_or_eq_of_mem_set hf with hf | rfl
              · exact SF.out.2 f hf
              · rw [len_data]; exact Nat.le_trans hz (by decide)
          · exact (KW.out.trans K6.out).setCell (p := ⟨tg, k, none⟩) G0.out _
    | zero =>
      obtain rfl : i = NB := by have := HI.out; as_aux_lemma => (omega)
      have hd : decide ((i : Int) < (i : Int)) = false := decide_eq_false (by as_aux_lemma => (omega))
      have hzz : ¬ ((i : Int) < (i : Int)) := by as_aux_lemma => (omega)
      have KWW := Lib.hid (K2.out.trans KW.out)
      rcases Int.lt_trichotomy n 0 with hn | hn | hn
      rotate_left
      · subst hn
        obtain ⟨T6, rfl⟩ : ∃ X, X = T := ⟨_, rfl⟩
        obtain ⟨w6, rfl⟩ : ∃ X, X = wr := ⟨_, rfl⟩
        have RB := Lib.hid (TBO.out.rows (by rw [HTL2.out]; exact Nat.le_trans HMS2.out (by decide)))
        have FB := Lib.hid (SM.out.fits HBB.out (by rw [HTL2.out]; exact Nat.le_trans HMS2.out (by decide)))
        have K6 := KWW
        obtain ⟨X, hX⟩ : ∃ X : ByteArray, ⟨(Csv.prRows T6).toArray⟩ = X := ⟨_, rfl⟩
        have CX := Lib.hid (rprint_any _ _ w6 RB.out FB.out.2)
        rw [hX] at CX
        have HZ : Hid (X.size ≤ maxLen) := Lib.hid (by rw [← hX, size_mk]; exact Nat.le_trans FB.out.1 (by unfold maxLen; decide))
        clear hX
        go_wp2_with fail
        refine CX.out.mono ?_
        rintro e w7 ⟨rfl, rfl⟩
        clear CX
        cases hP : parseM X.data.toList with
        | ok r =>
          obtain ⟨q, L⟩ := r
          have C1 := Lib.hid (mfYes X q L w6 (HP.out _ K6.out) HZ.out hP)
          have C2 : Hid (∀ W, Calls Tryd.prog 14 #[.string X] W fun e w' => ∃ v, e = .returned (.tuple #[stV 2 q v, .agg #[.int .i64 0, .int .i64 0, .int .i64 0]]) ∧ RowsIn w' v L ∧ Keeps W w') := Lib.hid fun W => mfrYes X q L W HZ.out hP
          unfold stV at C1 C2
          obtain ⟨NP, hNP⟩ : ∃ N, L.length = N := ⟨_, rfl⟩
          have HNP := Lib.hid hNP
          clear hP hNP
          go_wp2_with fail
          refine C1.out.mono ?_
          rintro e w1 ⟨v1, rfl, i1, k1⟩
          have I1 : Hid (∀ W, Keeps w1 W → RowsIn W v1 L) := Lib.hid fun W k => i1.keeps k
          obtain ⟨p1, c1, e1, -⟩ := i1
          rw [HNP.out] at e1
          subst e1
          have K1 := Lib.hid k1
          clear k1 C1
          go_upto_region 28 with (fail)
          have T1 := Lib.hid (mfTwo2 w1 (.int .i64 2) (.int .i64 q) (.slice p1 NP c1) (.int .i64 0) (.int .i64 0) (.int .i64 0))
          obtain ⟨U1, hU⟩ : ∃ U, (w1.alloc (.cells #[.int .i64 2, .int .i64 q, .slice p1 NP c1] tSt)).alloc (.cells #[.int .i64 0, .int .i64 0, .int .i64 0] skRj) = U := ⟨_, rfl⟩
          rw [hU] at T1 ⊢
          clear hU
          go_wp2_with fail
          refine (C2.out _).mono ?_
          rintro e w2 ⟨v2, rfl, i2, k2⟩
          have I2 : Hid (∀ W, Keeps w2 W → RowsIn W v2 L) := Lib.hid fun W k => i2.keeps k
          obtain ⟨p2, c2, e2, -⟩ := i2
          rw [HNP.out] at e2
          subst e2
          have K2 := Lib.hid k2
          clear k2 C2
          go_upto_region 29 with (fail)
          have T2 := Lib.hid (mfTwo2 w2 (.int .i64 2) (.int .i64 q) (.slice p2 NP c2) (.int .i64 0) (.int .i64 0) (.int .i64 0))
          obtain ⟨U2, hU⟩ : ∃ U, (w2.alloc (.cells #[.int .i64 2, .int .i64 q, .slice p2 NP c2] tSt)).alloc (.cells #[.int .i64 0, .int .i64 0, .int .i64 0] skRj) = U := ⟨_, rfl⟩
          rw [hU] at T2 ⊢
          clear hU
          obtain ⟨⟨⟨b0, b1, b2⟩, y0, y1, y2⟩, ku2⟩ := T2.out U2 (Keeps.refl _)
          obtain ⟨⟨⟨a0, a1, a2⟩, x0, x1, x2⟩, ku1⟩ := T1.out U2 (Keeps.trans K2.out ku2)
          have CM : Hid (Calls Tryd.prog 12 #[stV 2 q (.slice p1 NP c1), stV 2 q (.slice p2 NP c2)] U2 fun e w' => e = .returned (.bool true) ∧ Keeps U2 w') := Lib.hid (by
            have := rr_same 2 q 2 q (.slice p1 NP c1) (.slice p2 NP c2) L L U2 (I1.out U2 ku1) (I2.out U2 ku2)
            rwa [mf_same_self] at this)
          unfold stV at CM
          have KU2 := Lib.hid ku2
          clear ku1 ku2
          go_wp2_with fail
          refine CM.out.mono ?_
          rintro e w3 ⟨rfl, k3⟩
          have K3 := Lib.hid k3
          clear k3 CM a0 a1 a2 b0 b1 b2 x0 x1 x2 y0 y1 y2
          obtain ⟨⟨_, y0, y1, y2⟩, ku2⟩ := T2.out w3 K3.out
          obtain ⟨⟨_, x0, x1, x2⟩, ku1⟩ := T1.out w3 (Keeps.trans K2.out ku2)
          have K4 := Lib.hid (Keeps.trans K6.out (Keeps.trans K1.out ku1))
          clear ku1 ku2
          go_wp2_with fail
          refine (HS.out _ K4.out).mono ?_
          rintro e w5 ⟨rfl, k5⟩
          go_wp2
          go_ret
          exact ⟨rfl, Keeps.trans K4.out k5⟩
        | error r =>
          obtain ⟨a, b, c⟩ := r
          have C1 := Lib.hid (mfNo X a b c w6 (HP.out _ K6.out) HZ.out hP)
          have C2 : Hid (∀ W, Calls Tryd.prog 14 #[.string X] W fun e w' => e = .returned (.tuple #[stV 0 0 (.slice none 0 0), .agg #[.int .i64 (a : Int), .int .i64 (b : Int), .int .i64 c]]) ∧ Keeps W w') := Lib.hid fun W => mfrNo X a b c W HZ.out hP
          have CM : Hid (∀ W, Calls Tryd.prog 12 #[stV 0 0 (.slice none 0 0), stV 0 0 (.slice none 0 0)] W fun e w' => e = .returned (.bool true) ∧ Keeps W w') := Lib.hid fun W => mf_same_zero ▸ rr_same 0 0 0 0 _ _ [] [] W (rows_nil W) (rows_nil W)
          unfold stV at C1 C2 CM
          clear hP
          go_wp2_with fail
          refine C1.out.mono ?_
          rintro e w1 ⟨rfl, k1⟩
          have K1 := Lib.hid k1
          clear k1 C1
          go_upto_region 28 with (fail)
          have T1 := Lib.hid (mfTwo2 w1 (.int .i64 0) (.int .i64 0) (.slice none 0 0) (.int .i64 (a : Int)) (.int .i64 (b : Int)) (.int .i64 c))
          obtain ⟨U1, hU⟩ : ∃ U, (w1.alloc (.cells #[.int .i64 0, .int .i64 0, .slice none 0 0] tSt)).alloc (.cells #[.int .i64 (a : Int), .int .i64 (b : Int), .int .i64 c] skRj) = U := ⟨_, rfl⟩
          rw [hU] at T1 ⊢
          clear hU
          go_wp2_with fail
          refine (C2.out _).mono ?_
          rintro e w2 ⟨rfl, k2⟩
          have K2 := Lib.hid k2
          clear k2 C2
          go_upto_region 29 with (fail)
          have T2 := Lib.hid (mfTwo2 w2 (.int .i64 0) (.int .i64 0) (.slice none 0 0) (.int .i64 (a : Int)) (.int .i64 (b : Int)) (.int .i64 c))
          obtain ⟨U2, hU⟩ : ∃ U, (w2.alloc (.cells #[.int .i64 0, .int .i64 0, .slice none 0 0] tSt)).alloc (.cells #[.int .i64 (a : Int), .int .i64 (b : Int), .int .i64 c] skRj) = U := ⟨_, rfl⟩
          rw [hU] at T2 ⊢
          clear hU
          obtain ⟨⟨⟨b0, b1, b2⟩, y0, y1, y2⟩, ku2⟩ := T2.out U2 (Keeps.refl _)
          obtain ⟨⟨⟨a0, a1, a2⟩, x0, x1, x2⟩, ku1⟩ := T1.out U2 (Keeps.trans K2.out ku2)
          clear ku1 ku2
          go_wp2_with fail
          refine (CM.out _).mono ?_
          rintro e w3 ⟨rfl, k3⟩
          have K3 := Lib.hid k3
          clear k3 CM a0 a1 a2 b0 b1 b2 x0 x1 x2 y0 y1 y2
          obtain ⟨⟨_, y0, y1, y2⟩, ku2⟩ := T2.out w3 K3.out
          obtain ⟨⟨_, x0, x1, x2⟩, ku1⟩ := T1.out w3 (Keeps.trans K2.out ku2)
          have K4 := Lib.hid (Keeps.trans K6.out (Keeps.trans K1.out ku1))
          clear ku1 ku2
          go_wp2_with fail
          refine (HS.out _ K4.out).mono ?_
          rintro e w5 ⟨rfl, k5⟩
          go_wp2
          go_ret
          exact ⟨rfl, Keeps.trans K4.out k5⟩
      · obtain ⟨m, rfl⟩ := Int.eq_ofNat_of_zero_le (Int.le_of_lt hn)
        obtain ⟨k, hk⟩ : ∃ k, m % M = k := ⟨_, rfl⟩
        have hkM : k < M := by rw [← hk]; exact Nat.mod_lt _ HM0
        have hk2 : (m : Int) % (M : Int) = (k : Int) := by rw [← hk]; first | exact (Int.natCast_emod _ _).symm | exact (Int.ofNat_emod _ _).symm
        have hn127 := HNN.out.2
        have HKM := Lib.hid hkM
        have HVS : Hid (vs.length = M) := Lib.hid (TBO.out.2.1.trans HTL2.out)
        obtain ⟨k1, hk1⟩ : ∃ j, k + 1 = j := ⟨_, rfl⟩
        obtain ⟨d, hd1⟩ : ∃ j, M - k = j := ⟨_, rfl⟩
        obtain ⟨e, he⟩ : ∃ j, tc - k = j := ⟨_, rfl⟩
        obtain ⟨u1, g1, g2, g3, g4, g5, g6, l1, l2, l3⟩ := twice_nums hk1 hd1 he hkM HMS2.out G2.out G3.out
        have S1 : Hid (skSliK.Src wr (.slice (some ⟨tg, 0, none⟩) k1 tc) (vs.take k1)) := Lib.hid (sl_front TBO.out.1 (by rw [HVS.out]; exact l1))
        have S2 : Hid (skSliK.Src wr (.slice (some ⟨tg, k, none⟩) d e) (vs.drop k)) := Lib.hid (by
          have := sl_back (m := k) TBO.out.1 e
          rwa [HVS.out, hd1] at this)
        have S3 : Hid (skSliK.Src wr (.slice (some ⟨tg, k, none⟩) (M - k) (tc - k)) (vs.drop k)) := Lib.hid (by
          have := sl_back (m := k) TBO.out.1 (tc - k)
          rwa [HVS.out] at this)
        have L1 : Hid ((vs.take k1).length = k1) := Lib.hid (by rw [List.length_take, HVS.out, Nat.min_eq_left l1])
        have L2 : Hid ((vs.take k1).length ≤ 100000) := Lib.hid (by rw [L1.out]; exact Nat.le_trans l1 (Nat.le_trans HMS2.out (by decide)))
        have L3 : Hid ((vs.take k1).length + (vs.drop k).length = k1 + d) := Lib.hid (by rw [L1.out, List.length_drop, HVS.out, hd1])
        have L4 : Hid ((vs.take k1).length + (vs.drop k).length ≤ 100000) := Lib.hid (by rw [L3.out]; exact l2)
        have TW : Hid ((vs.take k1 ++ vs.drop k).length = (T.take k1 ++ T.drop k).length ∧ (T.take k1 ++ T.drop k).length ≤ 63) := Lib.hid (by
          have a1 : (T.take k1 ++ T.drop k).length = k1 + d := by rw [List.length_append, List.length_take, List.length_drop, HTL2.out, Nat.min_eq_left l1, hd1]
          refine ⟨by rw [List.length_append, L3.out, a1], by rw [a1]; exact l3⟩)
        clear hk hk1 hd1 he l1 l2 l3
        go_upto_region 22 with (fail)
        refine wp_region_held_drew (S := fun W => True) (by kernel_rfl) trivial (fun hHeld => ?_)
        refine takeH (i := 0) (d := some 116) (v := ?va0) rfl rfl (by kernel_rfl) (by kernel_rfl) (by kernel_rfl) (fun _ _ _ h => h) (Or.inl ⟨by rfl, ?ya0⟩) (by assumption) ?ra0
        case ya0 => (intro W hSw; go_simp; try with_reducible rfl)
        try simp only [Act.put, List.setIfInBounds_toArray, List.set_cons_zero, List.set_cons_succ]
        refine takeH (i := 1) (d := some 117) (v := ?va1) rfl rfl (by kernel_rfl) (by kernel_rfl) (by kernel_rfl) (fun _ _ _ h => h) (Or.inl ⟨by rfl, ?ya1⟩) (by assumption) ?ra1
        case ya1 => (intro W hSw; go_simp; try with_reducible rfl)
        try simp only [Act.put, List.setIfInBounds_toArray, List.set_cons_zero, List.set_cons_succ]
        refine takeH (i := 2) (d := some 118) (v := ?va2) rfl rfl (by kernel_rfl) (by kernel_rfl) (by kernel_rfl) (fun _ _ _ h => h) (Or.inl ⟨by rfl, ?ya2⟩) (by assumption) ?ra2
        case ya2 => (intro W hSw; go_simp; try with_reducible rfl)
        try simp only [Act.put, List.setIfInBounds_toArray, List.set_cons_zero, List.set_cons_succ]
        refine takeH (i := 3) (d := some 119) (v := ?va3) rfl rfl (by kernel_rfl) (by kernel_rfl) (by kernel_rfl) (fun _ _ _ h => h) (Or.inl ⟨by rfl, ?ya3⟩) (by assumption) ?ra3
        case ya3 => (intro W hSw; go_simp; try with_reducible rfl)
        try simp only [Act.put, List.setIfInBounds_toArray, List.set_cons_zero, List.set_cons_succ]
        refine takeH (i := 5) (d := some 121) (v := ?va5) rfl rfl (by kernel_rfl) (by kernel_rfl) (by kernel_rfl) (fun _ _ _ h => h) (Or.inl ⟨by rfl, ?ya5⟩) (by assumption) ?ra5
        case ya5 => (intro W hSw; go_simp; try with_reducible rfl)
        try simp only [Act.put, List.setIfInBounds_toArray, List.set_cons_zero, List.set_cons_succ]
        refine takeH (i := 6) (d := some 122) (v := ?va6) rfl rfl (by kernel_rfl) (by kernel_rfl) (by kernel_rfl) (fun _ _ _ h => h) (Or.inl ⟨by rfl, ?ya6⟩) (by assumption) ?ra6
        case ya6 => (intro W hSw; go_simp; try with_reducible rfl)
        try simp only [Act.put, List.setIfInBounds_toArray, List.set_cons_zero, List.set_cons_succ]
        refine takeH (i := 7) (d := some 123) (v := ?va7) rfl rfl (by kernel_rfl) (by kernel_rfl) (by kernel_rfl) (fun _ _ _ h => h) (Or.inl ⟨by rfl, ?ya7⟩) (by assumption) ?ra7
        case ya7 => (intro W hSw; go_simp; try with_reducible rfl)
        try simp only [Act.put, List.setIfInBounds_toArray, List.set_cons_zero, List.set_cons_succ]
        refine wpAnyH_ready (rs := [4]) (by kernel_rfl) (by simp) ?_
        refine AllReadyH.cons rfl (fun K hK => ?_) AllReadyH.nil
        refine stepCopyK skSliK rfl _ _ rfl rfl wr (ky_drew wr) (.slice (some ⟨tg, 0, none⟩) k1 tc) (vs.take k1) k1 L1.out rfl rfl S1.out L2.out ?_
        intro p5 c5 w5 o5 b5 _
        have O5 := Lib.hid o5
        have B5 := Lib.hid b5
        clear o5 b5
        refine hK.out _ _ trivial (fun hHeld => ?_)
        clear hK K
        try simp only [Act.put, List.setIfInBounds_toArray, List.set_cons_zero, List.set_cons_succ]
        refine wpAnyH_ready (rs := [8]) (by kernel_rfl) (by simp) ?_
        refine AllReadyH.cons rfl (fun K hK => ?_) AllReadyH.nil
        refine stepAppOwnK skSliK rfl _ _ rfl rfl wr.heap.size B5.out.size _ _ (vs.take k1) (vs.drop k) (k1 + d) L3.out rfl rfl O5.out ?hsrca L4.out ?_
        case hsrca => first | exact RowK.Src.keeps skSliK S2.out B5.out | exact RowK.Src.keeps skSliK S3.out B5.out
        intro p6 c6 w6 o6 b6
        have O6 := Lib.hid o6
        have hO5 : skSliK.Own wr.heap.size w5 (.slice p5 (vs.take k1).length c5) (vs.take k1) := by rw [L1.out]; exact O5.out
        have B6 : Hid (Keeps wr w6) := Lib.hid (sk_mono B5.out b6 (fun j hj => (skSliK.own_lt hO5 j (by rw [L1.out]; exact hj)).1))
        clear hO5
        clear o6 b6
        refine hK.out _ _ trivial (fun hHeld => ?_)
        clear hK K
        try simp only [Act.put, List.setIfInBounds_toArray, List.set_cons_zero, List.set_cons_succ]
        refine wpAnyH_ready (rs := [9]) (by kernel_rfl) (by simp) ?_
        refine AllReadyH.cons rfl (fun K hK => ?_) AllReadyH.nil
        go_simp
        refine hK.out _ _ trivial (fun hHeld => ?_)
        clear hK K
        try simp only [Act.put, List.setIfInBounds_toArray, List.set_cons_zero, List.set_cons_succ]
        refine wpAnyH_done (by kernel_rfl) ?_ _
        clear hHeld
        have K6 := Lib.hid (KWW.out.trans B6.out)
        clear S1 S2 S3 O5 B5
        have RB : Hid (RowsAt w6 (.slice p6 (k1 + d) c6) (T.take k1 ++ T.drop k)) := Lib.hid (tbl_rows TBO.out B6.out O6.out TW.out.1 (Nat.le_trans TW.out.2 (by decide)) fun j G hG => twice_at TBO.out.2.1 hG)
        have FB := Lib.hid (SmallT.fits (small_twice (a := k1) (b := k) SM.out) HBB.out TW.out.2)
        obtain ⟨T6, hT6⟩ : ∃ X, T.take k1 ++ T.drop k = X := ⟨_, rfl⟩
        rw [hT6] at RB FB
        clear hT6 L1 L2 L3 L4 TW O6 B6 u1 g1 g2 g3 g4 g5 g6 hk2
        obtain ⟨X, hX⟩ : ∃ X : ByteArray, ⟨(Csv.prRows T6).toArray⟩ = X := ⟨_, rfl⟩
        have CX := Lib.hid (rprint_any _ _ w6 RB.out FB.out.2)
        rw [hX] at CX
        have HZ : Hid (X.size ≤ maxLen) := Lib.hid (by rw [← hX, size_mk]; exact Nat.le_trans FB.out.1 (by unfold maxLen; decide))
        clear hX
        go_wp2_with fail
        refine CX.out.mono ?_
        rintro e w7 ⟨rfl, rfl⟩
        clear CX
        cases hP : parseM X.data.toList with
        | ok r =>
          obtain ⟨q, L⟩ := r
          have C1 := Lib.hid (mfYes X q L w6 (HP.out _ K6.out) HZ.out hP)
          have C2 : Hid (∀ W, Calls Tryd.prog 14 #[.string X] W fun e w' => ∃ v, e = .returned (.tuple #[stV 2 q v, .agg #[.int .i64 0, .int .i64 0, .int .i64 0]]) ∧ RowsIn w' v L ∧ Keeps W w') := Lib.hid fun W => mfrYes X q L W HZ.out hP
          unfold stV at C1 C2
          obtain ⟨NP, hNP⟩ : ∃ N, L.length = N := ⟨_, rfl⟩
          have HNP := Lib.hid hNP
          clear hP hNP
          go_wp2_with fail
          refine C1.out.mono ?_
          rintro e w1 ⟨v1, rfl, i1, k1⟩
          have I1 : Hid (∀ W, Keeps w1 W → RowsIn W v1 L) := Lib.hid fun W k => i1.keeps k
          obtain ⟨p1, c1, e1, -⟩ := i1
          rw [HNP.out] at e1
          subst e1
          have K1 := Lib.hid k1
          clear k1 C1
          go_upto_region 28 with (fail)
          have T1 := Lib.hid (mfTwo2 w1 (.int .i64 2) (.int .i64 q) (.slice p1 NP c1) (.int .i64 0) (.int .i64 0) (.int .i64 0))
          obtain ⟨U1, hU⟩ : ∃ U, (w1.alloc (.cells #[.int .i64 2, .int .i64 q, .slice p1 NP c1] tSt)).alloc (.cells #[.int .i64 0, .int .i64 0, .int .i64 0] skRj) = U := ⟨_, rfl⟩
          rw [hU] at T1 ⊢
          clear hU
          go_wp2_with fail
          refine (C2.out _).mono ?_
          rintro e w2 ⟨v2, rfl, i2, k2⟩
          have I2 : Hid (∀ W, Keeps w2 W → RowsIn W v2 L) := Lib.hid fun W k => i2.keeps k
          obtain ⟨p2, c2, e2, -⟩ := i2
          rw [HNP.out] at e2
          subst e2
          have K2 := Lib.hid k2
          clear k2 C2
          go_upto_region 29 with (fail)
          have T2 := Lib.hid (mfTwo2 w2 (.int .i64 2) (.int .i64 q) (.slice p2 NP c2) (.int .i64 0) (.int .i64 0) (.int .i64 0))
          obtain ⟨U2, hU⟩ : ∃ U, (w2.alloc (.cells #[.int .i64 2, .int .i64 q, .slice p2 NP c2] tSt)).alloc (.cells #[.int .i64 0, .int .i64 0, .int .i64 0] skRj) = U := ⟨_, rfl⟩
          rw [hU] at T2 ⊢
          clear hU
          obtain ⟨⟨⟨b0, b1, b2⟩, y0, y1, y2⟩, ku2⟩ := T2.out U2 (Keeps.refl _)
          obtain ⟨⟨⟨a0, a1, a2⟩, x0, x1, x2⟩, ku1⟩ := T1.out U2 (Keeps.trans K2.out ku2)
          have CM : Hid (Calls Tryd.prog 12 #[stV 2 q (.slice p1 NP c1), stV 2 q (.slice p2 NP c2)] U2 fun e w' => e = .returned (.bool true) ∧ Keeps U2 w') := Lib.hid (by
            have := rr_same 2 q 2 q (.slice p1 NP c1) (.slice p2 NP c2) L L U2 (I1.out U2 ku1) (I2.out U2 ku2)
            rwa [mf_same_self] at this)
          unfold stV at CM
          have KU2 := Lib.hid ku2
          clear ku1 ku2
          go_wp2_with fail
          refine CM.out.mono ?_
          rintro e w3 ⟨rfl, k3⟩
          have K3 := Lib.hid k3
          clear k3 CM a0 a1 a2 b0 b1 b2 x0 x1 x2 y0 y1 y2
          obtain ⟨⟨_, y0, y1, y2⟩, ku2⟩ := T2.out w3 K3.out
          obtain ⟨⟨_, x0, x1, x2⟩, ku1⟩ := T1.out w3 (Keeps.trans K2.out ku2)
          have K4 := Lib.hid (Keeps.trans K6.out (Keeps.trans K1.out ku1))
          clear ku1 ku2
          go_wp2_with fail
          refine (HS.out _ K4.out).mono ?_
          rintro e w5 ⟨rfl, k5⟩
          go_wp2
          go_ret
          exact ⟨rfl, Keeps.trans K4.out k5⟩
        | error r =>
          obtain ⟨a, b, c⟩ := r
          have C1 := Lib.hid (mfNo X a b c w6 (HP.out _ K6.out) HZ.out hP)
          have C2 : Hid (∀ W, Calls Tryd.prog 14 #[.string X] W fun e w' => e = .returned (.tuple #[stV 0 0 (.slice none 0 0), .agg #[.int .i64 (a : Int), .int .i64 (b : Int), .int .i64 c]]) ∧ Keeps W w') := Lib.hid fun W => mfrNo X a b c W HZ.out hP
          have CM : Hid (∀ W, Calls Tryd.prog 12 #[stV 0 0 (.slice none 0 0), stV 0 0 (.slice none 0 0)] W fun e w' => e = .returned (.bool true) ∧ Keeps W w') := Lib.hid fun W => mf_same_zero ▸ rr_same 0 0 0 0 _ _ [] [] W (rows_nil W) (rows_nil W)
          unfold stV at C1 C2 CM
          clear hP
          go_wp2_with fail
          refine C1.out.mono ?_
          rintro e w1 ⟨rfl, k1⟩
          have K1 := Lib.hid k1
          clear k1 C1
          go_upto_region 28 with (fail)
          have T1 := Lib.hid (mfTwo2 w1 (.int .i64 0) (.int .i64 0) (.slice none 0 0) (.int .i64 (a : Int)) (.int .i64 (b : Int)) (.int .i64 c))
          obtain ⟨U1, hU⟩ : ∃ U, (w1.alloc (.cells #[.int .i64 0, .int .i64 0, .slice none 0 0] tSt)).alloc (.cells #[.int .i64 (a : Int), .int .i64 (b : Int), .int .i64 c] skRj) = U := ⟨_, rfl⟩
          rw [hU] at T1 ⊢
          clear hU
          go_wp2_with fail
          refine (C2.out _).mono ?_
          rintro e w2 ⟨rfl, k2⟩
          have K2 := Lib.hid k2
          clear k2 C2
          go_upto_region 29 with (fail)
          have T2 := Lib.hid (mfTwo2 w2 (.int .i64 0) (.int .i64 0) (.slice none 0 0) (.int .i64 (a : Int)) (.int .i64 (b : Int)) (.int .i64 c))
          obtain ⟨U2, hU⟩ : ∃ U, (w2.alloc (.cells #[.int .i64 0, .int .i64 0, .slice none 0 0] tSt)).alloc (.cells #[.int .i64 (a : Int), .int .i64 (b : Int), .int .i64 c] skRj) = U := ⟨_, rfl⟩
          rw [hU] at T2 ⊢
          clear hU
          obtain ⟨⟨⟨b0, b1, b2⟩, y0, y1, y2⟩, ku2⟩ := T2.out U2 (Keeps.refl _)
          obtain ⟨⟨⟨a0, a1, a2⟩, x0, x1, x2⟩, ku1⟩ := T1.out U2 (Keeps.trans K2.out ku2)
          clear ku1 ku2
          go_wp2_with fail
          refine (CM.out _).mono ?_
          rintro e w3 ⟨rfl, k3⟩
          have K3 := Lib.hid k3
          clear k3 CM a0 a1 a2 b0 b1 b2 x0 x1 x2 y0 y1 y2
          obtain ⟨⟨_, y0, y1, y2⟩, ku2⟩ := T2.out w3 K3.out
          obtain ⟨⟨_, x0, x1, x2⟩, ku1⟩ := T1.out w3 (Keeps.trans K2.out ku2)
          have K4 := Lib.hid (Keeps.trans K6.out (Keeps.trans K1.out ku1))
          clear ku1 ku2
          go_wp2_with fail
          refine (HS.out _ K4.out).mono ?_
          rintro e w5 ⟨rfl, k5⟩
          go_wp2
          go_ret
          exact ⟨rfl, Keeps.trans K4.out k5⟩
      · obtain ⟨m, hm⟩ : ∃ m : Nat, -n = (m : Int) := ⟨(-n).toNat, by have := HNN.out; as_aux_lemma => (omega)⟩
        obtain ⟨k, hk⟩ : ∃ k, m % M = k := ⟨_, rfl⟩
        have hkM : k < M := by rw [← hk]; exact Nat.mod_lt _ HM0
        have hk2 : (m : Int) % (M : Int) = (k : Int) := by rw [← hk]; first | exact (Int.natCast_emod _ _).symm | exact (Int.ofNat_emod _ _).symm
        have hn128 := HNN.out.1
        have hp0 : ¬ 0 < n := Int.not_lt.2 (Int.le_of_lt hn)
        have HKM := Lib.hid hkM
        have HVS : Hid (vs.length = M) := Lib.hid (TBO.out.2.1.trans HTL2.out)
        obtain ⟨k1, hk1⟩ : ∃ j, k + 1 = j := ⟨_, rfl⟩
        obtain ⟨d, hd1⟩ : ∃ j, M - k1 = j := ⟨_, rfl⟩
        obtain ⟨u1, g1, g2, g3, g5, l2, l3⟩ := less_nums hk1 hd1 hkM HMS2.out G2.out G3.out
        have S1 : Hid (skSliK.Src wr (.slice (some ⟨tg, 0, none⟩) k tc) (vs.take k)) := Lib.hid (sl_front TBO.out.1 (by rw [HVS.out]; exact Nat.le_of_lt hkM))
        have S2 : Hid (∀ e, skSliK.Src wr (.slice (some ⟨tg, k1, none⟩) (M - k1) e) (vs.drop k1)) := Lib.hid (fun e => by
          have := sl_back (m := k1) TBO.out.1 e
          rwa [HVS.out] at this)
        have L1 : Hid ((vs.take k).length = k) := Lib.hid (by rw [List.length_take, HVS.out, Nat.min_eq_left (Nat.le_of_lt hkM)])
        have L2 : Hid ((vs.take k).length ≤ 100000) := Lib.hid (by rw [L1.out]; exact Nat.le_trans (Nat.le_of_lt hkM) (Nat.le_trans HMS2.out (by decide)))
        have L3 : Hid ((vs.take k).length + (vs.drop k1).length = k + d) := Lib.hid (by rw [L1.out, List.length_drop, HVS.out, hd1])
        have L4 : Hid ((vs.take k).length + (vs.drop k1).length ≤ 100000) := Lib.hid (by rw [L3.out]; exact l2)
        have TW : Hid ((vs.take k ++ vs.drop k1).length = (T.take k ++ T.drop k1).length ∧ (T.take k ++ T.drop k1).length ≤ 63) := Lib.hid (by
          have a1 : (T.take k ++ T.drop k1).length = k + d := by rw [List.length_append, List.length_take, List.length_drop, HTL2.out, Nat.min_eq_left (Nat.le_of_lt hkM), hd1]
          refine ⟨by rw [List.length_append, L3.out, a1], by rw [a1]; exact l3⟩)
        have HD : Hid (tc = k1 → vs.drop k1 = []) := Lib.hid (fun e => List.drop_eq_nil_of_le (by rw [HVS.out, ← e]; exact G2.out))
        clear hk hk1 hd1 l2 l3
        by_cases hE : tc = k1
        · have HD2 := Lib.hid (HD.out hE)
          subst hE
          have HMT : Hid (M - tc = 0) := Lib.hid (Nat.sub_eq_zero_of_le G2.out)
          clear g3
          go_upto_region 25 with (fail)
          refine wp_region_held_drew (S := fun W => True) (by kernel_rfl) trivial (fun hHeld => ?_)
          refine takeH (i := 0) (d := some 132) (v := ?vb0) rfl rfl (by kernel_rfl) (by kernel_rfl) (by kernel_rfl) (fun _ _ _ h => h) (Or.inl ⟨by rfl, ?yb0⟩) (by assumption) ?rb0
          case yb0 => (intro W hSw; go_simp; try with_reducible rfl)
          try simp only [Act.put, List.setIfInBounds_toArray, List.set_cons_zero, List.set_cons_succ]
          refine takeH (i := 1) (d := some 133) (v := ?vb1) rfl rfl (by kernel_rfl) (by kernel_rfl) (by kernel_rfl) (fun _ _ _ h => h) (Or.inl ⟨by rfl, ?yb1⟩) (by assumption) ?rb1
          case yb1 => (intro W hSw; go_simp; try with_reducible rfl)
          try simp only [Act.put, List.setIfInBounds_toArray, List.set_cons_zero, List.set_cons_succ]
          refine takeH (i := 2) (d := some 134) (v := ?vb2) rfl rfl (by kernel_rfl) (by kernel_rfl) (by kernel_rfl) (fun _ _ _ h => h) (Or.inl ⟨by rfl, ?yb2⟩) (by assumption) ?rb2
          case yb2 => (intro W hSw; go_simp; try with_reducible rfl)
          try simp only [Act.put, List.setIfInBounds_toArray, List.set_cons_zero, List.set_cons_succ]
          refine takeH (i := 4) (d := some 136) (v := ?vb4) rfl rfl (by kernel_rfl) (by kernel_rfl) (by kernel_rfl) (fun _ _ _ h => h) (Or.inl ⟨by rfl, ?yb4⟩) (by assumption) ?rb4
          case yb4 => (intro W hSw; go_simp; try with_reducible rfl)
          try simp only [Act.put, List.setIfInBounds_toArray, List.set_cons_zero, List.set_cons_succ]
          refine takeH (i := 5) (d := some 137) (v := ?vb5) rfl rfl (by kernel_rfl) (by kernel_rfl) (by kernel_rfl) (fun _ _ _ h => h) (Or.inl ⟨by rfl, ?yb5⟩) (by assumption) ?rb5
          case yb5 => (intro W hSw; go_simp; try with_reducible rfl)
          try simp only [Act.put, List.setIfInBounds_toArray, List.set_cons_zero, List.set_cons_succ]
          refine takeH (i := 6) (d := some 138) (v := ?vb6) rfl rfl (by kernel_rfl) (by kernel_rfl) (by kernel_rfl) (fun _ _ _ h => h) (Or.inl ⟨by rfl, ?yb6⟩) (by assumption) ?rb6
          case yb6 => (intro W hSw; go_simp; try with_reducible rfl)
          try simp only [Act.put, List.setIfInBounds_toArray, List.set_cons_zero, List.set_cons_succ]
          refine takeH (i := 7) (d := some 139) (v := ?vb7) rfl rfl (by kernel_rfl) (by kernel_rfl) (by kernel_rfl) (fun _ _ _ h => h) (Or.inl ⟨by rfl, ?yb7⟩) (by assumption) ?rb7
          case yb7 => (intro W hSw; go_simp; try with_reducible rfl)
          try simp only [Act.put, List.setIfInBounds_toArray, List.set_cons_zero, List.set_cons_succ]
          refine wpAnyH_ready (rs := [3]) (by kernel_rfl) (by simp) ?_
          refine AllReadyH.cons rfl (fun K hK => ?_) AllReadyH.nil
          refine stepCopyK skSliK rfl _ _ rfl rfl wr (ky_drew wr) (.slice (some ⟨tg, 0, none⟩) k tc) (vs.take k) k L1.out rfl rfl S1.out L2.out ?_
          intro p5 c5 w5 o5 b5 _
          have O5 := Lib.hid o5
          have B5 := Lib.hid b5
          clear o5 b5
          refine hK.out _ _ trivial (fun hHeld => ?_)
          clear hK K
          try simp only [Act.put, List.setIfInBounds_toArray, List.set_cons_zero, List.set_cons_succ]
          refine wpAnyH_ready (rs := [8]) (by kernel_rfl) (by simp) ?_
          refine AllReadyH.cons rfl (fun K hK => ?_) AllReadyH.nil
          refine stepAppOwnK skSliK rfl _ _ rfl rfl wr.heap.size B5.out.size _ _ (vs.take k) (vs.drop tc) (k + d) L3.out rfl rfl O5.out ?hsrcb L4.out ?_
          case hsrcb => (go_simp; rw [HD2.out, HMT.out]; exact sl_nil_any _ _ _)
          intro p6 c6 w6 o6 b6
          have O6 := Lib.hid o6
          have hO5 : skSliK.Own wr.heap.size w5 (.slice p5 (vs.take k).length c5) (vs.take k) := by rw [L1.out]; exact O5.out
          have B6 : Hid (Keeps wr w6) := Lib.hid (sk_mono B5.out b6 (fun j hj => (skSliK.own_lt hO5 j (by rw [L1.out]; exact hj)).1))
          clear hO5
          clear o6 b6
          refine hK.out _ _ trivial (fun hHeld => ?_)
          clear hK K
          try simp only [Act.put, List.setIfInBounds_toArray, List.set_cons_zero, List.set_cons_succ]
          refine wpAnyH_ready (rs := [9]) (by kernel_rfl) (by simp) ?_
          refine AllReadyH.cons rfl (fun K hK => ?_) AllReadyH.nil
          go_simp
          refine hK.out _ _ trivial (fun hHeld => ?_)
          clear hK K
          try simp only [Act.put, List.setIfInBounds_toArray, List.set_cons_zero, List.set_cons_succ]
          refine wpAnyH_done (by kernel_rfl) ?_ _
          clear hHeld
          have K6 := Lib.hid (KWW.out.trans B6.out)
          clear S1 S2 O5 B5
          have RB : Hid (RowsAt w6 (.slice p6 (k + d) c6) (T.take k ++ T.drop tc)) := Lib.hid (tbl_rows TBO.out B6.out O6.out TW.out.1 (Nat.le_trans TW.out.2 (by decide)) fun j G hG => less_at TBO.out.2.1 hG)
          have FB := Lib.hid (SmallT.fits (small_twice (a := k) (b := tc) SM.out) HBB.out TW.out.2)
          obtain ⟨T6, hT6⟩ : ∃ X, T.take k ++ T.drop tc = X := ⟨_, rfl⟩
          rw [hT6] at RB FB
          clear hT6 L1 L2 L3 L4 TW O6 B6 u1 g1 g2 g5 hk2 HD
          obtain ⟨X, hX⟩ : ∃ X : ByteArray, ⟨(Csv.prRows T6).toArray⟩ = X := ⟨_, rfl⟩
          have CX := Lib.hid (rprint_any _ _ w6 RB.out FB.out.2)
          rw [hX] at CX
          have HZ : Hid (X.size ≤ maxLen) := Lib.hid (by rw [← hX, size_mk]; exact Nat.le_trans FB.out.1 (by unfold maxLen; decide))
          clear hX
          go_wp2_with fail
          refine CX.out.mono ?_
          rintro e w7 ⟨rfl, rfl⟩
          clear CX
          cases hP : parseM X.data.toList with
          | ok r =>
            obtain ⟨q, L⟩ := r
            have C1 := Lib.hid (mfYes X q L w6 (HP.out _ K6.out) HZ.out hP)
            have C2 : Hid (∀ W, Calls Tryd.prog 14 #[.string X] W fun e w' => ∃ v, e = .returned (.tuple #[stV 2 q v, .agg #[.int .i64 0, .int .i64 0, .int .i64 0]]) ∧ RowsIn w' v L ∧ Keeps W w') := Lib.hid fun W => mfrYes X q L W HZ.out hP
            unfold stV at C1 C2
            obtain ⟨NP, hNP⟩ : ∃ N, L.length = N := ⟨_, rfl⟩
            have HNP := Lib.hid hNP
            clear hP hNP
            go_wp2_with fail
            refine C1.out.mono ?_
            rintro e w1 ⟨v1, rfl, i1, k1⟩
            have I1 : Hid (∀ W, Keeps w1 W → RowsIn W v1 L) := Lib.hid fun W k => i1.keeps k
            obtain ⟨p1, c1, e1, -⟩ := i1
            rw [HNP.out] at e1
            subst e1
            have K1 := Lib.hid k1
            clear k1 C1
            go_upto_region 28 with (fail)
            have T1 := Lib.hid (mfTwo2 w1 (.int .i64 2) (.int .i64 q) (.slice p1 NP c1) (.int .i64 0) (.int .i64 0) (.int .i64 0))
            obtain ⟨U1, hU⟩ : ∃ U, (w1.alloc (.cells #[.int .i64 2, .int .i64 q, .slice p1 NP c1] tSt)).alloc (.cells #[.int .i64 0, .int .i64 0, .int .i64 0] skRj) = U := ⟨_, rfl⟩
            rw [hU] at T1 ⊢
            clear hU
            go_wp2_with fail
            refine (C2.out _).mono ?_
            rintro e w2 ⟨v2, rfl, i2, k2⟩
            have I2 : Hid (∀ W, Keeps w2 W → RowsIn W v2 L) := Lib.hid fun W k => i2.keeps k
            obtain ⟨p2, c2, e2, -⟩ := i2
            rw [HNP.out] at e2
            subst e2
            have K2 := Lib.hid k2
            clear k2 C2
            go_upto_region 29 with (fail)
            have T2 := Lib.hid (mfTwo2 w2 (.int .i64 2) (.int .i64 q) (.slice p2 NP c2) (.int .i64 0) (.int .i64 0) (.int .i64 0))
            obtain ⟨U2, hU⟩ : ∃ U, (w2.alloc (.cells #[.int .i64 2, .int .i64 q, .slice p2 NP c2] tSt)).alloc (.cells #[.int .i64 0, .int .i64 0, .int .i64 0] skRj) = U := ⟨_, rfl⟩
            rw [hU] at T2 ⊢
            clear hU
            obtain ⟨⟨⟨b0, b1, b2⟩, y0, y1, y2⟩, ku2⟩ := T2.out U2 (Keeps.refl _)
            obtain ⟨⟨⟨a0, a1, a2⟩, x0, x1, x2⟩, ku1⟩ := T1.out U2 (Keeps.trans K2.out ku2)
            have CM : Hid (Calls Tryd.prog 12 #[stV 2 q (.slice p1 NP c1), stV 2 q (.slice p2 NP c2)] U2 fun e w' => e = .returned (.bool true) ∧ Keeps U2 w') := Lib.hid (by
              have := rr_same 2 q 2 q (.slice p1 NP c1) (.slice p2 NP c2) L L U2 (I1.out U2 ku1) (I2.out U2 ku2)
              rwa [mf_same_self] at this)
            unfold stV at CM
            have KU2 := Lib.hid ku2
            clear ku1 ku2
            go_wp2_with fail
            refine CM.out.mono ?_
            rintro e w3 ⟨rfl, k3⟩
            have K3 := Lib.hid k3
            clear k3 CM a0 a1 a2 b0 b1 b2 x0 x1 x2 y0 y1 y2
            obtain ⟨⟨_, y0, y1, y2⟩, ku2⟩ := T2.out w3 K3.out
            obtain ⟨⟨_, x0, x1, x2⟩, ku1⟩ := T1.out w3 (Keeps.trans K2.out ku2)
            have K4 := Lib.hid (Keeps.trans K6.out (Keeps.trans K1.out ku1))
            clear ku1 ku2
            go_wp2_with fail
            refine (HS.out _ K4.out).mono ?_
            rintro e w5 ⟨rfl, k5⟩
            go_wp2
            go_ret
            exact ⟨rfl, Keeps.trans K4.out k5⟩
          | error r =>
            obtain ⟨a, b, c⟩ := r
            have C1 := Lib.hid (mfNo X a b c w6 (HP.out _ K6.out) HZ.out hP)
            have C2 : Hid (∀ W, Calls Tryd.prog 14 #[.string X] W fun e w' => e = .returned (.tuple #[stV 0 0 (.slice none 0 0), .agg #[.int .i64 (a : Int), .int .i64 (b : Int), .int .i64 c]]) ∧ Keeps W w') := Lib.hid fun W => mfrNo X a b c W HZ.out hP
            have CM : Hid (∀ W, Calls Tryd.prog 12 #[stV 0 0 (.slice none 0 0), stV 0 0 (.slice none 0 0)] W fun e w' => e = .returned (.bool true) ∧ Keeps W w') := Lib.hid fun W => mf_same_zero ▸ rr_same 0 0 0 0 _ _ [] [] W (rows_nil W) (rows_nil W)
            unfold stV at C1 C2 CM
            clear hP
            go_wp2_with fail
            refine C1.out.mono ?_
            rintro e w1 ⟨rfl, k1⟩
            have K1 := Lib.hid k1
            clear k1 C1
            go_upto_region 28 with (fail)
            have T1 := Lib.hid (mfTwo2 w1 (.int .i64 0) (.int .i64 0) (.slice none 0 0) (.int .i64 (a : Int)) (.int .i64 (b : Int)) (.int .i64 c))
            obtain ⟨U1, hU⟩ : ∃ U, (w1.alloc (.cells #[.int .i64 0, .int .i64 0, .slice none 0 0] tSt)).alloc (.cells #[.int .i64 (a : Int), .int .i64 (b : Int), .int .i64 c] skRj) = U := ⟨_, rfl⟩
            rw [hU] at T1 ⊢
            clear hU
            go_wp2_with fail
            refine (C2.out _).mono ?_
            rintro e w2 ⟨rfl, k2⟩
            have K2 := Lib.hid k2
            clear k2 C2
            go_upto_region 29 with (fail)
            have T2 := Lib.hid (mfTwo2 w2 (.int .i64 0) (.int .i64 0) (.slice none 0 0) (.int .i64 (a : Int)) (.int .i64 (b : Int)) (.int .i64 c))
            obtain ⟨U2, hU⟩ : ∃ U, (w2.alloc (.cells #[.int .i64 0, .int .i64 0, .slice none 0 0] tSt)).alloc (.cells #[.int .i64 (a : Int), .int .i64 (b : Int), .int .i64 c] skRj) = U := ⟨_, rfl⟩
            rw [hU] at T2 ⊢
            clear hU
            obtain ⟨⟨⟨b0, b1, b2⟩, y0, y1, y2⟩, ku2⟩ := T2.out U2 (Keeps.refl _)
            obtain ⟨⟨⟨a0, a1, a2⟩, x0, x1, x2⟩, ku1⟩ := T1.out U2 (Keeps.trans K2.out ku2)
            clear ku1 ku2
            go_wp2_with fail
            refine (CM.out _).mono ?_
            rintro e w3 ⟨rfl, k3⟩
            have K3 := Lib.hid k3
            clear k3 CM a0 a1 a2 b0 b1 b2 x0 x1 x2 y0 y1 y2
            obtain ⟨⟨_, y0, y1, y2⟩, ku2⟩ := T2.out w3 K3.out
            obtain ⟨⟨_, x0, x1, x2⟩, ku1⟩ := T1.out w3 (Keeps.trans K2.out ku2)
            have K4 := Lib.hid (Keeps.trans K6.out (Keeps.trans K1.out ku1))
            clear ku1 ku2
            go_wp2_with fail
            refine (HS.out _ K4.out).mono ?_
            rintro e w5 ⟨rfl, k5⟩
            go_wp2
            go_ret
            exact ⟨rfl, Keeps.trans K4.out k5⟩
        · have hE2 : k1 < tc := Nat.lt_of_le_of_ne g3 (fun e => hE e.symm)
          go_upto_region 25 with (fail)
          refine wp_region_held_drew (S := fun W => True) (by kernel_rfl) trivial (fun hHeld => ?_)
          refine takeH (i := 0) (d := some 132) (v := ?vc0) rfl rfl (by kernel_rfl) (by kernel_rfl) (by kernel_rfl) (fun _ _ _ h => h) (Or.inl ⟨by rfl, ?yc0⟩) (by assumption) ?rc0
          case yc0 => (intro W hSw; go_simp; try with_reducible rfl)
          try simp only [Act.put, List.setIfInBounds_toArray, List.set_cons_zero, List.set_cons_succ]
          refine takeH (i := 1) (d := some 133) (v := ?vc1) rfl rfl (by kernel_rfl) (by kernel_rfl) (by kernel_rfl) (fun _ _ _ h => h) (Or.inl ⟨by rfl, ?yc1⟩) (by assumption) ?rc1
          case yc1 => (intro W hSw; go_simp; try with_reducible rfl)
          try simp only [Act.put, List.setIfInBounds_toArray, List.set_cons_zero, List.set_cons_succ]
          refine takeH (i := 2) (d := some 134) (v := ?vc2) rfl rfl (by kernel_rfl) (by kernel_rfl) (by kernel_rfl) (fun _ _ _ h => h) (Or.inl ⟨by rfl, ?yc2⟩) (by assumption) ?rc2
          case yc2 => (intro W hSw; go_simp; try with_reducible rfl)
          try simp only [Act.put, List.setIfInBounds_toArray, List.set_cons_zero, List.set_cons_succ]
          refine takeH (i := 4) (d := some 136) (v := ?vc4) rfl rfl (by kernel_rfl) (by kernel_rfl) (by kernel_rfl) (fun _ _ _ h => h) (Or.inl ⟨by rfl, ?yc4⟩) (by assumption) ?rc4
          case yc4 => (intro W hSw; go_simp; try with_reducible rfl)
          try simp only [Act.put, List.setIfInBounds_toArray, List.set_cons_zero, List.set_cons_succ]
          refine takeH (i := 5) (d := some 137) (v := ?vc5) rfl rfl (by kernel_rfl) (by kernel_rfl) (by kernel_rfl) (fun _ _ _ h => h) (Or.inl ⟨by rfl, ?yc5⟩) (by assumption) ?rc5
          case yc5 => (intro W hSw; go_simp; try with_reducible rfl)
          try simp only [Act.put, List.setIfInBounds_toArray, List.set_cons_zero, List.set_cons_succ]
          refine takeH (i := 6) (d := some 138) (v := ?vc6) rfl rfl (by kernel_rfl) (by kernel_rfl) (by kernel_rfl) (fun _ _ _ h => h) (Or.inl ⟨by rfl, ?yc6⟩) (by assumption) ?rc6
          case yc6 => (intro W hSw; go_simp; try with_reducible rfl)
          try simp only [Act.put, List.setIfInBounds_toArray, List.set_cons_zero, List.set_cons_succ]
          refine takeH (i := 7) (d := some 139) (v := ?vc7) rfl rfl (by kernel_rfl) (by kernel_rfl) (by kernel_rfl) (fun _ _ _ h => h) (Or.inl ⟨by rfl, ?yc7⟩) (by assumption) ?rc7
          case yc7 => (intro W hSw; go_simp; try with_reducible rfl)
          try simp only [Act.put, List.setIfInBounds_toArray, List.set_cons_zero, List.set_cons_succ]
          refine wpAnyH_ready (rs := [3]) (by kernel_rfl) (by simp) ?_
          refine AllReadyH.cons rfl (fun K hK => ?_) AllReadyH.nil
          refine stepCopyK skSliK rfl _ _ rfl rfl wr (ky_drew wr) (.slice (some ⟨tg, 0, none⟩) k tc) (vs.take k) k L1.out rfl rfl S1.out L2.out ?_
          intro p5 c5 w5 o5 b5 _
          have O5 := Lib.hid o5
          have B5 := Lib.hid b5
          clear o5 b5
          refine hK.out _ _ trivial (fun hHeld => ?_)
          clear hK K
          try simp only [Act.put, List.setIfInBounds_toArray, List.set_cons_zero, List.set_cons_succ]
          refine wpAnyH_ready (rs := [8]) (by kernel_rfl) (by simp) ?_
          refine AllReadyH.cons rfl (fun K hK => ?_) AllReadyH.nil
          refine stepAppOwnK skSliK rfl _ _ rfl rfl wr.heap.size B5.out.size _ _ (vs.take k) (vs.drop k1) (k + d) L3.out rfl rfl O5.out ?hsrcc L4.out ?_
          case hsrcc => exact RowK.Src.keeps skSliK (S2.out _) B5.out
          intro p6 c6 w6 o6 b6
          have O6 := Lib.hid o6
          have hO5 : skSliK.Own wr.heap.size w5 (.slice p5 (vs.take k).length c5) (vs.take k) := by rw [L1.out]; exact O5.out
          have B6 : Hid (Keeps wr w6) := Lib.hid (sk_mono B5.out b6 (fun j hj => (skSliK.own_lt hO5 j (by rw [L1.out]; exact hj)).1))
          clear hO5
          clear o6 b6
          refine hK.out _ _ trivial (fun hHeld => ?_)
          clear hK K
          try simp only [Act.put, List.setIfInBounds_toArray, List.set_cons_zero, List.set_cons_succ]
          refine wpAnyH_ready (rs := [9]) (by kernel_rfl) (by simp) ?_
          refine AllReadyH.cons rfl (fun K hK => ?_) AllReadyH.nil
          go_simp
          refine hK.out _ _ trivial (fun hHeld => ?_)
          clear hK K
          try simp only [Act.put, List.setIfInBounds_toArray, List.set_cons_zero, List.set_cons_succ]
          refine wpAnyH_done (by kernel_rfl) ?_ _
          clear hHeld
          have K6 := Lib.hid (KWW.out.trans B6.out)
          clear S1 S2 O5 B5
          have RB : Hid (RowsAt w6 (.slice p6 (k + d) c6) (T.take k ++ T.drop k1)) := Lib.hid (tbl_rows TBO.out B6.out O6.out TW.out.1 (Nat.le_trans TW.out.2 (by decide)) fun j G hG => less_at TBO.out.2.1 hG)
          have FB := Lib.hid (SmallT.fits (small_twice (a := k) (b := k1) SM.out) HBB.out TW.out.2)
          obtain ⟨T6, hT6⟩ : ∃ X, T.take k ++ T.drop k1 = X := ⟨_, rfl⟩
          rw [hT6] at RB FB
          clear hT6 L1 L2 L3 L4 TW O6 B6 u1 g1 g2 g3 g5 hk2 hE HD
          obtain ⟨X, hX⟩ : ∃ X : ByteArray, ⟨(Csv.prRows T6).toArray⟩ = X := ⟨_, rfl⟩
          have CX := Lib.hid (rprint_any _ _ w6 RB.out FB.out.2)
          rw [hX] at CX
          have HZ : Hid (X.size ≤ maxLen) := Lib.hid (by rw [← hX, size_mk]; exact Nat.le_trans FB.out.1 (by unfold maxLen; decide))
          clear hX
          go_wp2_with fail
          refine CX.out.mono ?_
          rintro e w7 ⟨rfl, rfl⟩
          clear CX
          cases hP : parseM X.data.toList with
          | ok r =>
            obtain ⟨q, L⟩ := r
            have C1 := Lib.hid (mfYes X q L w6 (HP.out _ K6.out) HZ.out hP)
            have C2 : Hid (∀ W, Calls Tryd.prog 14 #[.string X] W fun e w' => ∃ v, e = .returned (.tuple #[stV 2 q v, .agg #[.int .i64 0, .int .i64 0, .int .i64 0]]) ∧ RowsIn w' v L ∧ Keeps W w') := Lib.hid fun W => mfrYes X q L W HZ.out hP
            unfold stV at C1 C2
            obtain ⟨NP, hNP⟩ : ∃ N, L.length = N := ⟨_, rfl⟩
            have HNP := Lib.hid hNP
            clear hP hNP
            go_wp2_with fail
            refine C1.out.mono ?_
            rintro e w1 ⟨v1, rfl, i1, k1⟩
            have I1 : Hid (∀ W, Keeps w1 W → RowsIn W v1 L) := Lib.hid fun W k => i1.keeps k
            obtain ⟨p1, c1, e1, -⟩ := i1
            rw [HNP.out] at e1
            subst e1
            have K1 := Lib.hid k1
            clear k1 C1
            go_upto_region 28 with (fail)
            have T1 := Lib.hid (mfTwo2 w1 (.int .i64 2) (.int .i64 q) (.slice p1 NP c1) (.int .i64 0) (.int .i64 0) (.int .i64 0))
            obtain ⟨U1, hU⟩ : ∃ U, (w1.alloc (.cells #[.int .i64 2, .int .i64 q, .slice p1 NP c1] tSt)).alloc (.cells #[.int .i64 0, .int .i64 0, .int .i64 0] skRj) = U := ⟨_, rfl⟩
            rw [hU] at T1 ⊢
            clear hU
            go_wp2_with fail
            refine (C2.out _).mono ?_
            rintro e w2 ⟨v2, rfl, i2, k2⟩
            have I2 : Hid (∀ W, Keeps w2 W → RowsIn W v2 L) := Lib.hid fun W k => i2.keeps k
            obtain ⟨p2, c2, e2, -⟩ := i2
            rw [HNP.out] at e2
            subst e2
            have K2 := Lib.hid k2
            clear k2 C2
            go_upto_region 29 with (fail)
            have T2 := Lib.hid (mfTwo2 w2 (.int .i64 2) (.int .i64 q) (.slice p2 NP c2) (.int .i64 0) (.int .i64 0) (.int .i64 0))
            obtain ⟨U2, hU⟩ : ∃ U, (w2.alloc (.cells #[.int .i64 2, .int .i64 q, .slice p2 NP c2] tSt)).alloc (.cells #[.int .i64 0, .int .i64 0, .int .i64 0] skRj) = U := ⟨_, rfl⟩
            rw [hU] at T2 ⊢
            clear hU
            obtain ⟨⟨⟨b0, b1, b2⟩, y0, y1, y2⟩, ku2⟩ := T2.out U2 (Keeps.refl _)
            obtain ⟨⟨⟨a0, a1, a2⟩, x0, x1, x2⟩, ku1⟩ := T1.out U2 (Keeps.trans K2.out ku2)
            have CM : Hid (Calls Tryd.prog 12 #[stV 2 q (.slice p1 NP c1), stV 2 q (.slice p2 NP c2)] U2 fun e w' => e = .returned (.bool true) ∧ Keeps U2 w') := Lib.hid (by
              have := rr_same 2 q 2 q (.slice p1 NP c1) (.slice p2 NP c2) L L U2 (I1.out U2 ku1) (I2.out U2 ku2)
              rwa [mf_same_self] at this)
            unfold stV at CM
            have KU2 := Lib.hid ku2
            clear ku1 ku2
            go_wp2_with fail
            refine CM.out.mono ?_
            rintro e w3 ⟨rfl, k3⟩
            have K3 := Lib.hid k3
            clear k3 CM a0 a1 a2 b0 b1 b2 x0 x1 x2 y0 y1 y2
            obtain ⟨⟨_, y0, y1, y2⟩, ku2⟩ := T2.out w3 K3.out
            obtain ⟨⟨_, x0, x1, x2⟩, ku1⟩ := T1.out w3 (Keeps.trans K2.out ku2)
            have K4 := Lib.hid (Keeps.trans K6.out (Keeps.trans K1.out ku1))
            clear ku1 ku2
            go_wp2_with fail
            refine (HS.out _ K4.out).mono ?_
            rintro e w5 ⟨rfl, k5⟩
            go_wp2
            go_ret
            exact ⟨rfl, Keeps.trans K4.out k5⟩
          | error r =>
            obtain ⟨a, b, c⟩ := r
            have C1 := Lib.hid (mfNo X a b c w6 (HP.out _ K6.out) HZ.out hP)
            have C2 : Hid (∀ W, Calls Tryd.prog 14 #[.string X] W fun e w' => e = .returned (.tuple #[stV 0 0 (.slice none 0 0), .agg #[.int .i64 (a : Int), .int .i64 (b : Int), .int .i64 c]]) ∧ Keeps W w') := Lib.hid fun W => mfrNo X a b c W HZ.out hP
            have CM : Hid (∀ W, Calls Tryd.prog 12 #[stV 0 0 (.slice none 0 0), stV 0 0 (.slice none 0 0)] W fun e w' => e = .returned (.bool true) ∧ Keeps W w') := Lib.hid fun W => mf_same_zero ▸ rr_same 0 0 0 0 _ _ [] [] W (rows_nil W) (rows_nil W)
            unfold stV at C1 C2 CM
            clear hP
            go_wp2_with fail
            refine C1.out.mono ?_
            rintro e w1 ⟨rfl, k1⟩
            have K1 := Lib.hid k1
            clear k1 C1
            go_upto_region 28 with (fail)
            have T1 := Lib.hid (mfTwo2 w1 (.int .i64 0) (.int .i64 0) (.slice none 0 0) (.int .i64 (a : Int)) (.int .i64 (b : Int)) (.int .i64 c))
            obtain ⟨U1, hU⟩ : ∃ U, (w1.alloc (.cells #[.int .i64 0, .int .i64 0, .slice none 0 0] tSt)).alloc (.cells #[.int .i64 (a : Int), .int .i64 (b : Int), .int .i64 c] skRj) = U := ⟨_, rfl⟩
            rw [hU] at T1 ⊢
            clear hU
            go_wp2_with fail
            refine (C2.out _).mono ?_
            rintro e w2 ⟨rfl, k2⟩
            have K2 := Lib.hid k2
            clear k2 C2
            go_upto_region 29 with (fail)
            have T2 := Lib.hid (mfTwo2 w2 (.int .i64 0) (.int .i64 0) (.slice none 0 0) (.int .i64 (a : Int)) (.int .i64 (b : Int)) (.int .i64 c))
            obtain ⟨U2, hU⟩ : ∃ U, (w2.alloc (.cells #[.int .i64 0, .int .i64 0, .slice none 0 0] tSt)).alloc (.cells #[.int .i64 (a : Int), .int .i64 (b : Int), .int .i64 c] skRj) = U := ⟨_, rfl⟩
            rw [hU] at T2 ⊢
            clear hU
            obtain ⟨⟨⟨b0, b1, b2⟩, y0, y1, y2⟩, ku2⟩ := T2.out U2 (Keeps.refl _)
            obtain ⟨⟨⟨a0, a1, a2⟩, x0, x1, x2⟩, ku1⟩ := T1.out U2 (Keeps.trans K2.out ku2)
            clear ku1 ku2
            go_wp2_with fail
            refine (CM.out _).mono ?_
            rintro e w3 ⟨rfl, k3⟩
            have K3 := Lib.hid k3
            clear k3 CM a0 a1 a2 b0 b1 b2 x0 x1 x2 y0 y1 y2
            obtain ⟨⟨_, y0, y1, y2⟩, ku2⟩ := T2.out w3 K3.out
            obtain ⟨⟨_, x0, x1, x2⟩, ku1⟩ := T1.out w3 (Keeps.trans K2.out ku2)
            have K4 := Lib.hid (Keeps.trans K6.out (Keeps.trans K1.out ku1))
            clear ku1 ku2
            go_wp2_with fail
            refine (HS.out _ K4.out).mono ?_
            rintro e w5 ⟨rfl, k5⟩
            go_wp2
            go_ret
            exact ⟨rfl, Keeps.trans K4.out k5⟩
theorem si8_of {n : Int} (h : (Lit.int .i8 n).wf = true) : -128 ≤ n ∧ n ≤ 127 := by
  simp only [Lit.wf, IntKind.min, IntKind.max, IntKind.signed, IntKind.bits, Bool.and_eq_true] at h
  simp at h; omega
theorem manifestCells_go' (p s : Int) (v : Value) (L : List R) (vl : Value) (CL : List CeM) (n : Int) (w : World) (hp : HasS w) (hl : RowsIn w v L) (hcl : CesIn w vl CL) (hn : (Lit.int .i8 n).wf = true) :
    Calls Tryd.prog 5 #[stV p s v, vl, .int .i8 n] w fun e w' => e = .returned (.bool true) ∧ Keeps w w' := manifestCells_go p s v L vl CL n w hp hl hcl (si8_of hn)
end Go.Proofs.YtnkcbefamajghaaDoor
