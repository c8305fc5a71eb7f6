
/- ManifestTotal: an order's row that says another quantity; rows that lie apart; the walk. -/
import Derived.Test.YtnkcbefamajghaaDoorMfTbl
set_option linter.unusedVariables false
namespace Go.Proofs.YtnkcbefamajghaaDoor
open Go.ChangeShapes Go.WideShapes Go.ChangeAt Go.RowKit Ky Rw Mft
open Stk (Bt)

namespace Mft
def otherT (g : G) (d : Nat) : List Bt := [Mon.put g.o, wDone ++ Mon.put (d : Int), cellT g.b g.m]
theorem other_row (g : G) (d : Nat) : rowT ⟨g.o, 1, (d : Int), g.b, g.m⟩ = otherT g d := by simp [rowT, cellT, otherT]
theorem other_ok {g : G} (h : GOk g) {d : Nat} (hd : d ≤ 9) : GOk ⟨g.o, 1, (d : Int), g.b, g.m⟩ where
  o0 := h.o0
  o1 := h.o1
  a0 := (by show (0 : Int) ≤ 1; omega)
  a2 := (by show (1 : Int) ≤ 2; omega)
  n0 := (by show (0 : Int) ≤ (d : Int); omega)
  n1 := (by show (d : Int) ≤ 999; omega)
  na := fun e => absurd rfl e
  b0 := h.b0
  b2 := h.b2
  m0 := h.m0
  m1 := h.m1
  mb := h.mb
  ab := fun e => by have h1 : (1 : Int) = 0 := e.1; omega
theorem row_at {s : Int} {L : List R} {j : Nat} {g : G} (hg : (grpL L)[j]? = some g) : (tableL s L)[j + 1]? = some (rowT g) := by
  have hj : j < (grpL L).length := (List.getElem?_eq_some_iff.1 hg).1
  unfold tableL tableK
  rw [List.getElem?_cons_succ, List.getElem?_append_left (by rw [List.length_map]; exact hj), List.getElem?_map, hg]
  rfl
/-- A row of an order says another quantity. -/
theorem tot_other {s : Int} {L : List R} (h : Valid 2 s L) {j : Nat} {g : G} (hg : (grpL L)[j]? = some g) {d : Nat} (hd : d ≤ 9) (hne : g.n ≠ (d : Int)) :
    parseM (Csv.prRows ((tableL s L).set (j + 1) (otherT g d))) = .error ((grpL L).length + 2, 3, 5) ∧ (Csv.prRows ((tableL s L).set (j + 1) (otherT g d))).length ≤ 65536 ∧ Fits ((tableL s L).set (j + 1) (otherT g d)) := by
  obtain ⟨KO, FL⟩ := grp_ok h.good
  have hj : j < (grpL L).length := (List.getElem?_eq_some_iff.1 hg).1
  have hgm : GOk g := KO.each g (List.mem_of_getElem? hg)
  have e1 : (tableL s L).set (j + 1) (otherT g d) = tableK s ((grpL L).set j ⟨g.o, 1, (d : Int), g.b, g.m⟩) (totL L) := by
    unfold tableL tableK
    rw [List.set_cons_succ, List.set_append_left _ _ (by rw [List.length_map]; exact hj), ← other_row, ← List.map_set, List.length_set]
  have e2 : ∀ x ∈ (grpL L).set j ⟨g.o, 1, (d : Int), g.b, g.m⟩, GOk x := fun x hx => by
    rcases List.mem_or_eq_of_mem_set hx with hx | rfl
    · exact KO.each x hx
    · exact other_ok hgm hd
  have e3 := rise_set (h := (⟨g.o, 1, (d : Int), g.b, g.m⟩ : G)) hg rfl KO.rise
  have e4 : ((grpL L).set j (⟨g.o, 1, (d : Int), g.b, g.m⟩ : G)).length ≤ 60 := by rw [List.length_set]; exact KO.few
  have e5 := totL_bound h.good
  have e6 : totL L ≠ totK ((grpL L).set j (⟨g.o, 1, (d : Int), g.b, g.m⟩ : G)) := by
    rw [tot_set hg]
    have e := tot_flat KO
    rw [FL] at e
    show totL L ≠ totK (grpL L) - (g.n + g.m) + ((d : Int) + g.m)
    omega
  have e7 := plain_table h.s0 h.s1 e2 e4 e5.1 (show totL L ≤ 1000000 by omega)
  have e8 := table_short e7 e4
  rw [e1]
  refine ⟨?_, e8, ⟨fun F hF f hf => ?_, Nat.le_trans e8 (by decide)⟩⟩
  · rw [parse_total h.s0 h.s1 e2 e3 e4 e5.1 (by omega) e6, List.length_set]
  · exact Nat.le_trans ((e7 F hF).2.2 f hf).2 (by decide)
theorem put_dg : ∀ d : Fin 10, Mon.put ((d.val : Nat) : Int) = [Mon.dg d.val] := by decide +kernel
theorem nine_dg (m : Nat) : (49 : Int) + (m : Int) % 9 = ((Mon.dg (1 + m % 9)).toNat : Int) := by
  rw [← Mon.byte_digit]; omega
end Mft
/-- Rows that lie apart. -/
def ApartS (vs : List Sl3) : Prop := ∀ (i j : Nat) (x y : Sl3) (g : Nat), i ≠ j → vs[i]? = some x → vs[j]? = some y → (slV x).ownBlock = some g → (slV y).ownBlock ≠ some g
theorem own_tblA {B : Nat} {W : World} {v : Value} {T : List (List (List UInt8))} (h : OwnTable B W v T) : ∃ vs, TblO B W v vs T ∧ ApartS vs := by
  obtain ⟨B', vr, row, hB, vals, h1, h2, h3⟩ := h
  have hl : vals.length = T.length := by have := h1.1; omega
  obtain ⟨vs, rfl⟩ := sl_list vals (fun u hu => by
    obtain ⟨j, hj⟩ := List.mem_iff_getElem?.1 hu
    have hjl := (List.getElem?_eq_some_iff.1 hj).1
    obtain ⟨u', e1, e2, _⟩ := h3 j (T[j]'(by omega)) (List.getElem?_eq_getElem _)
    rw [hj] at e1; cases e1
    obtain ⟨p, c, e⟩ := RowK.own_shape skStrK e2
    exact ⟨(p, _, c), e⟩)
  have hl2 : vs.length = T.length := by simpa using hl
  refine ⟨vs, ⟨?_, hl2, fun j F hF => ?_⟩, fun i j x y g hne hx hy hg => ?_⟩
  · have o : skSliK.Own B' W v vs := by
      show W.ownsRow B' tR 1 v vs.length (skSliK.row vs)
      rw [skSliK_row, hl2]; exact h1
    exact skSliK.own_base o fun g hg => Nat.le_trans hB (skSliK.own_lt o g hg).1
  · obtain ⟨u, e1, e2, _⟩ := h3 j F hF
    rw [List.getElem?_map] at e1
    obtain ⟨x, hx, rfl⟩ := Option.map_eq_some_iff.1 e1
    have o : skStrK.Own B' W (slV x) F := by
      show W.ownsRow B' tS 1 (slV x) F.length (skStrK.row F)
      rw [skStrK_row]; exact e2
    exact ⟨x, hx, skStrK.own_base o fun g hg => Nat.le_trans hB (skStrK.own_lt o g hg).1⟩
  · have hjl := (List.getElem?_eq_some_iff.1 hy).1
    obtain ⟨u, e1, e2, e3⟩ := h3 j (T[j]'(by omega)) (List.getElem?_eq_getElem _)
    rw [List.getElem?_map, hy] at e1
    cases e1
    exact e3.2 i (slV x) g hne (by rw [List.getElem?_map, hx]; rfl) hg
theorem str_at {B : Nat} {W : World} {v : Value} {F : List Bt} (h : skStrK.Own B W v F) {i : Nat} {f : Bt} (hi : F[i]? = some f) : ∃ g c, v = .slice (some ⟨g, 0, none⟩) F.length c ∧ B ≤ g ∧ W.cell? ⟨g, i, none⟩ = some (sv f) ∧ W.frozen? ⟨g, i, none⟩ = false := by
  have hh := h
  have hlt := (List.getElem?_eq_some_iff.1 hi).1
  rcases h.2 with ⟨rfl, h0⟩ | ⟨g, cap, cur, rfl, hb, hg, r1, r2, r3, r4⟩
  · omega
  · refine ⟨g, cap, rfl, hb, ?_, Joins.unfrozen_of_block hg i⟩
    have := RowK.own_at skStrK hh hi (j := 0) (u := sv f) rfl
    simpa [skStrK] using this
/-- A field stored in a row of a table whose rows lie apart. -/
theorem TblO.put {B : Nat} {W : World} {v : Value} {vs : List Sl3} {T : List (List (List UInt8))} (h : TblO B W v vs T) (hA : ApartS vs) {k i : Nat} {F : List Bt} {g n c : Nat} {f : Bt} (hF : T[k]? = some F) (hv : vs[k]? = some (some ⟨g, 0, none⟩, n, c)) :
    TblO B (W.setCell ⟨g, i, none⟩ (sv f)) v vs (T.set k (F.set i f)) := by
  obtain ⟨y, hy, oy⟩ := h.2.2 k F hF
  rw [hv] at hy
  cases hy
  refine ⟨?_, by rw [List.length_set]; exact h.2.1, fun j G hG => ?_⟩
  · refine skSliK.own_local h.1 fun g2 hg2 => Below.heap_setCell _ ⟨g, i, none⟩ _ _ ?_
    have hne := own_ne (e := tR) (e' := tS) h.1 oy (by decide)
    rcases hne with hne | hne
    · rw [hne] at hg2; cases hg2
    · intro e
      subst e
      exact hne (by rw [hg2]; rfl)
  · by_cases hj : j = k
    · subst hj
      have hlt := (List.getElem?_eq_some_iff.1 hF).1
      rw [List.getElem?_set_self hlt] at hG
      cases hG
      exact ⟨_, hv, str_set oy⟩
    · rw [List.getElem?_set_ne (Ne.symm hj)] at hG
      obtain ⟨x, hx, ox⟩ := h.2.2 j G hG
      refine ⟨x, hx, skStrK.own_local ox fun g2 hg2 => Below.heap_setCell _ ⟨g, i, none⟩ _ _ ?_⟩
      intro e
      subst e
      exact hA k j _ x _ (Ne.symm hj) hv hx rfl hg2
theorem ord_many {L : List R} (h : Rw.Good 2 L) : (grpL L).length ≤ L.length := by
  have h2 := congrArg List.length (ord_all h)
  rw [List.length_map] at h2
  have := ord_len L 0
  omega
theorem tot_nums {M m wh k0 k : Nat} (hM : M = m + 2) (hm : m ≤ 60) (hm0 : ¬ m = 0) (hw : wh < 256) (hk : wh % m = k0) (hk1 : k0 + 1 = k) :
    wrap64 (wh : Int) = (wh : Int) ∧ wrap64 ((M : Int) - 2) = (m : Int) ∧ (wh : Int) % (m : Int) = (k0 : Int) ∧ wrap64 (k0 : Int) = (k0 : Int) ∧ wrap64 (1 + (k0 : Int)) = (k : Int) ∧ (0 : Int) ≤ (k : Int) ∧ (k : Int) < (M : Int) ∧ ((M : Int) == 2) = false ∧ ¬ ((m : Int) = 0) ∧ ((m : Int) == 0) = false ∧ 0 < m ∧ k0 < m ∧ (M : Int) - 2 = (m : Int) ∧ 1 + (k0 : Int) = (k : Int) ∧ wrap64 (k : Int) = (k : Int) := by
  have h1 : k0 < m := by rw [← hk]; exact Nat.mod_lt _ (by omega)
  have e1 : (M : Int) - 2 = (m : Int) := by omega
  have e2 : 1 + (k0 : Int) = (k : Int) := by omega
  refine ⟨i64w (by unfold top; omega) (by unfold top; omega), ?_, ?_, i64w (by unfold top; omega) (by unfold top; omega), ?_, by omega, by omega, ?_, by omega, ?_, by omega, h1, e1, e2, i64w (by unfold top; omega) (by unfold top; omega)⟩
  · rw [e1]; exact i64w (by unfold top; omega) (by unfold top; omega)
  · rw [← hk]; first | exact (Int.natCast_emod _ _).symm | exact (Int.ofNat_emod _ _).symm
  · rw [e2]; exact i64w (by unfold top; omega) (by unfold top; omega)
  · rw [beq_eq_false_iff_ne]; omega
  · rw [beq_eq_false_iff_ne]; omega
def zeroFile : List UInt8 := [109, 97, 110, 105, 102, 101, 115, 116, 44, 49, 10, 101, 110, 100, 44, 48, 44, 49, 10]
theorem zero_file : parseM [109, 97, 110, 105, 102, 101, 115, 116, 44, 49, 10, 101, 110, 100, 44, 48, 44, 49, 10] = .error (2, 3, 5) := by kernel_rfl
set_option maxHeartbeats 16000000 in
set_option maxRecDepth 100000 in
theorem manifestTotal_go (p s : Int) (v : Value) (L : List R) (wh mo : Nat) (w : World) (hp : HasS w) (hl : RowsIn w v L) (hw : wh < 256) (hm : mo < 256) :
    Calls Tryd.prog 8 #[stV p s v, .int .u8 (wh : Int), .int .u8 (mo : Int)] w fun e w' => e = .returned (.bool true) ∧ Keeps w w' := by
  have HWH := Lib.hid hw
  have HMO := Lib.hid hm
  have I1 := Lib.hid hl
  obtain ⟨q, c, rfl, hmx, _, _⟩ := hl
  obtain ⟨N, hN⟩ : ∃ N, L.length = N := ⟨_, rfl⟩
  have HN := Lib.hid hN
  rw [hN] at hmx I1 ⊢
  clear hN hw hm
  have KB := Lib.hid (ky_box w (stBox p s (.slice q N c)))
  have SB := Lib.hid (mf_st_box w p s (.slice q N c))
  have IB := Lib.hid (I1.out.keeps KB.out)
  have HP : Hid (∀ W, Keeps w W → HasS W) := Lib.hid fun W k => hp.keeps k
  have HS : Hid (∀ W, Keeps w W → Calls Tryd.prog 9 #[] W fun e w' => e = .returned (.bool true) ∧ Keeps W w') := Lib.hid fun W k => mf_carried W (hp.keeps k)
  have BZ : Hid (∀ W, Keeps w W → Calls Tryd.prog 20 #[.string ⟨#[109, 97, 110, 105, 102, 101, 115, 116, 44, 49, 10, 101, 110, 100, 44, 48, 44, 49, 10]⟩, .int .i64 2, .int .i64 3, .int .i64 5] W fun e w' => e = .returned (.bool true) ∧ Keeps W w') := Lib.hid fun W k => mfBad _ 2 3 5 W (hp.keeps k) (by unfold maxLen; decide) zero_file 2 3 rfl rfl
  unfold maxLen at hmx
  unfold stV
  unfold stBox at KB SB IB
  clear hp
  obtain ⟨w1, hw1⟩ : ∃ W, w.alloc (.cells #[.int .i64 p, .int .i64 s, .slice q N c] tSt) = W := ⟨_, rfl⟩
  rw [hw1] at KB SB IB
  obtain ⟨x0, x1, x2⟩ := (sk_three_atG (SB.out _ (Keeps.refl _))).1
  go_enter Tryd.func8, Tryd.ntmps8
  by_cases hbig : N ≤ 60
  rotate_left
  · go_wp2_with fail
    refine (HS.out _ KB.out).mono ?_
    rintro e w2 ⟨rfl, k2⟩
    go_wp2
    go_ret
    exact ⟨rfl, KB.out.trans k2⟩
  have HBIG := Lib.hid hbig
  have C1 := Lib.hid (mp_print p s _ L w1 IB.out (HP.out _ KB.out).p (HP.out _ KB.out).m)
  by_cases hv : p = 2 ∧ validB p s L = true
  rotate_left
  · have PT : Hid (mfPrtS p s L = ⟨#[]⟩ ∧ Mft.prtC p s L = 2) := Lib.hid (by unfold mfPrtS Mft.prt Mft.prtC; rw [if_neg hv, if_neg hv]; exact ⟨rfl, rfl⟩)
    rw [PT.out.1, PT.out.2] at C1
    unfold stV at C1
    go_wp2_with fail
    refine C1.out.mono ?_
    rintro e w2 ⟨rfl, k2⟩
    have K2 := Lib.hid (KB.out.trans k2)
    clear k2 C1 x0 x1 x2
    go_wp2_with fail
    refine (HS.out _ K2.out).mono ?_
    rintro e w4 ⟨rfl, k4⟩
    go_wp2
    go_ret
    exact ⟨rfl, Keeps.trans K2.out k4⟩
  obtain ⟨rfl, hvb⟩ := hv
  have VA := Lib.hid (valid_iff.1 hvb)
  obtain ⟨T, hT⟩ : ∃ T, mfPrtS 2 s L = T := ⟨_, rfl⟩
  have HTL : Hid (T.data.toList = Mft.fileL s L) := Lib.hid (by
    have hv : (2 : Int) = 2 ∧ validB 2 s L = true := ⟨rfl, hvb⟩
    rw [← hT]
    unfold mfPrtS Mft.prt
    rw [if_pos hv, data_mk])
  have PC : Mft.prtC 2 s L = 0 := by unfold Mft.prtC; rw [if_pos ⟨rfl, hvb⟩]
  rw [hT, PC] at C1
  have ZT : Hid (T.size ≤ maxLen) := Lib.hid (Nat.le_trans (by rw [← len_data, HTL.out]; exact file_small VA.out) (by unfold maxLen; decide))
  unfold stV at C1
  clear hT PC hvb
  go_wp2_with fail
  refine C1.out.mono ?_
  rintro e w2 ⟨rfl, k2⟩
  have K2 := Lib.hid k2
  clear k2 C1 x0 x1 x2
  go_wp2_with fail
  refine (csv_own T VA.out HTL.out ZT.out w2 (HP.out _ (KB.out.trans K2.out)).m).mono ?_
  rintro e w3 ⟨vt, rfl, ot, k3⟩
  have K3 := Lib.hid (K2.out.trans k3)
  have OT := Lib.hid ot
  clear ot k3
  go_upto_region 7 with (fail)
  obtain ⟨w4, hw4⟩ : ∃ W, w3.alloc (.cells #[.int .i64 0, .int .i64 0, .int .i64 0] skRj) = W := ⟨_, rfl⟩
  have k34 : Keeps w3 w4 := hw4 ▸ kept_alloc (Keeps.refl w3) _
  have K4 := Lib.hid (K3.out.trans k34)
  obtain ⟨vs, tb, hap⟩ := own_tblA (OT.out.keeps k34)
  have AP := Lib.hid hap
  obtain ⟨m, hmm⟩ : ∃ m, (grpL L).length = m := ⟨_, rfl⟩
  have HMM := Lib.hid hmm
  obtain ⟨M, hM⟩ : ∃ M, (Mft.tableL s L).length = M := ⟨_, rfl⟩
  have hM2 : M = m + 2 := by rw [← hM, ← hmm]; exact table_len s (grpL L) (totL L)
  have hm60 : m ≤ 60 := by rw [← hmm]; exact (grp_ok VA.out.good).1.few
  have hmN : m ≤ N := by rw [← hmm, ← HN.out]; exact ord_many VA.out.good
  obtain ⟨tg, tc, rfl, hg0, hg1, hg2, hg3, hg4⟩ := tb.lies (show Mft.tableL s L ≠ [] by simp [Mft.tableL, tableK])
  rw [hM] at hg2 hg4 tb ⊢
  have TB := Lib.hid tb
  have HG4 := Lib.hid hg4
  have HM := Lib.hid hM
  have HM2 := Lib.hid hM2
  have HM60 := Lib.hid hm60
  have HMS : M ≤ 62 := by omega
  have d1 : ¬ ((M : Int) < 2) := by omega
  have d2 : ¬ ((N : Int) + 2 < (M : Int)) := by omega
  have d3 : decide ((M : Int) < 2) = false := decide_eq_false d1
  have d4 : decide ((N : Int) + 2 < (M : Int)) = false := decide_eq_false d2
  have wN : wrap64 ((N : Int) + 2) = (N : Int) + 2 := i64w (by unfold top; omega) (by unfold top; omega)
  obtain ⟨x0, x1, x2⟩ := (sk_three_atG (SB.out w4 K4.out)).1
  rw [hw4]
  clear hw4 hM hmm hap tb k34 hg4 hg1 hg3 hmN
  have HG0 := Lib.hid hg0
  clear hg0
  by_cases hm0 : m = 0
  · have q : ((M : Int) == 2) = true := by rw [beq_iff_eq]; omega
    clear hm60 hM2
    go_wp2_with fail
    refine (BZ.out _ (KB.out.trans K4.out)).mono ?_
    rintro e w5 ⟨rfl, k5⟩
    have K5 := Lib.hid ((KB.out.trans K4.out).trans k5)
    clear k5 x0 x1 x2
    go_wp2_with fail
    refine (HS.out _ K5.out).mono ?_
    rintro e w6 ⟨rfl, k6⟩
    go_wp2
    go_ret
    exact ⟨rfl, K5.out.trans k6⟩
  obtain ⟨k0, hk⟩ : ∃ k, wh % m = k := ⟨_, rfl⟩
  obtain ⟨k, hk1⟩ : ∃ k, k0 + 1 = k := ⟨_, rfl⟩
  obtain ⟨u1, u2, u3, u4, u5, u6, u7, u8, u9, u10, u11, u12, u13, u14, u15⟩ := tot_nums hM2 hm60 hm0 HWH.out hk hk1
  have HK1 := Lib.hid hk1
  have U12 := Lib.hid u12
  have hkM : k < M := Int.ofNat_lt.1 u7
  clear u12 hm0 hm60 hM2 hk hk1
  go_upto_region 13 with (fail)
  rw [u15]
  clear u1 u2 u3 u4 u5 u8 u9 u10 u11 u13 u14 u15 d1 d2 d3 d4 wN
  obtain ⟨g, hg⟩ : ∃ g, (grpL L)[k0]? = some g := ⟨_, List.getElem?_eq_getElem (by rw [HMM.out]; exact U12.out)⟩
  have HG := Lib.hid hg
  have GK := Lib.hid ((grp_ok VA.out.good).1.each g (List.mem_of_getElem? hg))
  have TR : Hid ((Mft.tableL s L)[k]? = some (Mft.rowT g)) := Lib.hid (by rw [← HK1.out]; exact row_at hg)
  obtain ⟨y, hy, oy⟩ := TB.out.2.2 k _ TR.out
  obtain ⟨g5, c5, e5, hb5, z1, z2⟩ := str_at oy (i := 1) (f := cellT g.a g.n) rfl
  obtain ⟨py, ny, cy⟩ := y
  unfold slV at e5
  simp only [Value.slice.injEq] at e5
  obtain ⟨rfl, e6, rfl⟩ := e5
  have e7 : ny = 3 := e6
  subst e7
  have HY := Lib.hid hy
  obtain ⟨tcell, tfro⟩ : w4.cell? ⟨tg, k, none⟩ = some (.slice (some ⟨g5, 0, none⟩) 3 cy) ∧ True := by
    obtain ⟨z, h6, h7, h8⟩ := HG4.out k hkM
    rw [hy] at h6
    cases h6
    exact ⟨h7, trivial⟩
  have HB5 := Lib.hid hb5
  obtain ⟨S, hS⟩ : ∃ S : ByteArray, ⟨(cellT g.a g.n).toArray⟩ = S := ⟨_, rfl⟩
  have SL : Hid (S.data.toList = cellT g.a g.n) := Lib.hid (by rw [← hS, data_mk])
  unfold sv at z1
  rw [hS] at z1
  clear hS hb5 hy oy e6 hg tfro
  have KR := Lib.hid (KB.out.trans K4.out)
  by_cases ha : g.a = 1
  · have SL2 : Hid (S.data.toList = wDone ++ Mon.put g.n) := Lib.hid (by rw [SL.out, ha]; rfl)
    obtain ⟨a1, a2, a3⟩ := sv_neS (S := S) (l := [45]) (by rw [SL2.out]; simp [wDone])
    obtain ⟨b1, b2, b3⟩ := sv_neS (S := S) (l := [114, 101, 102, 117, 115, 101, 100]) (by rw [SL2.out]; simp [wDone])
    clear ha
    go_wp2_with fail
    refine (HS.out _ KR.out).mono ?_
    rintro e w6 ⟨rfl, k6⟩
    go_wp2
    go_ret
    exact ⟨rfl, KR.out.trans k6⟩
  have GN : Hid (g.n = 0) := Lib.hid (GK.out.na ha)
  have hcase : S = ⟨#[45]⟩ ∨ S = ⟨#[114, 101, 102, 117, 115, 101, 100]⟩ := by
    rcases (show g.a = 0 ∨ g.a = 2 from by have := GK.out.a0; have := GK.out.a2; omega) with e | e
    · exact Or.inl (bytes_inj (by rw [SL.out, e]; rfl))
    · exact Or.inr (bytes_inj (by rw [SL.out, e]; rfl))
  have HC := Lib.hid hcase
  clear ha SL
  go_cut [75] (fun v W => v = .bool false ∧ w4 = W)
  case first =>
    rcases hcase with rfl | rfl
    · go_wp2
      go_meet
      case rel => exact ⟨rfl, rfl⟩
    · go_wp2
      go_meet
      case rel => exact ⟨rfl, rfl⟩
  case rest =>
  obtain ⟨rfl, rfl⟩ := hcut
  clear hcase
  obtain ⟨d, hd⟩ : ∃ d, 1 + mo % 9 = d := ⟨_, rfl⟩
  have HD1 : Hid (1 ≤ d) := Lib.hid (by rw [← hd]; omega)
  have HD9 : Hid (d ≤ 9) := Lib.hid (by rw [← hd]; have := Nat.mod_lt mo (show 0 < 9 by decide); omega)
  have hdg := nine_dg mo
  rw [hd] at hdg
  have hcv := byte_string (P := Tryd.prog) w4 53 5 Tryd.underlying53 Tryd.underlying5 _ _ hdg 9 Tryd.underlying9
  obtain ⟨D, hD⟩ : ∃ D : ByteArray, ⟨#[Mon.dg d]⟩ = D := ⟨_, rfl⟩
  rw [hD] at hcv
  have DL : Hid (D.data.toList = Mon.put (d : Int)) := Lib.hid (by rw [← hD, put_dg ⟨d, by have := HD9.out; omega⟩])
  have far : ¬ (9223372036854775807 < (⟨#[100, 111, 110, 101, 58]⟩ : ByteArray).size + D.size) := by
    have e1 : D.size = 1 := by rw [← hD]; rfl
    have e3 : (⟨#[100, 111, 110, 101, 58]⟩ : ByteArray).size = 5 := rfl
    omega
  have e1 : IntKind.u8.wrap ((mo : Int) % 9) = (mo : Int) % 9 := IntWalk.u8_in _ ⟨by omega, by omega⟩
  have e2 : IntKind.u8.wrap (49 + (mo : Int) % 9) = 49 + (mo : Int) % 9 := IntWalk.u8_in _ ⟨by omega, by omega⟩
  clear hdg hD hd
  go_upto_region 16 with (fail)
  obtain ⟨w5, hw5⟩ : ∃ W, w4.alloc (.cells #[.int .u8 (49 + (mo : Int) % 9)] 5) = W := ⟨_, rfl⟩
  have K45 : Hid (Keeps w4 w5) := Lib.hid (hw5 ▸ kept_alloc (Keeps.refl w4) _)
  obtain ⟨O, hO⟩ : ∃ O, (⟨#[100, 111, 110, 101, 58]⟩ : ByteArray) ++ D = O := ⟨_, rfl⟩
  have OL : Hid (O.data.toList = wDone ++ Mon.put (d : Int)) := Lib.hid (by rw [← hO, cat_list, DL.out])
  rw [hw5, hO]
  clear hw5 hO hcv far e1 e2 x0 x1 x2
  have tc5 := cell_keeps K45.out tcell
  have z15 := cell_keeps K45.out z1
  have T5 := Lib.hid (TB.out.keeps K45.out)
  have z25 : w5.frozen? ⟨g5, 1, none⟩ = false := by
    obtain ⟨y, hy, oy⟩ := T5.out.2.2 k _ TR.out
    rw [HY.out] at hy
    cases hy
    obtain ⟨g', c', e', _, _, z⟩ := str_at oy (i := 1) (f := cellT g.a g.n) rfl
    unfold slV at e'
    simp only [Value.slice.injEq, Option.some.injEq, Addr.mk.injEq] at e'
    obtain ⟨⟨rfl, _, _⟩, _, _⟩ := e'
    exact z
  clear tcell z1 z2
  have KR5 := Lib.hid (KR.out.trans K45.out)
  have HQ : Hid (g.n ≠ (d : Int)) := Lib.hid (by rw [GN.out]; have := HD1.out; omega)
  have hSO : ¬ S = O := fun e => by
    have h1 : S.data.toList = wDone ++ Mon.put (d : Int) := by rw [e, OL.out]
    rcases HC.out with h | h <;> (rw [h] at h1; simp [wDone] at h1)
  obtain ⟨a1, a2, a3⟩ := sv_neS (S := S) (l := O.toList) (fun e => hSO (bytes_inj (by rw [e, ByteArray.toList_eq])))
  obtain ⟨w6, hw6⟩ : ∃ W, w5.setCell ⟨g5, 1, none⟩ (.string O) = W := ⟨_, rfl⟩
  have T6 : Hid (TblO w2.heap.size w6 (.slice (some ⟨tg, 0, none⟩) M tc) vs ((Mft.tableL s L).set k (otherT g d))) := Lib.hid (by
    have h1 := TblO.put (i := 1) (f := wDone ++ Mon.put (d : Int)) T5.out AP.out TR.out HY.out
    have h2 : sv (wDone ++ Mon.put (d : Int)) = .string O := by
      unfold sv; congr 1; exact bytes_inj (by rw [data_mk, OL.out])
    rw [h2, hw6] at h1
    exact h1)
  have K6 : Hid (Keeps w1 w6) := Lib.hid (by
    rw [← hw6]
    exact (K4.out.trans K45.out).setCell (p := ⟨g5, 1, none⟩) (Nat.le_trans K2.out.size HB5.out) _)
  have TO := Lib.hid (tot_other VA.out HG.out HD9.out HQ.out)
  rw [HK1.out] at TO
  obtain ⟨X, hX⟩ : ∃ X : ByteArray, ⟨(Csv.prRows ((Mft.tableL s L).set k (otherT g d))).toArray⟩ = X := ⟨_, rfl⟩
  have CX : Hid (Calls Tryd.prog 21 #[.slice (some ⟨tg, 0, none⟩) M tc] w6 fun e w' => e = .returned (.string X) ∧ Keeps w6 w') := Lib.hid (by
    rw [← hX]
    exact csPrint_any _ _ w6 (T6.out.rows (by rw [List.length_set, HM.out]; exact Nat.le_trans HMS (by decide))) TO.out.2.2 (HP.out _ (KB.out.trans K6.out)).m)
  have CB : Hid (∀ W, Keeps w6 W → Calls Tryd.prog 20 #[.string X, .int .i64 (M : Int), .int .i64 3, .int .i64 5] W fun e w' => e = .returned (.bool true) ∧ Keeps W w') := Lib.hid fun W kk => by
    refine mfBad X (m + 2) 3 5 W (HP.out _ ((KB.out.trans K6.out).trans kk)) ?_ ?_ _ _ (by rw [HM2.out]) rfl
    · rw [← hX, size_mk]; exact Nat.le_trans TO.out.2.1 (by unfold maxLen; decide)
    · rw [← hX, data_mk, ← HMM.out]; exact TO.out.1
  clear hX
  go_upto_region 19 with (fail)
  try rw [hw6]
  clear hw6 z15 tc5 z25 hSO a1 a2 a3
  go_wp2_with fail
  refine CX.out.mono ?_
  rintro e w7 ⟨rfl, k7⟩
  have K7 := Lib.hid k7
  clear k7 CX
  go_wp2_with fail
  refine (CB.out _ K7.out).mono ?_
  rintro e w8 ⟨rfl, k8⟩
  have K8 := Lib.hid (KB.out.trans (K6.out.trans (K7.out.trans k8)))
  clear k8 CB
  go_wp2_with fail
  refine (HS.out _ K8.out).mono ?_
  rintro e w9 ⟨rfl, k9⟩
  go_wp2
  go_ret
  exact ⟨rfl, K8.out.trans k9⟩
theorem mu8_of {n : Int} (h : (Lit.int .u8 n).wf = true) : ∃ N : Nat, n = N ∧ N < 256 := by
  simp only [Lit.wf, IntKind.min, IntKind.max, IntKind.signed, IntKind.bits, Bool.and_eq_true] at h
  refine ⟨n.toNat, ?_, ?_⟩ <;> simp at h <;> omega
theorem manifestTotal_go' (p s : Int) (v : Value) (L : List R) (n k : Int) (w : World) (hp : HasS w) (hl : RowsIn w v L) (hn : (Lit.int .u8 n).wf = true) (hk : (Lit.int .u8 k).wf = true) :
    Calls Tryd.prog 8 #[stV p s v, .int .u8 n, .int .u8 k] w fun e w' => e = .returned (.bool true) ∧ Keeps w w' := by
  obtain ⟨C, rfl, hC⟩ := mu8_of hn
  obtain ⟨D, rfl, hD⟩ := mu8_of hk
  exact manifestTotal_go p s v L C D w hp hl hC hD
end Go.Proofs.YtnkcbefamajghaaDoor
