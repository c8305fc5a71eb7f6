/- SettleBack: the walk. -/
import Derived.Test.YtjmaldikpdlngaaDoorSeL1
import Derived.Test.YtjmaldikpdlngaaDoorSeL2
set_option linter.unusedVariables false
namespace Go.Proofs.YtjmaldikpdlngaaDoor
open Go.ChangeShapes Go.WideShapes Go.ChangeAt Go.RowKit Ky Rw Stl

theorem su16_of {n : Int} (h : (Lit.int .u16 n).wf = true) : ∃ N : Nat, n = N ∧ N < 65536 := by
  simp only [Lit.wf, IntKind.min, IntKind.max, IntKind.signed, IntKind.bits, Bool.and_eq_true] at h
  refine ⟨n.toNat, ?_, ?_⟩ <;> simp at h <;> omega
theorem su8_of {n : Int} (h : (Lit.int .u8 n).wf = true) : ∃ N : Nat, n = N ∧ N < 256 := by
  simp only [Lit.wf, IntKind.min, IntKind.max, IntKind.signed, IntKind.bits, Bool.and_eq_true] at h
  refine ⟨n.toNat, ?_, ?_⟩ <;> simp at h <;> omega
theorem small_k {k t N : Nat} (h : k < t) (z : t = 44 + 29 * N) (hb : N ≤ 100) : k ≤ 100000 := by omega
theorem small_t {t N : Nat} (z : t = 44 + 29 * N) (hb : N ≤ 100) : t ≤ 100000 := by omega
theorem lc_next {l : List UInt8} {i : Nat} {c : UInt8} (h : l[i]? = some c) : lc (1, 1) (l.take (i + 1)) = lc1 (lc (1, 1) (l.take i)) c := by
  rw [List.take_add_one, h, lc_app]
  rfl
theorem lc_le : ∀ (t : List UInt8), (lc (1, 1) t).1 ≤ t.length + 1 ∧ (lc (1, 1) t).2 ≤ t.length + 1 ∧ 1 ≤ (lc (1, 1) t).2 := by
  have h : ∀ (t : List UInt8) (p : Nat × Nat) (m : Nat), p.1 ≤ m → p.2 ≤ m → 1 ≤ p.2 → (lc p t).1 ≤ t.length + m ∧ (lc p t).2 ≤ t.length + m ∧ 1 ≤ (lc p t).2 := by
    intro t
    induction t with
    | nil => intro p m h1 h2 h3; exact ⟨by show p.1 ≤ 0 + m; omega, by show p.2 ≤ 0 + m; omega, h3⟩
    | cons c r ih =>
      intro p m h1 h2 h3
      show (lc (lc1 p c) r).1 ≤ _ ∧ _
      have q : (lc1 p c).1 ≤ m + 1 ∧ (lc1 p c).2 ≤ m + 1 ∧ 1 ≤ (lc1 p c).2 := by
        unfold lc1
        split <;> simp <;> omega
      have := ih (lc1 p c) (m + 1) q.1 q.2.1 q.2.2
      simp only [List.length_cons]
      show (lc (lc1 p c) r).1 ≤ _ ∧ (lc (lc1 p c) r).2 ≤ _ ∧ 1 ≤ (lc (lc1 p c) r).2
      omega
  intro t
  exact h t (1, 1) 1 (by simp) (by simp) (by simp)
theorem cast_up {i k : Nat} (h : i < k) : (i : Int) < (k : Int) := Int.ofNat_lt.2 h
theorem cast_nn (i : Nat) : (0 : Int) ≤ (i : Int) := Int.natCast_nonneg i
theorem wrap_up {a : Nat} (h : a ≤ 100001) : wrap64 ((a : Int) + 1) = ((a + 1 : Nat) : Int) := (i64w (by unfold top; omega) (by unfold top; omega)).trans (by omega)
theorem wrap_it {a : Nat} (h : a ≤ 100001) : wrap64 (a : Int) = (a : Int) := i64w (by unfold top; omega) (by unfold top; omega)
theorem ch_ne {ch : UInt8} (h : ch ≠ 10) : ((ch.toNat : Int) == 10) = false := by
  rw [beq_eq_false_iff_ne]
  exact fun e => h (UInt8.toNat.inj (by show ch.toNat = 10; omega))
theorem meas_up {i k : Nat} (h : i < k) (w : wrap64 ((i : Int) + 1) = ((i + 1 : Nat) : Int)) : k - (intOf (.int .i64 (wrap64 ((i : Int) + 1)))).toNat < k - (intOf (.int .i64 (i : Int))).toNat := by
  rw [w]
  simp [intOf]
  omega
theorem size_nz {t : Nat} (h : 0 < t) : ((t : Int) == 0) = false := by rw [beq_eq_false_iff_ne]; omega
theorem size_pos {t N : Nat} (z : t = 44 + 29 * N) : 0 < t := by omega
theorem size_max {t N : Nat} (z : t = 44 + 29 * N) (hb : N ≤ 100) : t ≤ maxLen := by unfold maxLen; omega
theorem lc_small {l : List UInt8} {i t a b : Nat} (ht : i ≤ t) (h : t ≤ 100000) (ha : (lc (1, 1) (l.take i)).1 = a) (hb : (lc (1, 1) (l.take i)).2 = b) : a ≤ 100001 ∧ b ≤ 100001 := by
  obtain ⟨g1, g2, _⟩ := lc_le (l.take i)
  have g3 : (l.take i).length ≤ i := List.length_take_le _ _
  rw [ha] at g1
  rw [hb] at g2
  omega
set_option maxHeartbeats 16000000 in
set_option maxRecDepth 100000 in
theorem settleBack_go (p s : Int) (v : Value) (L : List R) (cut : Nat) (w : World) (hp : HasP w) (hl : RowsIn w v L) (hc : cut < 65536) :
    Calls Tryd.prog 5 #[stV p s v, .int .u16 (cut : Int)] w fun e w' => e = .returned (.bool true) ∧ Keeps w w' := by
  have HCU := Lib.hid hc
  have I1 := Lib.hid hl
  obtain ⟨q, c, rfl, hmx, _, _⟩ := hl
  obtain ⟨N, hN⟩ : ∃ N, L.length = N := ⟨_, rfl⟩
  have HN := Lib.hid hN
  rw [hN] at hmx I1 ⊢
  clear hN hc
  have KB := Lib.hid (ky_box w (stBox p s (.slice q N c)))
  have SB := Lib.hid (st_box w p s (.slice q N c))
  have IB := Lib.hid (I1.out.keeps KB.out)
  have HP : Hid (∀ W, Keeps w W → HasP W) := Lib.hid fun W k => hp.keeps k
  have HS : Hid (∀ W, Keeps w W → Calls Tryd.prog 8 #[] W fun e w' => e = .returned (.bool true) ∧ Keeps W w') := Lib.hid fun W k => sl_settled W (hp.keeps k)
  unfold maxLen at hmx
  unfold stV
  unfold stBox at KB SB IB
  clear hp
  obtain ⟨w1, hw1⟩ : ∃ W, w.alloc (.cells #[.int .i64 p, .int .i64 s, .slice q N c] tSt) = W := ⟨_, rfl⟩
  rw [hw1] at KB SB IB
  obtain ⟨x0, x1, x2⟩ := (three_atG (SB.out _ (Keeps.refl _))).1
  go_enter Tryd.func5, Tryd.ntmps5
  by_cases hbig : N ≤ 100
  rotate_left
  · go_wp2_with fail
    refine (HS.out _ KB.out).mono ?_
    rintro e w2 ⟨rfl, k2⟩
    go_wp2
    go_ret
    exact ⟨rfl, KB.out.trans k2⟩
  have C1 := Lib.hid (se_print p s _ L w1 IB.out (HP.out _ KB.out))
  have C2 : Hid (∀ W, Keeps w1 W → Calls Tryd.prog 14 #[stV p s (.slice q N c)] W fun e w' => e = .returned (.bool (validB p s L)) ∧ Keeps W w') := Lib.hid fun W k => pw_valid p s _ L W (HP.out _ (Keeps.trans KB.out k)) (IB.out.keeps k)
  by_cases hv : p = 0 ∧ validB p s L = true
  rotate_left
  · have PT : Hid (prtS p s L = ⟨#[]⟩ ∧ prtC p s L = 2) := Lib.hid (by unfold prtS Stl.prt prtC; rw [if_neg hv, if_neg hv]; exact ⟨rfl, rfl⟩)
    rw [PT.out.1, PT.out.2] at C1
    unfold stV at C1
    go_wp2_with fail
    refine C1.out.mono ?_
    rintro e w2 ⟨rfl, k2⟩
    have K2 := Lib.hid k2
    clear k2 C1 x0 x1 x2
    obtain ⟨x0, x1, x2⟩ := (three_atG (SB.out _ K2.out)).1
    by_cases hp0 : p = 0
    · subst hp0
      have hvb : validB 0 s L = false := by
        cases h : validB 0 s L with
        | false => rfl
        | true => exact absurd ⟨rfl, h⟩ hv
      have C2 := Lib.hid (C2.out _ K2.out)
      rw [hvb] at C2
      unfold stV at C2
      clear hv hvb
      go_wp2_with fail
      refine C2.out.mono ?_
      rintro e w3 ⟨rfl, k3⟩
      have K3 := Lib.hid (Keeps.trans KB.out (Keeps.trans K2.out k3))
      clear k3 C2 x0 x1 x2
      go_wp2_with fail
      refine (HS.out _ K3.out).mono ?_
      rintro e w4 ⟨rfl, k4⟩
      go_wp2
      go_ret
      exact ⟨rfl, Keeps.trans K3.out k4⟩
    · have t : (p == 0) = false := by rw [beq_eq_false_iff_ne]; exact hp0
      have t2 : (p != 0) = true := by rw [bne, t]; rfl
      have K3 := Lib.hid (Keeps.trans KB.out K2.out)
      clear hv hp0
      go_wp2_with fail
      refine (HS.out _ K3.out).mono ?_
      rintro e w4 ⟨rfl, k4⟩
      go_wp2
      go_ret
      exact ⟨rfl, Keeps.trans K3.out k4⟩
  obtain ⟨rfl, hvb⟩ := hv
  have VA := Lib.hid (valid_iff.1 hvb)
  rw [hvb] at C2
  obtain ⟨T, hT⟩ : ∃ T, prtS 0 s L = T := ⟨_, rfl⟩
  have HTL : Hid (T.data.toList = fileL s L) := Lib.hid (by
    have hv : (0 : Int) = 0 ∧ validB 0 s L = true := ⟨rfl, hvb⟩
    rw [← hT]
    unfold prtS Stl.prt
    rw [if_pos hv, data_mk])
  have PC : prtC 0 s L = 0 := by unfold prtC; rw [if_pos ⟨rfl, hvb⟩]
  rw [hT, PC] at C1
  have zT : T.size = 44 + 29 * N := by rw [← len_data, HTL.out, file_len VA.out, HN.out]
  have CPs : Hid (∀ W, Keeps w W → Calls Tryd.prog 12 #[.string T] W fun e w' => ∃ v, e = .returned (.tuple #[stV 0 s v, .agg #[.int .i64 0, .int .i64 0, .int .i64 0]]) ∧ RowsIn w' v L ∧ Keeps W w') := Lib.hid fun W k => sl_yes T s L W (HP.out _ k) (size_max zT hbig) (by rw [HTL.out]; exact parse_file VA.out)
  unfold stV at C1 C2 CPs
  clear hT PC hvb
  go_wp2_with fail
  refine C1.out.mono ?_
  rintro e w2 ⟨rfl, k2⟩
  have K2 := Lib.hid k2
  clear k2 C1 x0 x1 x2
  obtain ⟨x0, x1, x2⟩ := (three_atG (SB.out _ K2.out)).1
  go_wp2_with fail
  refine (C2.out _ K2.out).mono ?_
  rintro e w3 ⟨rfl, k3⟩
  have K3 := Lib.hid (Keeps.trans K2.out k3)
  clear k3 C2 x0 x1 x2
  go_wp2_with fail
  refine (CPs.out _ (Keeps.trans KB.out K3.out)).mono ?_
  rintro e w4 ⟨v4, rfl, r4, k4⟩
  have R4 : Hid (∀ W, Keeps w4 W → RowsIn W v4 L) := Lib.hid fun W k => r4.keeps k
  obtain ⟨p4, c4, e4, _⟩ := r4
  rw [HN.out] at e4
  subst e4
  have K4 := Lib.hid (Keeps.trans K3.out k4)
  clear k4 CPs
  go_upto_region 7 with (fail)
  have TW := Lib.hid (two_rj w4 (.int .i64 0) (.int .i64 s) (.slice p4 N c4) (.int .i64 0) (.int .i64 0) (.int .i64 0))
  obtain ⟨U, hU⟩ : ∃ U, (w4.alloc (.cells #[.int .i64 0, .int .i64 s, .slice p4 N c4] tSt)).alloc (.cells #[.int .i64 0, .int .i64 0, .int .i64 0] tRj) = U := ⟨_, rfl⟩
  rw [hU] at TW ⊢
  clear hU
  obtain ⟨⟨⟨t0, t1, t2⟩, r0, r1, r2⟩, ku⟩ := TW.out U (Keeps.refl _)
  have KU := Lib.hid (Keeps.trans K4.out ku)
  obtain ⟨x0, x1, x2⟩ := (three_atG (SB.out _ KU.out)).1
  have CM : Hid (Calls Tryd.prog 15 #[stV 0 s (.slice q N c), stV 0 s (.slice p4 N c4)] U fun e w' => e = .returned (.bool true) ∧ Keeps U w') := Lib.hid (by
    have := pw_same 0 s 0 s (.slice q N c) (.slice p4 N c4) L L U (IB.out.keeps KU.out) (R4.out U ku)
    rwa [same_self] at this)
  unfold stV at CM
  have zp : 0 < T.size := size_pos zT
  have ez := size_nz zp
  have ez2 : ¬ T = ByteArray.empty := fun e => by rw [e] at zp; simp at zp
  clear ku
  go_wp2_with fail
  refine CM.out.mono ?_
  rintro e w5 ⟨rfl, k5⟩
  have K5 := Lib.hid (Keeps.trans KB.out (Keeps.trans KU.out k5))
  clear k5 CM x0 x1 x2 t0 t1 t2 r0 r1 r2
  obtain ⟨k, hk⟩ : ∃ k : Nat, cut % T.size = k := ⟨_, rfl⟩
  have hk2 : k < T.size := by rw [← hk]; exact Nat.mod_lt _ zp
  have hk3 : (cut : Int) % (T.size : Int) = (k : Int) := by rw [← hk]; first | exact (Int.natCast_emod _ _).symm | exact (Int.ofNat_emod _ _).symm
  have hk4 : k ≤ T.size := Nat.le_of_lt hk2
  have wc := wrap_it (Nat.le_trans (Nat.le_of_lt HCU.out) (by decide))
  have wk := wrap_it (Nat.le_trans (small_k hk2 zT hbig) (by decide))
  obtain ⟨V, hV⟩ : ∃ V, T.extract 0 k = V := ⟨_, rfl⟩
  have VL : V.data.toList = (fileL s L).take k := by
    have q : (T.extract 0 k).data.toList = (T.data.toList.drop 0).take (k - 0) := by rw [← extract_list, ByteArray.toList_eq]
    rw [← hV, q, HTL.out]
    simp
  have h6 : k ≤ 100000 := small_k hk2 zT hbig
  have h5 : V.size ≤ k := by
    have h := congrArg List.length VL
    rw [len_data, List.length_take] at h
    rw [h]
    exact Nat.min_le_left _ _
  have h7 : 100000 ≤ maxLen := by decide
  have VS : V.size ≤ maxLen := Nat.le_trans h5 (Nat.le_trans h6 h7)
  have HVS := Lib.hid VS
  have HVL := Lib.hid VL
  clear VS VL h5 h7
  have HKF : Hid (k < (fileL s L).length) := Lib.hid (by
    have e := congrArg List.length HTL.out
    rw [len_data] at e
    exact e ▸ hk2)
  obtain ⟨line, col, code, h1, h2, h3⟩ := cut_file VA.out HKF.out
  have CQ : Hid (∀ W, Keeps w W → Calls Tryd.prog 12 #[.string V] W fun e w' => e = .returned (.tuple #[stV 0 0 (.slice none 0 0), .agg #[.int .i64 (line : Int), .int .i64 (col : Int), .int .i64 code]]) ∧ Keeps W w') := Lib.hid fun W kk => sl_no V line col code W (HP.out _ kk) HVS.out (by rw [HVL.out]; exact h1)
  unfold stV at CQ
  have LC : Hid (lc (1, 1) (T.data.toList.take k) = (line, col)) := Lib.hid (by rw [HTL.out]; exact h2)
  have H3 := Lib.hid h3
  have ZS := Lib.hid zT
  have HBIG := Lib.hid hbig
  clear h1 h2 h3 hk ez2 ez h6 zT hbig
  go_wp2_with fail
  refine (CQ.out _ K5.out).mono ?_
  rintro e w6 ⟨rfl, k6⟩
  have K6 := Lib.hid (Keeps.trans K5.out k6)
  clear k6 CQ hV
  go_upto_region 11 with (fail)
  have TX := Lib.hid (two_rj w6 (.int .i64 0) (.int .i64 0) (.slice none 0 0) (.int .i64 (line : Int)) (.int .i64 (col : Int)) (.int .i64 code))
  obtain ⟨X, hX⟩ : ∃ X, (w6.alloc (.cells #[.int .i64 0, .int .i64 0, .slice none 0 0] tSt)).alloc (.cells #[.int .i64 (line : Int), .int .i64 (col : Int), .int .i64 code] tRj) = X := ⟨_, rfl⟩
  rw [hX] at TX ⊢
  clear hX wc hk3
  go_wp2_with fail
  go_loopw [12, 13, 14] (fun v12 v13 v14 W => ∃ i : Nat, i ≤ k ∧ v12 = .int .i64 (((lc (1, 1) (T.data.toList.take i)).1 : Nat) : Int) ∧ v13 = .int .i64 (((lc (1, 1) (T.data.toList.take i)).2 : Nat) : Int) ∧ v14 = .int .i64 (i : Int) ∧ W = X) (fun _ _ v14 _ => k - (intOf v14).toNat)
  case atStart => exact ⟨0, by omega, rfl, rfl, rfl, rfl⟩
  case round =>
    obtain ⟨i, hi, rfl, rfl, rfl, rfl⟩ := hrel
    obtain ⟨a, ha⟩ : ∃ a, (lc (1, 1) (T.data.toList.take i)).1 = a := ⟨_, rfl⟩
    obtain ⟨b, hb⟩ : ∃ b, (lc (1, 1) (T.data.toList.take i)).2 = b := ⟨_, rfl⟩
    have hab : a ≤ 100001 ∧ b ≤ 100001 := lc_small (Nat.le_trans hi hk4) (small_t ZS.out HBIG.out) ha hb
    have HAB : Hid (lc (1, 1) (T.data.toList.take i) = (a, b)) := Lib.hid (by rw [← ha, ← hb])
    rw [ha, hb]
    obtain ⟨hab1, hab2⟩ := hab
    clear ha hb
    by_cases hlt : i < k
    · have hit : i < T.size := Nat.lt_trans hlt hk2
      obtain ⟨ch, hch⟩ : ∃ ch, T[i]'hit = ch := ⟨_, rfl⟩
      have NX : Hid (lc (1, 1) (T.data.toList.take (i + 1)) = lc1 (a, b) ch) := Lib.hid (by
        rw [← HAB.out]
        refine lc_next ?_
        rw [List.getElem?_eq_getElem (by rw [len_data]; exact hit), ← hch]
        rfl)
      have hi1 : (i : Int) < (k : Int) := cast_up hlt
      have hi0 : (0 : Int) ≤ (i : Int) := cast_nn i
      have hi2 : (i : Int) < (T.size : Int) := cast_up hit
      have wi := wrap_up (Nat.le_trans (Nat.le_of_lt hit) (Nat.le_trans (small_t ZS.out HBIG.out) (by decide)))
      have wa := wrap_up hab1
      have wb := wrap_up hab2
      have HLT := Lib.hid hlt
      have WI := Lib.hid wi
      have WA := Lib.hid wa
      have WB := Lib.hid wb
      by_cases h10 : ch = 10
      · have t10 : (((T[i]'hit).toNat : Int) == 10) = true := by rw [hch, h10]; rfl
        have R1 : Hid (lc (1, 1) (T.data.toList.take (i + 1)) = (a + 1, 1)) := Lib.hid (by rw [NX.out]; unfold lc1; rw [if_pos h10])
        clear wi wa wb h10 hch
        go_wp2
        exact ⟨⟨i + 1, HLT.out, by rw [R1.out]; rfl, by rw [R1.out]; rfl, by rw [WI.out], trivial⟩, meas_up HLT.out WI.out⟩
      · have t10 : (((T[i]'hit).toNat : Int) == 10) = false := by
          rw [hch]; exact ch_ne h10
        have R1 : Hid (lc (1, 1) (T.data.toList.take (i + 1)) = (a, b + 1)) := Lib.hid (by rw [NX.out]; unfold lc1; rw [if_neg h10])
        clear wi wa wb h10 hch
        go_wp2
        exact ⟨⟨i + 1, HLT.out, by rw [R1.out], by rw [R1.out]; rfl, by rw [WI.out], trivial⟩, meas_up HLT.out WI.out⟩
    · obtain rfl : i = k := Nat.le_antisymm hi (Nat.le_of_not_lt hlt)
      have e2 := HAB.out.symm.trans LC.out
      cases e2
      obtain ⟨⟨⟨t0, t1, t2⟩, r0, r1, r2⟩, kx⟩ := TX.out _ (Keeps.refl _)
      have CE : Hid (∀ W, Calls Tryd.prog 15 #[stV 0 0 (.slice none 0 0), stV 0 0 (.slice none 0 0)] W fun e w' => e = .returned (.bool true) ∧ Keeps W w') := Lib.hid fun W => same_zero ▸ pw_same 0 0 0 0 _ _ [] [] W (rows_nil W) (rows_nil W)
      unfold stV at CE
      clear kx
      go_wp2_with fail
      refine (CE.out _).mono ?_
      rintro e w7 ⟨rfl, k7⟩
      have K7 := Lib.hid k7
      clear k7 t0 t1 t2 r0 r1 r2 CE
      obtain ⟨⟨_, r0, r1, r2⟩, kx⟩ := TX.out _ K7.out
      have K8 := Lib.hid (Keeps.trans K6.out kx)
      clear kx
      rcases H3.out with rfl | ⟨rfl, rfl⟩
      all_goals
        go_wp2_with fail
        refine (HS.out _ K8.out).mono ?_
        rintro e w9 ⟨rfl, k9⟩
        go_wp2
        go_ret
        exact ⟨rfl, Keeps.trans K8.out k9⟩
theorem settleBack_go' (p s : Int) (v : Value) (L : List R) (n : Int) (w : World) (hp : HasP w) (hl : RowsIn w v L) (hn : (Lit.int .u16 n).wf = true) :
    Calls Tryd.prog 5 #[stV p s v, .int .u16 n] w fun e w' => e = .returned (.bool true) ∧ Keeps w w' := by
  obtain ⟨C, rfl, hC⟩ := su16_of hn
  exact settleBack_go p s v L C w hp hl hC
end Go.Proofs.YtjmaldikpdlngaaDoor
