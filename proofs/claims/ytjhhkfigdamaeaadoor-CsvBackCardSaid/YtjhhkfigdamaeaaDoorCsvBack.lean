
/- The law CsvBack, walked. -/
import Derived.Test.YtjhhkfigdamaeaaDoorCsvOpen
import Derived.Test.YtjhhkfigdamaeaaDoorCsvWant
import Derived.Test.YtjhhkfigdamaeaaDoorCsvParse
set_option linter.unusedVariables false
namespace Go.Proofs.YtjhhkfigdamaeaaDoor
open Go.ChangeShapes Go.WideShapes Go.ChangeAt Go.RowKit Go.Shelf Go.Proofs Csv

theorem u16_of {n : Int} (h : (Lit.int .u16 n).wf = true) : ∃ c : Nat, n = (c : Int) ∧ c < 65536 := by
  simp only [Lit.wf, IntKind.min, IntKind.max, IntKind.signed, IntKind.bits, Bool.and_eq_true] at h
  refine ⟨n.toNat, ?_⟩
  simp at h
  omega

set_option maxRecDepth 100000 in
set_option maxHeartbeats 8000000 in
theorem csvBack_go (v : Value) (L : List (List Bs)) (cut : Int) (w : World) (hL : RowsAt w v L) (hcut : (Lit.int .u16 cut).wf = true) (hm : HasMax w) :
    Calls Tryd.prog 5 #[v, .int .u16 cut] w fun e w' => e = .returned (.bool true) ∧ Keeps w w' := by
  have cg := great_any v L w hL
  obtain ⟨C, rfl, hC⟩ := u16_of hcut
  clear hcut
  cases hg : greatG L
  case true =>
    rw [hg] at cg
    have cw := rowed_yes w hm
    clear hg hm hL
    go_enter Tryd.func5, Tryd.ntmps5
    go_wp2_with (first
      | (go_at_call 8; refine cg.mono ?_; rintro e w' ⟨rfl, rfl⟩)
      | (go_at_call 9; refine cw.mono ?_; rintro e w2 ⟨rfl, hk2⟩))
    go_ret
    exact ⟨rfl, hk2⟩
  rw [hg] at cg
  have hf := small_fits hg
  have cp := print_any v L w hL hf hm
  have HM := Lib.hid hm
  have HF := Lib.hid hf
  have hL40 : L.length ≤ 40 := by
    unfold greatG at hg
    simp only [Bool.or_eq_false_iff, decide_eq_false_iff_not] at hg
    omega
  obtain ⟨S, hS⟩ : ∃ S : ByteArray, (⟨(prRows L).toArray⟩ : ByteArray) = S := ⟨_, rfl⟩
  have hSl : S.data.toList = prRows L := by rw [← hS]
  have hSs : S.size ≤ 900000 := by rw [← len_data, hSl]; exact hf.all
  rw [hS] at cp
  have HSL := Lib.hid hSl
  have HL := Lib.hid hL
  obtain ⟨pL, cL, hv, _⟩ := hL
  subst hv
  clear hg hm hf hS hSl
  by_cases hbig : 65536 < S.size
  · have t : decide ((65536 : Int) < (S.size : Int)) = true := decide_eq_true (by omega)
    clear hbig
    go_enter Tryd.func5, Tryd.ntmps5
    go_wp2_with (go_at_call 8; refine cg.mono ?_; rintro e w' ⟨rfl, rfl⟩)
    refine cp.mono ?_
    rintro e w1 ⟨rfl, hk1⟩
    have HK1 := Lib.hid hk1
    have cw := rowed_yes w1 (HM.out.keeps hk1)
    clear hk1 cg cp
    go_wp2_with (go_at_call 9; refine cw.mono ?_; rintro e w2 ⟨rfl, hk2⟩)
    go_ret
    exact ⟨rfl, Keeps.trans HK1.out hk2⟩
  have hS2 : S.size ≤ 65536 := by omega
  have t : decide ((65536 : Int) < (S.size : Int)) = false := decide_eq_false (by omega)
  have hrun : run st0 0 S.data.toList = .rows (L.map norm) := by rw [HSL.out]; exact run_prRows L
  have HRUN := Lib.hid hrun
  have hinfoR : (Tryd.prog.info? tR).map (fun i => (i.zero, i.size, i.bytes)) = some (some (.slice none 0 0), 1, 24) := by kernel_rfl
  obtain ⟨iR, hiR, hR⟩ := Option.map_eq_some_iff.1 hinfoR
  simp only [Prod.mk.injEq] at hR
  obtain ⟨hzR1, hzR2, hzR3⟩ := hR
  have HIR := Lib.hid hiR
  have HZ := Lib.hid (And.intro hzR1 (And.intro hzR2 hzR3))
  clear hrun hbig hinfoR hiR hzR1 hzR2 hzR3
  go_enter Tryd.func5, Tryd.ntmps5
  go_wp2_with (go_at_call 8; refine cg.mono ?_; rintro e w' ⟨rfl, rfl⟩)
  refine cp.mono ?_
  rintro e w1 ⟨rfl, hk1⟩
  have HK1 := Lib.hid hk1
  have HL1 := Lib.hid (HL.out.keeps hk1)
  have HM1 := Lib.hid (HM.out.keeps hk1)
  clear hk1 cg cp HL HM
  go_wp2
  go_loopw [6, 7] (fun vW i wx => ∃ k : Nat, k ≤ L.length ∧ i = .int .i64 k ∧ Want w1 wx vW L k ∧ Keeps w1 wx) (fun _ i _ => L.length - (intOf i).toNat)
  case atStart => exact ⟨0, by omega, rfl, Want.start _ _ _, Keeps.refl _⟩
  case round =>
    obtain ⟨k, hk, rfl, hwa, hkp⟩ := hrel
    have HW := Lib.hid hwa
    have HK := Lib.hid hkp
    clear hwa hkp
    by_cases hlt : k < L.length
    · obtain ⟨r, hr⟩ : ∃ r, L[k]? = some r := ⟨_, List.getElem?_eq_getElem hlt⟩
      obtain ⟨pL', cL', hpv, _, hrows⟩ := HL1.out
      injection hpv with e1 e2 e3
      subst e1
      subst e3
      obtain ⟨a, v', rfl, hca, hst⟩ := hrows k r hr
      have HST := Lib.hid hst
      obtain ⟨pr, cr, hvv, lr, _⟩ := hst
      subst hvv
      have hca2 := cell_keeps HK.out hca
      have HCA := Lib.hid hca
      have HR := Lib.hid hr
      obtain ⟨vals, hown, hel⟩ := HW.out
      have HEL := Lib.hid hel
      have hi1 : (k : Int) < (L.length : Int) := by omega
      unfold maxLen at lr
      clear hr hca hrows hel
      go_wp2_with (at_builtin; refine wpList_append_own_at _ rfl _ _ 22 rfl w1.heap.size tR iR (.slice none 0 0) 1 24 Tryd.underlying22 HIR.out HZ.out.1 HZ.out.2.1 HZ.out.2.2 rfl (by decide) _ _ vals rfl (hown.alloc _) ⟨wr.heap.size, 0, none⟩ 1 1 [.slice pr r.length cr] rfl rfl ?d1 ?d2 ?d3 ?d4 ?d5 ?_)
      try (case d1 => exact cell_one_new _ _ _)
      case d2 => first | rfl | (intro u hu; simp at hu; subst hu; rfl)
      case d3 => unfold maxLen; omega
      case d4 => omega
      case d5 => have := HK.out.size; simp; omega
      intro vW' w4 hown4 hgrow hnil hat
      obtain ⟨gW, cW, hvW⟩ : ∃ gW cW, vW' = .slice (some ⟨gW, 0, none⟩) (k + 1) cW := by
        rcases hown4.2 with ⟨_, h0⟩ | ⟨g, cap, cur, h0, _⟩
        · omega
        · exact ⟨g, cap, h0⟩
      subst hvW
      have hvl : vals.length = k := by have := hown.1; omega
      have hgr : Grown w1 w4 gW cW k (.slice pr r.length cr) L := grown_of (fun j q hj hq => by
        obtain ⟨u, g1, g2⟩ := HEL.out j q hj hq
        exact ⟨u, g1, g2.alloc _⟩) hvl hown4 hgrow (by rcases hat with h | h; exact Or.inl h; exact Or.inr (by rw [h]; simp))
      have hk4 : Keeps w1 w4 := Below.grown (HK.out.alloc HK.out.size (.cells #[.slice pr r.length cr] tR)) hgrow (by have := HK.out.size; simp; omega) (fun g hg => (hown.lt g hg).1)
      have HGR := Lib.hid hgr
      have HK4 := Lib.hid hk4
      clear hown4 hgrow hnil hat hgr hvl hown HEL hca2 hk4
      have hca4 := cell_keeps HK4.out HCA.out
      by_cases hr0 : r = []
      · have HR0 := Lib.hid (show L[k]? = some [] from by rw [← hr0]; exact HR.out)
        have t0 : ((r.length : Int) == 0) = true := by rw [hr0]; rfl
        obtain ⟨gc, gf, gl⟩ := HGR.out.cell
        have hlk : (k : Int) < (k : Int) + 1 := by omega
        clear hr0
        go_wp2
        go_roundw
        case rel => exact ⟨k + 1, by omega, by go_num, HGR.out.fresh HR0.out, keepsA (HK4.out.setCell (p := ⟨gW, k, none⟩) HGR.out.below _) _⟩
        case measure => simp [intOf]; omega
      · have HR0 := Lib.hid hr0
        have t0 : ((r.length : Int) == 0) = false := by
          rw [beq_eq_false_iff_ne]; intro e
          exact hr0 (List.length_eq_zero_iff.1 (by omega))
        clear hr0
        go_wp2
        go_roundw
        case rel => exact ⟨k + 1, by omega, by go_num, HGR.out.keep HR.out HST.out HR0.out, HK4.out⟩
        case measure => simp [intOf]; omega
    · obtain rfl : k = L.length := by omega
      have hz : ¬ ((L.length : Int) < (L.length : Int)) := by omega
      have hwr := HW.out.rows HK.out
      have hnl : (L.map norm).length = L.length := List.length_map ..
      obtain ⟨pW, cW, hu, _⟩ := hwr
      rw [hnl] at hu
      subst hu
      have hcap := HW.out.cap
      have HWR := Lib.hid (HW.out.rows HK.out)
      have HKA := Lib.hid (Keeps.trans HK1.out HK.out)
      have HMA := Lib.hid (HM1.out.keeps HK.out)
      have HNL := Lib.hid hnl
      clear HW HL1 HM1 hnl
      have cp1 := parse_rows S wr hS2 HMA.out HRUN.out
      go_wp2_with fail
      refine cp1.mono ?_
      rintro e w2 ⟨v1, rfl, hr1, hk2⟩
      have HJ := Lib.hid (Rej.new w2 0 0 0)
      have HR1 := Lib.hid (hr1.keeps (keepsA (Keeps.refl w2) (.cells #[.int .i64 0, .int .i64 0, .int .i64 0] 27)))
      have HK2 := Lib.hid (keepsA hk2 (.cells #[.int .i64 0, .int .i64 0, .int .i64 0] 27))
      clear hr1 hk2 cp1
      have cs1 := same_any _ _ _ _ _ HR1.out (HWR.out.keeps HK2.out)
      have hsb : ∀ A, sameB A A = true := fun A => by simp [sameB]
      rw [hsb] at cs1
      go_wp2_with fail
      refine cs1.mono ?_
      rintro e w3 ⟨rfl, hk3⟩
      have HK3 := Lib.hid (Keeps.trans HK2.out hk3)
      have HKB := Lib.hid (Keeps.trans HKA.out (Keeps.trans HK2.out hk3))
      have HMB := Lib.hid (HMA.out.keeps (Keeps.trans HK2.out hk3))
      have HWB := Lib.hid (HWR.out.keeps (Keeps.trans HK2.out hk3))
      clear hk3 cs1
      by_cases hs0 : S.size = 0
      · have hL0 : L = [] := by
          have h1 : (prRows L).length = 0 := by rw [← HSL.out, len_data]; exact hs0
          cases L with
          | nil => rfl
          | cons r M =>
            exfalso
            have e : prRows (r :: M) = prRow r ++ prRows M := rfl
            rw [e] at h1; simp [prRow] at h1
        have ts : ((S.size : Int) == 0) = true := by rw [hs0]; rfl
        have tl : ((L.length : Int) == 0) = true := by rw [hL0]; rfl
        have cw := rowed_yes w3 HMB.out
        clear hs0 hL0
        go_wp2_with (go_at_call 9; refine cw.mono ?_; rintro e w4 ⟨rfl, hk4⟩)
        go_ret
        exact ⟨rfl, Keeps.trans HKB.out hk4⟩
      have ts : ((S.size : Int) == 0) = false := beq_eq_false_iff_ne.2 (by omega)
      have hspos : (0 : Int) < (S.size : Int) := by omega
      obtain ⟨q, hq⟩ : ∃ q, C % S.size = q := ⟨_, rfl⟩
      have hqs : q < S.size := by rw [← hq]; exact Nat.mod_lt _ (by omega)
      have hq1 : (C : Int) % (S.size : Int) = (q : Int) := by rw [← hq]; simp
      have hq2 : (C : Int).tmod (S.size : Int) = (q : Int) := by rw [Int.tmod_eq_emod_of_nonneg (by omega)]; exact hq1
      obtain ⟨T, hT⟩ : ∃ T, S.extract 0 q = T := ⟨_, rfl⟩
      have hTl : T.data.toList = S.data.toList.take q := by rw [← hT, ext_take]; simp
      have hTs : T.size ≤ 65536 := by rw [← len_data, hTl, List.length_take, len_data]; omega
      have hqs2 : q ≤ S.size := by omega
      have hsplit : S.data.toList = T.data.toList ++ S.data.toList.drop q := by rw [hTl, List.take_append_drop]
      have hdr : S.data.toList.drop q ≠ [] := by
        intro e
        have := congrArg List.length e
        rw [List.length_drop, len_data, List.length_nil] at this; omega
      have HSP := Lib.hid hsplit
      have HDR := Lib.hid hdr
      have HS0 := Lib.hid hs0
      clear hs0 hq hTl hsplit hdr
      go_wp2_with fail
      cases hr : run st0 0 T.data.toList with
      | rows K =>
        have hrun := HRUN.out
        rw [HSP.out] at hrun
        obtain ⟨M, hM, hne⟩ := cut_rows hrun HDR.out hr
        have hKL : K.length < L.length := by
          rw [← HNL.out, hM, List.length_append]
          cases M with
          | nil => exact absurd rfl hne
          | cons x y => simp
        have hKT : K = (L.map norm).take K.length := by rw [hM]; simp
        have cp2 := parse_rows T w3 hTs HMB.out hr
        have HKT := Lib.hid hKT
        clear hr hrun hM hne hKT
        refine cp2.mono ?_
        rintro e w4 ⟨v2, rfl, hr2, hk4⟩
        obtain ⟨⟨e0, e1, e2⟩⟩ := And.intro (Rej.new w4 0 0 0).cells trivial
        have HR2 := Lib.hid (hr2.keeps (keepsA (Keeps.refl w4) (.cells #[.int .i64 0, .int .i64 0, .int .i64 0] 27)))
        obtain ⟨p2, c2, hv2, _⟩ := hr2
        subst hv2
        have HK4 := Lib.hid (keepsA hk4 (.cells #[.int .i64 0, .int .i64 0, .int .i64 0] 27))
        have hwb := HWB.out.keeps HK4.out
        rw [← HNL.out] at hwb
        have hwf := hwb.first HKT.out (by rw [HNL.out]; omega) cW
        have hki : (K.length : Int) < (L.length : Int) := by omega
        have hkc : (K.length : Int) ≤ (cW : Int) := by omega
        have hkc2 : K.length ≤ cW := by omega
        have cs2 := same_any _ _ _ _ _ HR2.out hwf
        rw [hsb] at cs2
        clear hk4 cp2 hwf hwb hsb e0 e1 e2
        go_wp2_with fail
        refine cs2.mono ?_
        rintro e w5 ⟨rfl, hk5⟩
        have HK5 := Lib.hid (Keeps.trans HKB.out (Keeps.trans HK4.out hk5))
        have HM5 := Lib.hid (HMB.out.keeps (Keeps.trans HK4.out hk5))
        clear hk5 cs2
        have cw := rowed_yes w5 HM5.out
        go_wp2_with (go_at_call 9; refine cw.mono ?_; rintro e w6 ⟨rfl, hk6⟩)
        go_ret
        exact ⟨rfl, Keeps.trans HK5.out hk6⟩
      | bad p c =>
        have cp2 := parse_bad T w3 hTs HMB.out hr
        obtain ⟨hc, _, _⟩ := run_code hr
        have hcl := col_le (T.data.toList.take p)
        obtain ⟨X, hX⟩ : ∃ X, lineOf (T.data.toList.take p) = X := ⟨_, rfl⟩
        obtain ⟨Y, hY⟩ : ∃ Y, colOf (T.data.toList.take p) = Y := ⟨_, rfl⟩
        have hX1 : ((X : Int) == 0) = false := by rw [← hX]; unfold lineOf; simp; omega
        rw [hX, hY] at cp2
        clear hr hX hY hcl hsb
        refine cp2.mono ?_
        rintro e w4 ⟨rfl, hk4⟩
        have HK4 := Lib.hid (keepsA hk4 (.cells #[.int .i64 (X : Int), .int .i64 (Y : Int), .int .i64 (c : Int)] 27))
        have HKC := Lib.hid (Keeps.trans HKB.out HK4.out)
        have cw := rowed_yes _ (HMB.out.keeps HK4.out)
        clear hk4 cp2
        rcases hc with rfl | rfl
        all_goals
          go_wp2_with (go_at_call 9; refine cw.mono ?_; rintro e w6 ⟨rfl, hk6⟩)
          go_ret
          exact ⟨rfl, Keeps.trans HKC.out hk6⟩
end Go.Proofs.YtjhhkfigdamaeaaDoor
