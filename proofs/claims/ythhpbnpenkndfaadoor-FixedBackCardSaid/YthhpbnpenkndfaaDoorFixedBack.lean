
/- The law FixedBack, walked. -/
import Derived.Test.YthhpbnpenkndfaaDoorFixedBackM
set_option linter.unusedVariables false
namespace Go.Proofs.YthhpbnpenkndfaaDoor
open Go.ChangeShapes Go.WideShapes Go.ChangeAt Go.RowKit Csv Fix

theorem u16_of {n : Int} (h : (Lit.int .u16 n).wf = true) : ∃ A : Nat, n = (A : Int) ∧ A ≤ 65535 := by
  simp [Lit.wf, IntKind.min, IntKind.max, IntKind.signed, IntKind.bits] at h
  exact ⟨n.toNat, by omega, by omega⟩
theorem take_snoc1 {α : Type} {l : List α} {k : Nat} {x : α} (h : l[k]? = some x) : l.take (k + 1) = l.take k ++ [x] := by rw [List.take_add_one, h]; rfl

/-- Fields and widths under way. -/
def BackRel (w : World) (F : List Bs) (U : Bs) (vo vW vs vi : Value) (wx : World) : Prop :=
  ∃ k S : Nat, k ≤ F.length ∧ vi = .int .i64 k ∧ vs = .int .i64 S ∧ S = sumW ((wsB F U).take k) ∧ S ≤ 356 * k ∧ (∀ j f, j < k → F[j]? = some f → f.length ≤ 100) ∧
    wx.ownsRow w.heap.size tS 1 vo k (svs ((F.map cleanL).take k)) ∧ wx.ownsRow w.heap.size 3 1 vW k (ivs ((wsB F U).take k)) ∧ Keeps w wx

theorem drewN_kept (w : World) (n : Nat) : Keeps w (w.drewN n) := ⟨rfl, rfl, rfl, Nat.le_refl _, fun _ _ => rfl⟩
theorem kept_on {w w' : World} {B : Nat} {e : TypeId} {v : Value} {n : Nat} {xs : List Value} (h : w.ownsRow B e 1 v n xs) (k : Keeps w w') : w'.ownsRow B e 1 v n xs :=
  h.kept (grown_of_keeps k) (by cases v.ownBlock <;> simp)

set_option maxRecDepth 100000 in
set_option maxHeartbeats 8000000 in
theorem fixedBack_go (vF : Value) (F : List Bs) (vU : Value) (U : Bs) (A : Int) (w : World) (hF : StrsAt w vF F) (hbig : ∀ f ∈ F, f.length ≤ maxLen) (hU : U8sAt w vU U) (hA : (Lit.int .u16 A).wf = true) :
    Calls Tryd.prog 5 #[vF, vU, .int .u16 A] w fun e w' => e = .returned (.bool true) ∧ Keeps w w' := by
  obtain ⟨A, rfl, hA⟩ := u16_of hA
  have hinfoI : (Tryd.prog.info? 3).map (fun i => (i.zero, i.size, i.bytes)) = some (some (.int .i64 0), 1, 8) := by kernel_rfl
  obtain ⟨iI, hiI, hI⟩ := Option.map_eq_some_iff.1 hinfoI
  simp only [Prod.mk.injEq] at hI
  obtain ⟨hzI1, hzI2, hzI3⟩ := hI
  have HII := Lib.hid hiI
  have HZ := Lib.hid (And.intro hzI1 (And.intro hzI2 hzI3))
  clear hinfoI hiI hzI1 hzI2 hzI3
  have hinfoS : (Tryd.prog.info? tS).map (fun i => (i.zero, i.size, i.bytes)) = some (some (.string ByteArray.empty), 1, 16) := by kernel_rfl
  obtain ⟨iS, hiS, hS⟩ := Option.map_eq_some_iff.1 hinfoS
  simp only [Prod.mk.injEq] at hS
  obtain ⟨hzS1, hzS2, hzS3⟩ := hS
  have HIS := Lib.hid hiS
  have HY := Lib.hid (And.intro hzS1 (And.intro hzS2 hzS3))
  clear hinfoS hiS hzS1 hzS2 hzS3
  have cl := lined_yes w
  have HB := Lib.hid hbig
  obtain ⟨pF, cF, rfl, lF, hF⟩ := hF
  obtain ⟨pU, cU, rfl, lU, hU⟩ := hU
  have HF := Lib.hid hF
  have HU := Lib.hid hU
  clear hF hU hbig
  unfold maxLen at lF lU
  by_cases h1 : 40 < F.length
  · have t1 : decide ((40 : Int) < (F.length : Int)) = true := decide_eq_true (by omega)
    clear h1
    go_enter Tryd.func5, Tryd.ntmps5
    go_wp2_with (go_at_call 7; refine cl.mono ?_; rintro e w' ⟨rfl, hk⟩)
    go_ret
    exact ⟨rfl, hk⟩
  have t1 : decide ((40 : Int) < (F.length : Int)) = false := decide_eq_false (by omega)
  have hl40 : F.length ≤ 40 := by omega
  clear h1 cl
  go_enter Tryd.func5, Tryd.ntmps5
  go_wp2
  clear t1
  go_loopw [7, 8, 9, 10] (fun vo vW vs vi wx => BackRel w F U vo vW vs vi wx) (fun _ _ _ i _ => F.length - (intOf i).toNat)
  case atStart => exact ⟨0, 0, by omega, rfl, rfl, rfl, by omega, fun j f hj => by omega, World.ownsRow_nil _ _ _ _, World.ownsRow_nil _ _ _ _, Keeps.refl _⟩
  case round =>
    obtain ⟨k, S, hk, rfl, rfl, hS, hS40, hall, hown, hint, hkp⟩ := hrel
    have HS := Lib.hid hS
    have HOW := Lib.hid hown
    have HIT := Lib.hid hint
    have HK := Lib.hid hkp
    have HALL := Lib.hid hall
    clear hS hown hint hkp hall
    by_cases hlt : k < F.length
    · obtain ⟨f, hf⟩ : ∃ f, F[k]? = some f := ⟨_, List.getElem?_eq_getElem hlt⟩
      obtain ⟨a, rfl, hca⟩ := HF.out k f hf
      obtain ⟨X, hX⟩ : ∃ X : ByteArray, (⟨f.toArray⟩ : ByteArray) = X := ⟨_, rfl⟩
      have hXs : X.size = f.length := by rw [← hX, size_mk]
      have hXd : X.data.toList = f := by rw [← hX]
      have hca2 : wr.cell? (a.add k) = some (.string X) := by rw [← hX]; exact cell_keeps HK.out hca
      have hi1 : (k : Int) < (F.length : Int) := by omega
      have hfb : f.length ≤ maxLen := HB.out f (List.mem_of_getElem? hf)
      unfold maxLen at hfb
      have HW1 := Lib.hid (wsB_at (U := U) hf)
      have HFK := Lib.hid hf
      clear hca hX
      by_cases h100 : 100 < f.length
      · have t3 : decide ((100 : Int) < (X.size : Int)) = true := decide_eq_true (by omega)
        have cl := lined_yes wr
        clear h100 hXs hXd hf
        go_wp2_with (go_at_call 7; refine cl.mono ?_; rintro e w' ⟨rfl, hk⟩)
        go_ret
        exact ⟨rfl, Keeps.trans HK.out hk⟩
      · have t3 : decide ((100 : Int) < (X.size : Int)) = false := decide_eq_false (by omega)
        have hX100 : X.size ≤ 100 := by omega
        have HALL2 := Lib.hid (show ∀ j g, j < k + 1 → F[j]? = some g → g.length ≤ 100 from fun j g hj hg => by
          by_cases hjk : j < k
          · exact HALL.out j g hjk hg
          · obtain rfl : j = k := by omega
            rw [hf] at hg
            cases hg; omega)
        obtain ⟨M, hM⟩ : ∃ M, X.size + 1 + more U[k]? = M := ⟨_, rfl⟩
        have hM300 : M ≤ 356 := by have := more_lt U[k]?; omega
        have HCO := Lib.hid (show svs ((F.map cleanL).take k) ++ [sv (cleanL f)] = svs ((F.map cleanL).take (k + 1)) from by
          rw [svs_snoc, take_snoc1 (x := cleanL f) (by rw [List.getElem?_map, hf]; rfl)])
        have HCW := Lib.hid (show ivs ((wsB F U).take k) ++ [.int .i64 (M : Int)] = ivs ((wsB F U).take (k + 1)) from by
          have e : wB f U[k]? = (M : Int) := by unfold wB; rw [← hM, hXs]
          rw [take_snoc1 HW1.out, ← ivs_snoc, e])
        have HST := Lib.hid (show S + M = sumW ((wsB F U).take (k + 1)) from by
          rw [sumW_take _ _ _ HW1.out, HS.out]; unfold wB; omega)
        have cc := clean_any X wr (by omega)
        rw [hXd] at cc
        have hways : (U.length ≤ k ∧ (X.size : Int) + 1 = (M : Int)) ∨ (∃ c, U[k]? = some c ∧ (X.size : Int) + 1 + (c.toNat : Int) = (M : Int)) := by
          cases hu : U[k]? with
          | none =>
            rw [hu] at hM
            simp only [more] at hM
            exact Or.inl ⟨by simpa using hu, by omega⟩
          | some c =>
            rw [hu] at hM
            simp only [more] at hM
            exact Or.inr ⟨c, rfl, by omega⟩
        clear h100 hXs hXd hf hM
        rcases hways with ⟨hw1, hw2⟩ | ⟨c, hw1, hw2⟩
        · have t4 : decide (k < U.length) = false := decide_eq_false (by omega)
          clear hw1
          go_wp2_with fail
          refine cc.mono ?_
          rintro e w1 ⟨rfl, hk1⟩
          have HK1 := Lib.hid hk1
          clear hk1 cc hca2
          go_wp2_with (at_builtin; refine wpList_append_own_at _ rfl _ _ tR rfl w.heap.size tS iS (.string ByteArray.empty) 1 16 Tryd.underlying23 HIS.out HY.out.1 HY.out.2.1 HY.out.2.2 rfl (by decide) _ _ _ rfl ((kept_on HOW.out HK1.out).alloc _) ⟨w1.heap.size, 0, none⟩ 1 1 [sv (cleanL f)] rfl rfl ?c1 ?c2 ?c3 ?c4 ?c5 ?_)
          case c1 => exact cell_one_new _ _ _
          case c2 => intro u hu; simp at hu; subst hu; rfl
          case c3 => unfold maxLen; omega
          case c4 => omega
          case c5 => have h1 := HK.out.size; have h2 := HK1.out.size; simp; omega
          intro vo' w4 hown4 hgrow hnil hat
          have hO1 := kept_on HOW.out HK1.out
          have hI1 := kept_on HIT.out HK1.out
          have hb1 := Keeps.trans HK.out HK1.out
          have HI4 := Lib.hid ((hI1.alloc (.cells #[sv (cleanL f)] tS)).kept hgrow (own_ne hI1 hO1 (by decide)))
          have HK4 := Lib.hid (Below.grown (hb1.alloc hb1.size (.cells #[sv (cleanL f)] tS)) hgrow (by have := hb1.size; simp; omega) (fun q hq => by have := (hO1.lt q hq).1; omega))
          rw [HCO.out] at hown4
          have HO4 := Lib.hid hown4
          clear hown4 hgrow hnil hat hb1 hO1 hI1
          go_wp2_with (at_builtin; refine wpList_append_own_at _ rfl _ _ 22 rfl w.heap.size 3 iI (.int .i64 0) 1 8 Tryd.underlying22 HII.out HZ.out.1 HZ.out.2.1 HZ.out.2.2 rfl (by decide) _ _ _ rfl (HI4.out.alloc _) ⟨w4.heap.size, 0, none⟩ 1 1 [.int .i64 (M : Int)] rfl rfl ?cc1 ?cc2 ?cc3 ?cc4 ?cc5 ?_)
          case cc1 => exact cell_one_new _ _ _
          case cc2 => intro u hu; simp at hu; subst hu; rfl
          case cc3 => unfold maxLen; omega
          case cc4 => omega
          case cc5 => have h1 := HK4.out.size; simp; omega
          intro vw' w6 hown6 hgrow hnil hat
          have hb4 := HK4.out
          have HO6 := Lib.hid ((HO4.out.alloc (.cells #[.int .i64 (M : Int)] 3)).kept hgrow (own_ne HO4.out HI4.out (by decide)))
          have HK6 := Lib.hid (Below.grown (hb4.alloc hb4.size (.cells #[.int .i64 (M : Int)] 3)) hgrow (by have := hb4.size; simp; omega) (fun q hq => by have := (HI4.out.lt q hq).1; omega))
          rw [HCW.out] at hown6
          have HW6 := Lib.hid hown6
          clear hown6 hgrow hnil hat hb4
          go_wp2
          go_roundw
          case rel => exact ⟨k + 1, S + M, by omega, by go_num, by go_num, HST.out, by omega, HALL2.out, HO6.out, HW6.out, HK6.out⟩
          case measure => simp [intOf]; omega
        · have hkU : k < U.length := (List.getElem?_eq_some_iff.1 hw1).1
          have t4 : decide (k < U.length) = true := decide_eq_true (by omega)
          have hkU2 : (k : Int) < (U.length : Int) := by omega
          obtain ⟨au, rfl, hcu⟩ := HU.out k c hw1
          have hcu2 := cell_keeps HK.out hcu
          have hcl := c.toNat_lt
          clear hw1 hcu
          go_wp2_with fail
          refine cc.mono ?_
          rintro e w1 ⟨rfl, hk1⟩
          have HK1 := Lib.hid hk1
          clear hk1 cc hca2
          go_wp2_with (at_builtin; refine wpList_append_own_at _ rfl _ _ tR rfl w.heap.size tS iS (.string ByteArray.empty) 1 16 Tryd.underlying23 HIS.out HY.out.1 HY.out.2.1 HY.out.2.2 rfl (by decide) _ _ _ rfl ((kept_on HOW.out HK1.out).alloc _) ⟨w1.heap.size, 0, none⟩ 1 1 [sv (cleanL f)] rfl rfl ?d1 ?d2 ?d3 ?d4 ?d5 ?_)
          case d1 => exact cell_one_new _ _ _
          case d2 => intro u hu; simp at hu; subst hu; rfl
          case d3 => unfold maxLen; omega
          case d4 => omega
          case d5 => have h1 := HK.out.size; have h2 := HK1.out.size; simp; omega
          intro vo' w4 hown4 hgrow hnil hat
          have hO1 := kept_on HOW.out HK1.out
          have hI1 := kept_on HIT.out HK1.out
          have hb1 := Keeps.trans HK.out HK1.out
          have HI4 := Lib.hid ((hI1.alloc (.cells #[sv (cleanL f)] tS)).kept hgrow (own_ne hI1 hO1 (by decide)))
          have HK4 := Lib.hid (Below.grown (hb1.alloc hb1.size (.cells #[sv (cleanL f)] tS)) hgrow (by have := hb1.size; simp; omega) (fun q hq => by have := (hO1.lt q hq).1; omega))
          rw [HCO.out] at hown4
          have HO4 := Lib.hid hown4
          clear hown4 hgrow hnil hat hb1 hO1 hI1
          go_wp2_with (at_builtin; refine wpList_append_own_at _ rfl _ _ 22 rfl w.heap.size 3 iI (.int .i64 0) 1 8 Tryd.underlying22 HII.out HZ.out.1 HZ.out.2.1 HZ.out.2.2 rfl (by decide) _ _ _ rfl (HI4.out.alloc _) ⟨w4.heap.size, 0, none⟩ 1 1 [.int .i64 (M : Int)] rfl rfl ?dd1 ?dd2 ?dd3 ?dd4 ?dd5 ?_)
          case dd1 => exact cell_one_new _ _ _
          case dd2 => intro u hu; simp at hu; subst hu; rfl
          case dd3 => unfold maxLen; omega
          case dd4 => omega
          case dd5 => have h1 := HK4.out.size; simp; omega
          intro vw' w6 hown6 hgrow hnil hat
          have hb4 := HK4.out
          have HO6 := Lib.hid ((HO4.out.alloc (.cells #[.int .i64 (M : Int)] 3)).kept hgrow (own_ne HO4.out HI4.out (by decide)))
          have HK6 := Lib.hid (Below.grown (hb4.alloc hb4.size (.cells #[.int .i64 (M : Int)] 3)) hgrow (by have := hb4.size; simp; omega) (fun q hq => by have := (HI4.out.lt q hq).1; omega))
          rw [HCW.out] at hown6
          have HW6 := Lib.hid hown6
          clear hown6 hgrow hnil hat hb4
          go_wp2
          go_roundw
          case rel => exact ⟨k + 1, S + M, by omega, by go_num, by go_num, HST.out, by omega, HALL2.out, HO6.out, HW6.out, HK6.out⟩
          case measure => simp [intOf]; omega
    · obtain rfl : k = F.length := by omega
      have hz : ¬ ((F.length : Int) < (F.length : Int)) := by omega
      obtain ⟨W, hW⟩ : ∃ W, wsB F U = W := ⟨_, rfl⟩
      obtain ⟨O, hO⟩ : ∃ O, F.map cleanL = O := ⟨_, rfl⟩
      have hF100 : ∀ f ∈ F, f.length ≤ 100 := fun f hf => by
        obtain ⟨j, hj⟩ := List.getElem?_of_mem hf
        exact HALL.out j f (List.getElem?_eq_some_iff.1 hj).1 hj
      have hWl : W.length = F.length := by rw [← hW]; exact wsB_len F U
      have hOl : O.length = F.length := by rw [← hO]; simp
      have HOK := Lib.hid (show okW W = true from by rw [← hW]; exact back_ok F U hl40 hF100)
      have HFT := Lib.hid (show fitsTo W O = true from by rw [← hW, ← hO]; exact back_fits F U)
      have HWO := Lib.hid (show W.length = O.length from by rw [hWl, hOl])
      have HO100 := Lib.hid (show ∀ f ∈ O, f.length ≤ 1100 from fun f hf => by
        rw [← hO] at hf
        obtain ⟨g, hg, rfl⟩ := List.mem_map.1 hf
        have := hF100 g hg
        rw [cleanL_len]; omega)
      have HSW := Lib.hid (show S = sumW W from by rw [HS.out, hW, List.take_of_length_le (by rw [hWl]; exact Nat.le_refl _)])
      have hIW : IntsAt wr u8 W := by
        have h := HIT.out
        rw [hW, List.take_of_length_le (by rw [hWl]; exact Nat.le_refl _), ← hWl] at h
        exact own_ints h
      have hSO : StrsAt wr u7 O := by
        have h := HOW.out
        rw [hO, List.take_of_length_le (by rw [hOl]; exact Nat.le_refl _), ← hOl] at h
        exact own_strs h
      have HIW := Lib.hid hIW
      have HSO := Lib.hid hSO
      have hN : S ≤ 14240 := by omega
      clear hF100 hWl hOl hW hO HS HALL HIT HOW
      obtain ⟨pW, cW, rfl, _⟩ := hIW
      obtain ⟨pO, cO, rfl, _⟩ := hSO
      obtain ⟨L, hL⟩ : ∃ L, lineS W O = L := ⟨_, rfl⟩
      have HLL := Lib.hid (show L.length = sumW W from by rw [← hL]; exact lineS_len W O HWO.out HFT.out)
      have HLO := Lib.hid (show L.all okB = true from by rw [← hL]; exact lineS_ok W O HFT.out)
      have HPR := Lib.hid (show pr W O = L from by rw [pr_yes HOK.out HWO.out HFT.out, hL])
      have HPA := Lib.hid (show pa W L = (O, 0) from by rw [← hL]; exact pa_pr HOK.out HWO.out HFT.out)
      clear hL
      obtain ⟨SX, hSX⟩ : ∃ SX : ByteArray, (⟨L.toArray⟩ : ByteArray) = SX := ⟨_, rfl⟩
      have hXd : SX.data.toList = L := by rw [← hSX]
      have HXD := Lib.hid hXd
      have hXs : SX.size = S := by rw [HSW.out, ← HLL.out, ← hXd, len_data]
      have HXS := Lib.hid hXs
      have t5 : ((SX.size : Int) != (S : Int)) = false := by simp [bne, hXs]
      have hXb : SX.size ≤ 14240 := by omega
      clear hSX hXd hXs
      go_wp2_with fail
      refine (fprint_is (x := SX) HIW.out HSO.out HO100.out (by rw [HPR.out, HXD.out])).mono ?_
      rintro e w1 ⟨rfl, hk1⟩
      have HK1 := Lib.hid (Keeps.trans HK.out hk1)
      have HW1 := Lib.hid (HIW.out.keeps hk1)
      have HS1 := Lib.hid (HSO.out.keeps hk1)
      clear hk1
      go_wp2_with fail
      refine (fparse_is (F := O) (c := 0) HW1.out (by unfold maxLen; omega) (by rw [HXD.out, HPA.out])).mono ?_
      rintro e w2 ⟨v2, rfl, hs2, hk2⟩
      have HK2 := Lib.hid (Keeps.trans HK1.out hk2)
      have HW2 := Lib.hid (HW1.out.keeps hk2)
      have HS2 := Lib.hid (HS1.out.keeps hk2)
      have HV2 := Lib.hid hs2
      obtain ⟨p2, c2, rfl, _⟩ := hs2
      clear hk2
      go_wp2_with fail
      refine (fsame_any _ _ O O _ HV2.out HS2.out).mono ?_
      rw [sameF_self]
      rintro e w3 ⟨rfl, hk3⟩
      have HK3 := Lib.hid (Keeps.trans HK2.out hk3)
      have HW3 := Lib.hid (HW2.out.keeps hk3)
      clear hk3
      obtain ⟨SX1, hX1⟩ : ∃ SX1, SX ++ ⟨#[120]⟩ = SX1 := ⟨_, rfl⟩
      have HX1 := Lib.hid (show SX1.data.toList = L ++ [120] from by rw [← hX1, ← HXD.out]; simp)
      have hX1s : SX.size + 1 ≤ 20000 := by omega
      have hX1m : SX1.size ≤ 20000 := by rw [← len_data, HX1.out, List.length_append, HLL.out, ← HSW.out]; simp; omega
      go_wp2_with fail
      refine (fparse_is (F := []) (c := S + 1) HW3.out (by unfold maxLen; omega) (by rw [HX1.out, HSW.out]; exact pa_more 120 HOK.out HLL.out)).mono ?_
      rintro e w4 ⟨v4, rfl, hs4, hk4⟩
      have HK4 := Lib.hid (Keeps.trans HK3.out hk4)
      have HW4 := Lib.hid (HW3.out.keeps hk4)
      obtain ⟨p4, c4, rfl, _⟩ := hs4
      clear hk4 hX1
      by_cases hS0 : S = 0
      · have t6 : ((S : Int) == 0) = true := by rw [hS0]; rfl
        have cl4 := lined_yes w4
        clear hS0
        go_wp2_with (go_at_call 7; refine cl4.mono ?_; rintro e w' ⟨rfl, hk⟩)
        go_ret
        exact ⟨rfl, Keeps.trans HK4.out hk⟩
      · have t6 : ((S : Int) == 0) = false := beq_eq_false_iff_ne.2 (by omega)
        obtain ⟨m, hm⟩ : ∃ m, S = m + 1 := ⟨S - 1, by omega⟩
        have hmI : (S : Int) - 1 = (m : Int) := by omega
        have hmX : m ≤ SX.size := by have := HXS.out; omega
        obtain ⟨K, hK⟩ : ∃ K, A % S = K := ⟨_, rfl⟩
        have hKI : (A : Int) % (S : Int) = (K : Int) := by omega
        have hKS : K < S := by rw [← hK]; exact Nat.mod_lt _ (by omega)
        have hKX : K ≤ SX.size := by have := HXS.out; omega
        have hKX1 : K < SX.size := by have := HXS.out; omega
        obtain ⟨K1, hK1⟩ : ∃ K1, K1 = K + 1 := ⟨_, rfl⟩
        have hK1I : (K : Int) + 1 = (K1 : Int) := by omega
        have hK1X : K1 ≤ SX.size := by omega
        obtain ⟨Y0, hY0⟩ : ∃ Y0, SX.extract 0 m = Y0 := ⟨_, rfl⟩
        have HY0 := Lib.hid (show Y0.data.toList = L.take m from by
          have := extract_list SX 0 m
          rw [ByteArray.toList_eq, HXD.out, hY0] at this
          simpa using this)
        have HY0L := Lib.hid (show Y0.data.toList.length + 1 = sumW W from by
          rw [HY0.out, List.length_take, HLL.out, ← HSW.out]; omega)
        obtain ⟨Y1, hY1⟩ : ∃ Y1, SX.extract 0 K = Y1 := ⟨_, rfl⟩
        obtain ⟨Y2, hY2⟩ : ∃ Y2, Y1 ++ ⟨#[31]⟩ = Y2 := ⟨_, rfl⟩
        obtain ⟨Y3, hY3⟩ : ∃ Y3, SX.extract K1 SX.size = Y3 := ⟨_, rfl⟩
        obtain ⟨Y4, hY4⟩ : ∃ Y4, Y2 ++ Y3 = Y4 := ⟨_, rfl⟩
        have e1 : Y1.data.toList = L.take K := by
          have := extract_list SX 0 K
          rw [ByteArray.toList_eq, HXD.out, hY1] at this
          simpa using this
        have e3 : Y3.data.toList = L.drop (K + 1) := by
          have := extract_list SX K1 SX.size
          rw [ByteArray.toList_eq, HXD.out, hY3, List.take_of_length_le (by rw [List.length_drop, HLL.out, ← HSW.out, HXS.out]; exact Nat.le_refl _), hK1] at this
          exact this
        have HY4 := Lib.hid (show Y4.data.toList = L.take K ++ ([31] ++ L.drop (K + 1)) from by
          rw [← hY4, ← hY2]
          simp [e1, e3])
        have hY1s : Y1.size + 1 ≤ 20000 := by rw [← len_data, e1, List.length_take]; omega
        have hY2s : Y2.size + Y3.size ≤ 60000 := by
          have h2 : Y2.size ≤ 20000 := by rw [← len_data, ← hY2]; simp [e1]; omega
          have h3 : Y3.size ≤ 20000 := by rw [← len_data, e3, List.length_drop, HLL.out, ← HSW.out]; omega
          omega
        have HLK := Lib.hid (show K < L.length from by rw [HLL.out, ← HSW.out]; exact hKS)
        have HY4S := Lib.hid (show Y4.size ≤ maxLen from by
          rw [← len_data, HY4.out]
          simp only [List.length_append, List.length_take, List.length_drop, List.length_cons, List.length_nil]
          rw [HLL.out, ← HSW.out]; unfold maxLen; omega)
        have HY0S := Lib.hid (show Y0.size ≤ maxLen from by
          rw [← len_data, HY0.out, List.length_take]; unfold maxLen; omega)
        clear e1 e3 hK hm hS0 hK1
        go_wp2_with fail
        refine (fparse_is (F := []) (c := S) HW4.out HY0S.out (by rw [HSW.out]; exact pa_less HOK.out HY0L.out)).mono ?_
        rintro e w5 ⟨v5, rfl, hs5, hk5⟩
        have HK5 := Lib.hid (Keeps.trans HK4.out hk5)
        have HW5 := Lib.hid (HW4.out.keeps hk5)
        obtain ⟨p5, c5, rfl, _⟩ := hs5
        clear hk5 hY0
        have hwr : IntKind.i64.wrap (K1 : Int) = (K1 : Int) := IntWalk.i64_in _ (by omega)
        have hwk : IntKind.i64.wrap ((K : Int) + 1) = (K1 : Int) := by rw [hK1I]; exact hwr
        have hct1 : ¬ (9223372036854775807 < Y1.size + 1) := by omega
        have hct2 : ¬ (9223372036854775807 < Y2.size + Y3.size) := by omega
        have HC6 := Lib.hid (show ∀ W6, Keeps w5 W6 → Calls Tryd.prog 10 #[.slice pW W.length cW, .string Y4] W6 (Told [] (K + 1) W6) from fun W6 hk =>
          fparse_is (F := []) (c := K + 1) (HW5.out.keeps hk) HY4S.out (by rw [HY4.out]; exact pa_bent HOK.out HLL.out HLO.out HLK.out))
        go_wp2_with fail
        go_region_with (go_at_call 10; refine (HC6.out _ (by first | exact Keeps.refl _ | exact (Below.refl _ _).drew | exact drewN_kept _ _)).mono ?_; rintro e w6 ⟨v6, rfl, hs6, hk6⟩; obtain ⟨p6, c6, rfl, _⟩ := hs6)
        clear hct1 hct2 hwr hwk hY1 hY2 hY3 hY4
        have t8 : ((K : Int) + 1 == (K1 : Int)) = true := by rw [← hK1I]; simp
        go_wp2_with (go_at_call 7; refine (lined_yes _).mono ?_; rintro e w' ⟨rfl, hk⟩)
        go_ret
        first
          | exact ⟨rfl, Keeps.trans (Keeps.trans HK5.out hk6) hk⟩
          | exact ⟨rfl, Keeps.trans HK5.out (Keeps.trans ((Below.refl _ _).drew) (Keeps.trans hk6 hk))⟩
          | exact ⟨rfl, Keeps.trans HK5.out (Keeps.trans hk6.drew hk)⟩
          | exact ⟨rfl, Keeps.trans HK5.out (Keeps.trans (drewN_kept _ _) (Keeps.trans hk6 hk))⟩
end Go.Proofs.YthhpbnpenkndfaaDoor
