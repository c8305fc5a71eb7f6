
/- The document's own answer for fixed: Parse. -/
import Derived.Test.YthhpbnpenkndfaaDoorFixedRefC
import Derived.Test.YthhpbnpenkndfaaDoorFixedParseC
set_option linter.unusedVariables false
namespace Go.Proofs.YthhpbnpenkndfaaDoor
open Go.ChangeShapes Go.WideShapes Go.ChangeAt Go.RowKit Csv Fix

/-- A line under way. -/
def RParRel (w : World) (W : List Int) (l : Bs) (vf va vi : Value) (wx : World) : Prop :=
  ∃ k o : Nat, k ≤ W.length ∧ vi = .int .i64 k ∧ va = .int .i64 o ∧ o = sumW (W.take k) ∧ o ≤ l.length ∧ wx.ownsRow w.heap.size tS 1 vf k (svs (cutS (W.take k) l)) ∧ Keeps w wx

def strSizeOf : Value → Nat | .string s => s.size | _ => 0
theorem ext_list (s : ByteArray) (a b : Nat) : (s.extract a b).data.toList = (s.data.toList.drop a).take (b - a) := by
  rw [← extract_list, ByteArray.toList_eq]

set_option maxRecDepth 100000 in
set_option maxHeartbeats 4000000 in
theorem rfparse_any (vW : Value) (W : List Int) (s : ByteArray) (w : World) (hW : IntsAt w vW W) (hs : s.size ≤ maxLen) :
    Calls Tryd.prog 11 #[vW, .string s] w (FixOut W s.data.toList w) := by
  have hinfoS : (Tryd.prog.info? tS).map (fun i => (i.zero, i.size, i.bytes)) = some (some (.string ByteArray.empty), 1, 16) := by kernel_rfl
  obtain ⟨iS, hiS, hS⟩ := Option.map_eq_some_iff.1 hinfoS
  simp only [Prod.mk.injEq] at hS
  obtain ⟨hzS1, hzS2, hzS3⟩ := hS
  have HIS := Lib.hid hiS
  have HZ := Lib.hid (And.intro hzS1 (And.intro hzS2 hzS3))
  clear hinfoS hiS hzS1 hzS2 hzS3
  have ctg := all_any vW W w hW
  obtain ⟨pW, cW, rfl, lW, hW⟩ := hW
  have HW := Lib.hid hW
  clear hW
  unfold maxLen at lW hs
  cases hok : okW W with
  | false =>
    rw [allI_no hok] at ctg
    have H := Lib.hid (pa_wide s.data.toList hok)
    clear hok
    go_enter Tryd.func11, Tryd.ntmps11
    go_wp2_with (go_at_call 19; refine ctg.mono ?_; rintro e w' ⟨rfl, rfl⟩)
    go_ret2
    exact fixOut_no H.out rfl
  | true =>
    rw [allI_yes hok] at ctg
    have HOK := Lib.hid hok
    have hsum := okW_sum hok
    have hWl := okW_len hok
    obtain ⟨N, hN⟩ : ∃ N, sumW W = N := ⟨_, rfl⟩
    rw [hN] at ctg hsum
    have HN := Lib.hid hN
    have t0 : decide ((N : Int) < 0) = false := decide_eq_false (by omega)
    clear hok hN
    by_cases hlen : s.size = N
    · have t1 : ((s.size : Int) != (N : Int)) = false := by simp [bne, hlen]
      have HE := Lib.hid hlen
      have HL := Lib.hid (show s.data.toList.length = sumW W from by rw [len_data, hlen, HN.out])
      clear hlen
      go_enter Tryd.func11, Tryd.ntmps11
      go_wp2_with (go_at_call 19; refine ctg.mono ?_; rintro e w' ⟨rfl, rfl⟩)
      clear ctg t0 t1
      go_loop [7] (fun i => ∃ k : Nat, k ≤ N ∧ i = .int .i64 k ∧ (s.data.toList.take k).all okB = true) (fun i => N - (intOf i).toNat)
      case atStart => exact ⟨0, by omega, rfl, rfl⟩
      case round =>
        obtain ⟨k, hk, rfl, hall⟩ := hrel
        have HA := Lib.hid hall
        clear hall
        by_cases hlt : k < N
        · have hls : k < s.size := by rw [HE.out]; exact hlt
          obtain ⟨c, hc⟩ : ∃ c, s[k]'hls = c := ⟨_, rfl⟩
          have hc2 : s[(k : Int).toNat]'(by simpa using hls) = c := by simpa using hc
          have HC := Lib.hid (show s.data.toList[k]? = some c from by rw [Lib.data_getElem? s k hls, hc])
          have hi1 : (k : Int) < (N : Int) := by omega
          have hi2 : (k : Int) < (s.size : Int) := by omega
          by_cases h1 : c.toNat < 32
          · have t1 : decide ((c.toNat : Int) < 32) = true := decide_eq_true (by omega)
            have H := Lib.hid (show pa W s.data.toList = ([], k + 1) from pa_odd HOK.out HL.out (odd_some HA.out HC.out (by unfold okB; rw [decide_eq_false (by omega)]; rfl)))
            go_wp2
            go_ret2
            exact fixOut_no H.out (by omega)
          · by_cases h2 : 126 < c.toNat
            · have t1 : decide ((c.toNat : Int) < 32) = false := decide_eq_false (by omega)
              have t2 : decide ((126 : Int) < (c.toNat : Int)) = true := decide_eq_true (by omega)
              have H := Lib.hid (show pa W s.data.toList = ([], k + 1) from pa_odd HOK.out HL.out (odd_some HA.out HC.out (by unfold okB; rw [decide_eq_false (show ¬ c.toNat ≤ 126 by omega), Bool.and_false])))
              go_wp2
              go_ret2
              exact fixOut_no H.out (by omega)
            · have t1 : decide ((c.toNat : Int) < 32) = false := decide_eq_false (by omega)
              have t2 : decide ((126 : Int) < (c.toNat : Int)) = false := decide_eq_false (by omega)
              have H := Lib.hid (all_take HA.out HC.out (show okB c = true from (okB_iff c).2 ⟨by omega, by omega⟩))
              go_wp2
              go_round
              case rel => exact ⟨k + 1, by omega, by go_num, H.out⟩
              case measure => simp [intOf]; omega
        · obtain rfl : k = N := by omega
          have hz : ¬ ((k : Int) < (k : Int)) := by omega
          have H := Lib.hid (show pa W s.data.toList = (cutS W s.data.toList, 0) from pa_yes HOK.out HL.out (odd_none (by have h := HA.out; rwa [List.take_of_length_le (by rw [len_data, HE.out]; exact Nat.le_refl _)] at h)))
          go_wp2
          clear hz
          go_loopw [8, 9, 10] (fun vf va vi wx => RParRel w W s.data.toList vf va vi wx) (fun _ _ i _ => W.length - (intOf i).toNat)
          case atStart => exact ⟨0, 0, by omega, rfl, rfl, rfl, by omega, World.ownsRow_nil _ _ _ _, Keeps.refl _⟩
          case round =>
            obtain ⟨q, o, hq, rfl, rfl, hS, hoL, hown, hkp⟩ := hrel
            have HS := Lib.hid hS
            have HKP := Lib.hid hkp
            have HOW := Lib.hid hown
            rw [len_data] at hoL
            clear hS hown hkp
            by_cases hlq : q < W.length
            · obtain ⟨n, hn⟩ : ∃ n, W[q]? = some n := ⟨_, List.getElem?_eq_getElem hlq⟩
              obtain ⟨a, rfl, hca⟩ := HW.out q n hn
              have hca2 := cell_keeps HKP.out hca
              have hwn := okW_at HOK.out hn
              obtain ⟨m, hm⟩ : ∃ m : Nat, n = (m : Int) := ⟨n.toNat, by omega⟩
              subst hm
              have hst := sumW_take W q _ hn
              have hsp := sumW_part W (q + 1)
              rw [hst, ← HS.out, ← HL.out, len_data] at hsp
              have hom : o + m ≤ s.size := by omega
              have HST := Lib.hid (show o + m = sumW (W.take (q + 1)) from by rw [hst, ← HS.out]; simp)
              obtain ⟨fld, hf⟩ : ∃ fld, fld = (s.data.toList.drop o).take m := ⟨_, rfl⟩
              have hfl : fld.length = m := by rw [hf, List.length_take, List.length_drop, len_data]; omega
              have HCS := Lib.hid (show svs (cutS (W.take q) s.data.toList) ++ [sv (trimR fld)] = svs (cutS (W.take (q + 1)) s.data.toList) from by
                rw [svs_snoc, cutS_take _ hn, ← HS.out, hf]; rfl)
              obtain ⟨om, hom1⟩ : ∃ om, o + m = om := ⟨_, rfl⟩
              have hI : (o : Int) + (m : Int) = (om : Int) := by omega
              rw [hom1] at hom HST
              have ho2 : o ≤ om := by omega
              obtain ⟨X, hX⟩ : ∃ X, s.extract o om = X := ⟨_, rfl⟩
              have HX := Lib.hid (show X.data.toList = fld from by rw [← hX, ext_list, hf]; congr 1; omega)
              have hi1 : (q : Int) < (W.length : Int) := by omega
              have HFL := Lib.hid hfl
              have HCA := Lib.hid hca
              have HI := Lib.hid hI
              have hB : o + m ≤ 100000 := by have := HE.out; omega
              clear hca hn hst hsp hf hom1 hfl
              go_wp2
              clear hX hI
              go_loop [11] (fun v => ∃ (j : Nat) (Y : ByteArray), j ≤ m ∧ v = .string Y ∧ Y.size = j ∧ Y.data.toList = fld.take j ∧ trimR fld = trimR (fld.take j)) (fun v => strSizeOf v)
              case atStart => exact ⟨m, X, Nat.le_refl _, rfl, by rw [← len_data, HX.out, HFL.out], by rw [HX.out, List.take_of_length_le (by rw [HFL.out]; exact Nat.le_refl _)], by rw [List.take_of_length_le (by rw [HFL.out]; exact Nat.le_refl _)]⟩
              case round =>
                obtain ⟨j, Y, hj, rfl, hYs, hYd, htr⟩ := hrel
                have HYD := Lib.hid hYd
                have HTR := Lib.hid htr
                clear hYd htr
                by_cases hY0 : Y.size = 0
                · have t1 : decide (0 < Y.size) = false := decide_eq_false (by omega)
                  have HYS := Lib.hid (show Value.string Y = sv (trimR fld) from by
                    have e : Y.data.toList = trimR fld := by
                      have e1 : Y.data.toList = [] := List.eq_nil_of_length_eq_zero (by rw [len_data]; exact hY0)
                      rw [HTR.out, ← HYD.out, e1]; rfl
                    rw [sv, ← e, mk_data])
                  clear hY0 hYs
                  go_wp2_with (at_builtin; refine wpList_append_own_at _ rfl _ _ tR rfl w.heap.size tS iS (.string ByteArray.empty) 1 16 Tryd.underlying23 HIS.out HZ.out.1 HZ.out.2.1 HZ.out.2.2 rfl (by decide) _ _ _ rfl (HOW.out.alloc _) ⟨wr.heap.size, 0, none⟩ 1 1 [.string Y] rfl rfl ?c1 ?c2 ?c3 ?c4 ?c5 ?_)
                  case c2 => rfl
                  case c3 => unfold maxLen; omega
                  case c4 => omega
                  case c5 => have := HKP.out.size; simp; omega
                  intro vr' w4 hown4 hgrow hnil hat
                  have hb2 := HKP.out
                  have HK4 := Lib.hid (Below.grown (hb2.alloc hb2.size (.cells #[.string Y] tS)) hgrow (by have := hb2.size; simp; omega) (fun q hq => by have := (HOW.out.lt q hq).1; omega))
                  rw [HYS.out, HCS.out] at hown4
                  have HO4 := Lib.hid hown4
                  have hca4 := cell_keeps HK4.out HCA.out
                  clear hown4 hgrow hnil hat hb2 hca2
                  go_wp2
                  go_roundw
                  case rel => exact ⟨q + 1, om, by omega, by go_num, vint HI.out, HST.out, by rw [len_data]; exact hom, HO4.out, HK4.out⟩
                  case measure => simp [intOf]; omega
                · obtain ⟨j', rfl⟩ : ∃ j', j = j' + 1 := ⟨j - 1, by omega⟩
                  have hjY : j' < Y.size := by omega
                  obtain ⟨c, hc⟩ : ∃ c, Y[j']'hjY = c := ⟨_, rfl⟩
                  have hc2 : Y[(j' : Int).toNat]'(by simpa using hjY) = c := by simpa using hc
                  have hcd : fld[j']? = some c := by
                    have h1 := Lib.data_getElem? Y j' hjY
                    rw [HYD.out, List.getElem?_take, if_pos (by omega), hc] at h1
                    exact h1
                  have hat0 := trimR_at hcd
                  have t1 : 0 < Y.size := by omega
                  have hYI : (Y.size : Int) - 1 = (j' : Int) := by omega
                  have hjI : (j' : Int) < (Y.size : Int) := by omega
                  have hjle : j' ≤ Y.size := by omega
                  by_cases h32 : c = 32
                  · have t2 : ((c.toNat : Int) == 32) = true := by rw [h32]; rfl
                    have HTR2 := Lib.hid (show trimR fld = trimR (fld.take j') from by rw [HTR.out, hat0, if_pos h32])
                    obtain ⟨Z, hZ⟩ : ∃ Z, Y.extract 0 j' = Z := ⟨_, rfl⟩
                    have HZD := Lib.hid (show Z.data.toList = fld.take j' from by
                      rw [← hZ, ext_list, HYD.out, List.drop_zero, List.take_take]; congr 1; omega)
                    have HZS := Lib.hid (show Z.size = j' from by rw [← hZ, ByteArray.size_extract]; omega)
                    have HYS2 := Lib.hid hYs
                    clear hY0 hYs hat0 hcd h32
                    go_wp2
                    clear hZ
                    go_round
                    case rel => exact ⟨j', Z, by omega, rfl, HZS.out, HZD.out, HTR2.out⟩
                    case measure => simp only [strSizeOf]; rw [HZS.out, HYS2.out]; omega
                  · have t2 : ((c.toNat : Int) == 32) = false := byte_no (n := 32) (by decide) h32
                    have HYS := Lib.hid (show Value.string Y = sv (trimR fld) from by
                      have e : Y.data.toList = trimR fld := by rw [HTR.out, hat0, if_neg h32, HYD.out]
                      rw [sv, ← e, mk_data])
                    clear hY0 hYs hat0 hcd h32
                    go_wp2_with (at_builtin; refine wpList_append_own_at _ rfl _ _ tR rfl w.heap.size tS iS (.string ByteArray.empty) 1 16 Tryd.underlying23 HIS.out HZ.out.1 HZ.out.2.1 HZ.out.2.2 rfl (by decide) _ _ _ rfl (HOW.out.alloc _) ⟨wr.heap.size, 0, none⟩ 1 1 [.string Y] rfl rfl ?d1 ?d2 ?d3 ?d4 ?d5 ?_)
                    case d2 => rfl
                    case d3 => unfold maxLen; omega
                    case d4 => omega
                    case d5 => have := HKP.out.size; simp; omega
                    intro vr' w4 hown4 hgrow hnil hat
                    have hb2 := HKP.out
                    have HK4 := Lib.hid (Below.grown (hb2.alloc hb2.size (.cells #[.string Y] tS)) hgrow (by have := hb2.size; simp; omega) (fun q hq => by have := (HOW.out.lt q hq).1; omega))
                    rw [HYS.out, HCS.out] at hown4
                    have HO4 := Lib.hid hown4
                    have hca4 := cell_keeps HK4.out HCA.out
                    clear hown4 hgrow hnil hat hb2 hca2
                    go_wp2
                    go_roundw
                    case rel => exact ⟨q + 1, om, by omega, by go_num, vint HI.out, HST.out, by rw [len_data]; exact hom, HO4.out, HK4.out⟩
                    case measure => simp [intOf]; omega
            · obtain rfl : q = W.length := by omega
              have hz : ¬ ((W.length : Int) < (W.length : Int)) := by omega
              have HE1 := Lib.hid (show W.take W.length = W from List.take_of_length_le (Nat.le_refl _))
              go_wp2
              go_ret2
              refine ⟨HKP.out, u8, 0, rfl, by rw [H.out], ?_⟩
              have h := HOW.out
              rw [HE1.out] at h
              rw [H.out]
              have hl := cutS_len W s.data.toList
              rw [← hl] at h
              exact own_strs h
    · have t1 : ((s.size : Int) != (N : Int)) = true := by simp [bne]; omega
      have H := Lib.hid (pa_long (l := s.data.toList) HOK.out (by rw [len_data, HN.out]; exact hlen))
      have H2 := Lib.hid (show min s.data.toList.length (sumW W) = min s.size N from by rw [len_data, HN.out])
      clear hlen
      by_cases hmin : s.size < N
      all_goals
        go_enter Tryd.func11, Tryd.ntmps11
        go_wp2_with (go_at_call 19; refine ctg.mono ?_; rintro e w' ⟨rfl, rfl⟩)
        all_goals
          go_ret2
          exact fixOut_no H.out (by rw [H2.out]; omega)
end Go.Proofs.YthhpbnpenkndfaaDoor
