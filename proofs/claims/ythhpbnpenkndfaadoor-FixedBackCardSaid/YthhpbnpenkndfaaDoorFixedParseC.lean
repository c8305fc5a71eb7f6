
/- The contract of fixed.Parse. -/
import Derived.Test.YthhpbnpenkndfaaDoorFixedC
import Derived.Test.YthhpbnpenkndfaaDoorLies
import Derived.Laws.BytesArg
set_option linter.unusedVariables false
namespace Go.Proofs.YthhpbnpenkndfaaDoor
open Go.ChangeShapes Go.WideShapes Go.ChangeAt Go.RowKit Csv Fix

/-- What is told of a line. -/
def FixOut (W : List Int) (l : Bs) (w : World) (e : Ending) (w' : World) : Prop :=
  Keeps w w' ∧ ∃ (v : Value) (c : Nat), e = .returned (.tuple #[v, .int .i64 (c : Int)]) ∧ (pa W l).2 = c ∧ StrsAt w' v (pa W l).1
theorem fixOut_no {W : List Int} {l : Bs} {w : World} {c : Nat} {i : Int} (h : pa W l = ([], c)) (hi : i = c) : FixOut W l w (.returned (.tuple #[.slice none 0 0, .int .i64 i])) w :=
  ⟨Keeps.refl _, _, c, by rw [hi], by rw [h], by rw [h]; exact StrsAt.nil w⟩

/-- A line under way: the fields that are told, what stands behind them. -/
def ParRel (w : World) (W : List Int) (l : Bs) (vf vr vi : Value) (wx : World) : Prop :=
  ∃ k R C o S : Nat, k ≤ W.length ∧ vi = .int .i64 k ∧ vr = .slice (some ⟨w.heap.size, o, none⟩) R C ∧ S = sumW (W.take k) ∧ S + R = l.length ∧ R ≤ C ∧ (0 < R → o = S) ∧
    wx.ownsRow (w.heap.size + 1) tS 1 vf k (svs (cutS (W.take k) l)) ∧ Lies wx w.heap.size l ∧ Keeps w wx

/-- Bytes from a place on are turned into a text. -/
theorem text_at {P : Program} {w : World} {g : Nat} {l : Bs} (h : Lies w g l) (o n cap : Nat) (x : Bs) (hx : x = (l.drop o).take n) (hn : o + n ≤ l.length) (src e dst : TypeId) (hs : P.underlying src = some (.slice e)) (he : P.underlying e = some (.int .u8)) (hd : P.underlying dst = some .string) :
    (convert src dst (.slice (some ⟨g, o, none⟩) n cap)).run P w = .ok (.string ⟨x.toArray⟩) w := by
  have hxl : x.length = n := by rw [hx, List.length_take, List.length_drop]; omega
  have e0 : ∀ i, i < n → x[i]? = l[o + i]? := fun i hi => by rw [hx, List.getElem?_take, if_pos hi, List.getElem?_drop]
  have hr := run_convert_bytes_arg (P := P) w src e hs he g o n cap (x.map fun c => (c.toNat : Int)) (by simpa using hxl) (fun i hi => by
    rw [h.at (o + i) (by omega)]
    simp [List.getD, e0 i hi, List.getElem?_eq_getElem (show o + i < l.length by omega)]) dst hd
  rw [hr]
  congr 2
  simp only [strOfNums, List.map_map]
  congr 2
  refine (List.map_congr_left (g := id) fun c _ => ?_).trans (List.map_id _)
  simp
theorem Lies.rd {w : World} {g : Nat} {l x : Bs} {o n : Nat} (h : Lies w g l) (hx : x = (l.drop o).take n) (hn : o + n ≤ l.length) : BytesRd w (some ⟨g, o, none⟩) x := by
  intro j c hc
  rw [hx, List.getElem?_take] at hc
  by_cases hj : j < n
  · rw [if_pos hj, List.getElem?_drop, List.getElem?_eq_getElem (by omega)] at hc
    have hc' := Option.some.inj hc
    refine ⟨_, rfl, ?_⟩
    have := h.at (o + j) (by omega)
    rw [hc'] at this
    unfold Addr.add
    by_cases h0 : j = 0
    · subst h0; simpa using this
    · simpa [h0] using this
  · rw [if_neg hj] at hc; cases hc

theorem trimR_front (l : Bs) (o m : Nat) : trimR ((l.drop o).take m) = (l.drop o).take (trimR ((l.drop o).take m)).length := by
  have h := trimR_take ((l.drop o).take m)
  have hl := trimR_len ((l.drop o).take m)
  rw [List.length_take] at hl
  rw [List.take_take, Nat.min_eq_left (by omega)] at h
  exact h
theorem Lies.grown {w w' : World} {g : Nat} {l : List UInt8} {row : Option Nat} (h : Lies w g l) (hg : w.grownBy w' row) (hne : row ≠ some g) : Lies w' g l := by
  have hb := hg.block g h.1 (fun e => hne e.symm)
  refine ⟨Nat.lt_of_lt_of_le h.1 hg.size, fun i hi => ?_⟩
  have := h.2 i hi
  simp only [World.cell?, World.frozen?, hb] at this ⊢
  exact this

set_option maxRecDepth 100000 in
set_option maxHeartbeats 4000000 in
theorem fparse_any (vW : Value) (W : List Int) (s : ByteArray) (w : World) (hW : IntsAt w vW W) (hs : s.size ≤ maxLen) :
    Calls Tryd.prog 10 #[vW, .string s] w (FixOut W s.data.toList w) := by
  have hinfoS : (Tryd.prog.info? tS).map (fun i => (i.zero, i.size, i.bytes)) = some (some (.string ByteArray.empty), 1, 16) := by kernel_rfl
  obtain ⟨iS, hiS, hS⟩ := Option.map_eq_some_iff.1 hinfoS
  simp only [Prod.mk.injEq] at hS
  obtain ⟨hzS1, hzS2, hzS3⟩ := hS
  have HIS := Lib.hid hiS
  have HZ := Lib.hid (And.intro hzS1 (And.intro hzS2 hzS3))
  clear hinfoS hiS hzS1 hzS2 hzS3
  have ctg := together_any vW W w hW
  have co := firstOdd_any s w hs
  obtain ⟨pW, cW, rfl, lW, hW⟩ := hW
  have HW := Lib.hid hW
  clear hW
  unfold maxLen at lW hs
  cases hok : okW W with
  | false =>
    rw [hok] at ctg
    have H := Lib.hid (pa_wide s.data.toList hok)
    clear hok co
    go_enter Tryd.func10, Tryd.ntmps10
    go_wp2_with (go_at_call 14; refine ctg.mono ?_; rintro e w' ⟨rfl, rfl⟩)
    go_ret2
    exact fixOut_no H.out rfl
  | true =>
    rw [hok, togI_yes hok] at ctg
    have HOK := Lib.hid hok
    have hsum := okW_sum hok
    have hWl := okW_len hok
    obtain ⟨N, hN⟩ : ∃ N, sumW W = N := ⟨_, rfl⟩
    rw [hN] at ctg hsum
    have HN := Lib.hid hN
    clear hok hN
    by_cases hlen : s.size = N
    · have t1 : ((s.size : Int) != (N : Int)) = false := by simp [bne, hlen]
      have HE := Lib.hid hlen
      have HL := Lib.hid (show s.data.toList.length = sumW W from by rw [len_data, hlen, HN.out])
      clear hlen
      cases ho : odd s.data.toList with
      | some k =>
        rw [ho] at co
        have co' : Calls Tryd.prog 21 #[.string s] w fun e w' => e = .returned (.int .i64 (k : Int)) ∧ w = w' := co
        have H := Lib.hid (pa_odd HOK.out HL.out ho)
        have hk : k < s.size := by have := odd_lt ho; rwa [len_data] at this
        clear ho co
        go_enter Tryd.func10, Tryd.ntmps10
        go_wp2_with (first
          | (go_at_call 14; refine ctg.mono ?_; rintro e w' ⟨rfl, rfl⟩)
          | (go_at_call 21; refine co'.mono ?_; rintro e w' ⟨rfl, rfl⟩))
        go_ret2
        exact fixOut_no H.out (by omega)
      | none =>
        rw [ho] at co
        have co' : Calls Tryd.prog 21 #[.string s] w fun e w' => e = .returned (.int .i64 (-1)) ∧ w = w' := co
        have H := Lib.hid (pa_yes HOK.out HL.out ho)
        obtain ⟨cap, w1, hconv, hcap, hk1, hli, hgl⟩ := bytes_lie w s
        have HK1 := Lib.hid hk1
        have HLI := Lib.hid hli
        clear ho co hk1 hli
        go_enter Tryd.func10, Tryd.ntmps10
        go_wp2_with (first
          | (go_at_call 14; refine ctg.mono ?_; rintro e w' ⟨rfl, rfl⟩)
          | (go_at_call 21; refine co'.mono ?_; rintro e w' ⟨rfl, rfl⟩))
        clear ctg co' hconv t1
        have hcut0 : svs (cutS (W.take 0) s.data.toList) = [] := rfl
        go_loopw [4, 9, 39] (fun vf vr vi wx => ParRel w W s.data.toList vf vr vi wx) (fun _ _ i _ => W.length - (intOf i).toNat)
        case atStart => exact ⟨0, s.size, cap, 0, 0, by omega, rfl, rfl, rfl, by rw [len_data]; omega, hcap, fun _ => rfl, World.ownsRow_nil _ _ _ _, HLI.out, HK1.out⟩
        case round =>
          obtain ⟨k, R, C, o, S, hk, rfl, rfl, hS, hSR, hRC, ho, hown, hli, hkp⟩ := hrel
          have HS := Lib.hid hS
          have HLI2 := Lib.hid hli
          have HK := Lib.hid hkp
          have HOW := Lib.hid hown
          have HSR := Lib.hid hSR
          have HO := Lib.hid ho
          clear hS hSR ho hown hli hkp hcut0
          by_cases hlt : k < W.length
          · obtain ⟨n, hn⟩ : ∃ n, W[k]? = some n := ⟨_, List.getElem?_eq_getElem hlt⟩
            obtain ⟨a, rfl, hca⟩ := HW.out k n hn
            have hca2 := cell_keeps HK.out hca
            have hwn := okW_at HOK.out hn
            obtain ⟨m, hm⟩ : ∃ m : Nat, n = (m : Int) := ⟨n.toNat, by omega⟩
            subst hm
            have hst := sumW_take W k _ hn
            have hsp := sumW_part W (k + 1)
            rw [hst, ← HS.out, ← HL.out, ← HSR.out] at hsp
            obtain ⟨R', rfl⟩ : ∃ R', R = m + R' := ⟨R - m, by omega⟩
            obtain ⟨C', rfl⟩ : ∃ C', C = m + C' := ⟨C - m, by omega⟩
            obtain rfl : o = S := HO.out (by omega)
            have HST := Lib.hid (show o + m = sumW (W.take (k + 1)) from by rw [hst, ← HS.out]; simp)
            have HNK := Lib.hid hn
            have hi1 : (k : Int) < (W.length : Int) := by omega
            obtain ⟨fld, hf⟩ : ∃ fld, fld = (s.data.toList.drop o).take m := ⟨_, rfl⟩
            have hoN : o + m ≤ s.data.toList.length := by have := HSR.out; omega
            have hfl : fld.length = m := by rw [hf, List.length_take, List.length_drop]; omega
            have hm0 : m ≠ 0 := by omega
            have hm1 : 0 < m := by omega
            have hRC' : R' ≤ C' := by omega
            have hRo : R' + m + o = N := by have h := HSR.out; rw [len_data, HE.out] at h; omega
            have ct := trimRight_any (some ⟨w.heap.size, o, none⟩) fld m wr (by omega) (by omega) (by omega) (by omega) (HLI2.out.rd hf hoN)
            have htl := trimR_len fld
            rw [hfl] at ct htl
            obtain ⟨t, ht⟩ : ∃ t, (trimR fld).length = t := ⟨_, rfl⟩
            rw [ht] at ct htl
            have hcv := text_at HLI2.out o t m (trimR fld) (by rw [← ht, hf]; exact trimR_front _ _ _) (by omega) 31 5 9 Tryd.underlying31 Tryd.underlying5 Tryd.underlying9
            have HF := Lib.hid hf
            have HHT := Lib.hid ht
            have HCS := Lib.hid (show svs (cutS (W.take k) s.data.toList) ++ [sv (trimR fld)] = svs (cutS (W.take (k + 1)) s.data.toList) from by
              rw [svs_snoc, cutS_take _ HNK.out, ← HS.out, hf]; rfl)
            clear hca hn hst hsp hf hfl ht
            by_cases hC : C' = 0
            · subst hC
              obtain rfl : R' = 0 := by omega
              go_wp2_with (first
                | (go_at_call 22; refine ct.mono ?_; rintro e w' ⟨rfl, rfl⟩)
                | (at_builtin; refine wpList_append_own_at _ rfl _ _ tR rfl (w.heap.size + 1) tS iS (.string ByteArray.empty) 1 16 Tryd.underlying23 HIS.out HZ.out.1 HZ.out.2.1 HZ.out.2.2 rfl (by decide) _ _ _ rfl (HOW.out.alloc _) ⟨wr.heap.size, 0, none⟩ 1 1 [sv (trimR fld)] rfl rfl ?d1 ?d2 ?d3 ?d4 ?d5 ?_))
              case d1 => exact cell_one_new _ _ _
              case d2 => intro u hu; simp at hu; subst hu; rfl
              case d3 => unfold maxLen; omega
              case d4 => omega
              case d5 => have := HLI2.out.1; simp; omega
              intro vr' w4 hown4 hgrow hnil hat
              have hne : u4.ownBlock ≠ some w.heap.size := fun e => by have := (HOW.out.lt _ e).1; omega
              have HLI4 := Lib.hid ((HLI2.out.keeps ((Below.refl _ wr).alloc (Nat.le_refl _) (.cells #[sv (trimR fld)] tS))).grown hgrow hne)
              have hb2 := HK.out
              have HK4 := Lib.hid (Below.grown (hb2.alloc hb2.size (.cells #[sv (trimR fld)] tS)) hgrow (by have := hb2.size; simp; omega) (fun q hq => by have := (HOW.out.lt q hq).1; omega))
              rw [HCS.out] at hown4
              have HO4 := Lib.hid hown4
              clear hown4 hgrow hnil hat hb2 hne
              go_wp2
              go_roundw
              case rel => exact ⟨k + 1, 0, 0, o, o + m, by omega, by go_num, rfl, HST.out, by have := HSR.out; omega, by omega, fun h => by omega, HO4.out, HLI4.out, HK4.out⟩
              case measure => simp [intOf]; omega
            · have hC2 : ¬ (m + C' = m) := by omega
              go_wp2_with (first
                | (go_at_call 22; refine ct.mono ?_; rintro e w' ⟨rfl, rfl⟩)
                | (at_builtin; refine wpList_append_own_at _ rfl _ _ tR rfl (w.heap.size + 1) tS iS (.string ByteArray.empty) 1 16 Tryd.underlying23 HIS.out HZ.out.1 HZ.out.2.1 HZ.out.2.2 rfl (by decide) _ _ _ rfl (HOW.out.alloc _) ⟨wr.heap.size, 0, none⟩ 1 1 [sv (trimR fld)] rfl rfl ?c1 ?c2 ?c3 ?c4 ?c5 ?_))
              case c1 => exact cell_one_new _ _ _
              case c2 => intro u hu; simp at hu; subst hu; rfl
              case c3 => unfold maxLen; omega
              case c4 => omega
              case c5 => have := HLI2.out.1; simp; omega
              intro vr' w4 hown4 hgrow hnil hat
              have hne : u4.ownBlock ≠ some w.heap.size := fun e => by have := (HOW.out.lt _ e).1; omega
              have HLI4 := Lib.hid ((HLI2.out.keeps ((Below.refl _ wr).alloc (Nat.le_refl _) (.cells #[sv (trimR fld)] tS))).grown hgrow hne)
              have hb2 := HK.out
              have HK4 := Lib.hid (Below.grown (hb2.alloc hb2.size (.cells #[sv (trimR fld)] tS)) hgrow (by have := hb2.size; simp; omega) (fun q hq => by have := (HOW.out.lt q hq).1; omega))
              rw [HCS.out] at hown4
              have HO4 := Lib.hid hown4
              clear hown4 hgrow hnil hat hb2 hne
              go_wp2
              go_roundw
              case rel => exact ⟨k + 1, R', C', o + m, o + m, by omega, by go_num, rfl, HST.out, by have := HSR.out; omega, by omega, fun _ => rfl, HO4.out, HLI4.out, HK4.out⟩
              case measure => simp [intOf]; omega
          · obtain rfl : k = W.length := by omega
            have hz : ¬ ((W.length : Int) < (W.length : Int)) := by omega
            have HE1 := Lib.hid (show W.take W.length = W from List.take_of_length_le (Nat.le_refl _))
            go_wp2
            go_ret2
            refine ⟨HK.out, u4, 0, rfl, by rw [H.out], ?_⟩
            have h := HOW.out
            rw [HE1.out] at h
            rw [H.out]
            have hl := cutS_len W s.data.toList
            rw [← hl] at h
            exact own_strs h
    · have t1 : ((s.size : Int) != (N : Int)) = true := by simp [bne]; omega
      have H := Lib.hid (pa_long (l := s.data.toList) HOK.out (by rw [len_data, HN.out]; exact hlen))
      have H2 := Lib.hid (show min s.data.toList.length (sumW W) = min s.size N from by rw [len_data, HN.out])
      clear hlen co
      by_cases hmin : s.size < N
      all_goals
        go_enter Tryd.func10, Tryd.ntmps10
        go_wp2_with (go_at_call 14; refine ctg.mono ?_; rintro e w' ⟨rfl, rfl⟩)
        all_goals
          go_ret2
          exact fixOut_no H.out (by rw [H2.out]; omega)
end Go.Proofs.YthhpbnpenkndfaaDoor
