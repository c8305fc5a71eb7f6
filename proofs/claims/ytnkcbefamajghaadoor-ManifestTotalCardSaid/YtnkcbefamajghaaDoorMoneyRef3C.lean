
/- The contract of the document's Get (layer 1). -/
import Derived.Test.YtnkcbefamajghaaDoorMoneyRef2C
set_option linter.unusedVariables false
namespace Go.Proofs.YtnkcbefamajghaaDoor
open Go.ChangeShapes Go.WideShapes Go.ChangeAt Go.RowKit Mon

theorem ov_test {a : Nat} {d : Int} (h0 : 0 ≤ d) (h9 : d ≤ 9) : (-(a : Int) < (-9223372036854775808 + d).tdiv 10) ↔ 9223372036854775808 < (a : Int) * 10 + d := by
  have e : (-9223372036854775808 + d).tdiv 10 = -((9223372036854775808 - d) / 10) := by
    rw [show -9223372036854775808 + d = -(9223372036854775808 - d) from by omega, Int.neg_tdiv, Int.tdiv_eq_ediv_of_nonneg (by omega)]
  rw [e]; omega
theorem step_neg {a : Nat} {d : Int} (h0 : 0 ≤ d) (h : (a : Int) * 10 + d ≤ 9223372036854775808) : wrap64 (wrap64 (-(a : Int) * 10) - d) = -((a : Int) * 10 + d) := by
  have e1 : wrap64 (-(a : Int) * 10) = -(a : Int) * 10 := i64w (by unfold top; omega) (by unfold top; omega)
  rw [e1, i64w (by unfold top; omega) (by unfold top; omega)]; omega
theorem get_dec {l : List UInt8} (hok : okNum (tailOf l) 19 = true) (hi : I64 (guess l)) : (put (guess l) = l → getB l = true ∧ getV l = guess l) ∧ (put (guess l) ≠ l → getB l = false ∧ getV l = 0) := by
  have e : getB l = decide (put (guess l) = l) := by
    unfold getB; rw [hok]
    have : inI64 (guess l) = true := by unfold inI64; simp [hi.1, hi.2]
    rw [this]; rfl
  constructor
  · intro h
    have : getB l = true := by rw [e]; simpa using h
    exact ⟨this, by rw [getV, if_pos this]⟩
  · intro h
    have : getB l = false := by rw [e]; simpa using h
    exact ⟨this, by rw [getV, this]; rfl⟩
theorem get_bad {l : List UInt8} (h : okNum (tailOf l) 19 = false) : getB l = false ∧ getV l = 0 := got_no h
theorem neg_head (s : ByteArray) (h : 0 < s.size) : neg1 s.data.toList = ((s[0].toNat : Int) == 45) := by
  have e : s.data.toList.head? = some s[0] := by
    rw [List.head?_eq_getElem?, List.getElem?_eq_getElem (by rw [len_data]; exact h)]; rfl
  unfold neg1
  rw [e, Bool.eq_iff_iff]
  simp only [beq_iff_eq, Option.some.injEq]
  constructor
  · intro h; rw [h]; rfl
  · intro h
    apply UInt8.toNat_inj.1
    show s[0].toNat = 45
    omega

set_option maxHeartbeats 4000000 in
theorem rget_pos (s : ByteArray) (w : World) (hs : s.size ≤ maxLen) (hc : neg1 s.data.toList = false) (h0 : 0 < s.size) :
    Calls Tryd.prog 50 #[.string s] w fun e w' => e = .returned (.tuple #[.int .i64 (getV s.data.toList), .bool (getB s.data.toList)]) ∧ Keeps w w' := by
  have HS0 := Lib.hid hs
  unfold maxLen at hs
  have HT := Lib.hid (tail_pos hc)
  have hne : ((s[0].toNat : Int) == 45) = false := by rw [← neg_head s h0]; exact hc
  clear hc
  have hlen : (tailOf s.data.toList).length = s.size := by rw [HT.out.1, len_data]
  have HLEN := Lib.hid hlen
  clear hlen
  have hz : (((s.size : Nat) : Int) == 0) = false := beq_eq_false_iff_ne.2 (by omega)
  by_cases h2 : 19 < ((s.size : Nat) : Int)
  · have H := Lib.hid (get_bad (not_okNum_len (l := tailOf s.data.toList) (most := 19) (Or.inr (by rw [HLEN.out]; omega))).1)
    go_enter Tryd.func50, Tryd.ntmps50
    go_wp2
    go_ret2
    exact ⟨ret_int_bool H.out.2.symm H.out.1.symm, Keeps.refl _⟩
  go_enter Tryd.func50, Tryd.ntmps50
  go_wp2
  go_loop [6, 7] (fun n i => ∃ k : Nat, k ≤ s.size ∧ i = .int .i64 k ∧ n = .int .i64 (-(num ((tailOf s.data.toList).take k) : Int)) ∧ num ((tailOf s.data.toList).take k) ≤ 9223372036854775808 ∧ (∀ c, c ∈ (tailOf s.data.toList).take k → isDig c = true)) (fun _ i => s.size - (intOf i).toNat)
  case atStart => exact ⟨0, Nat.zero_le _, rfl, rfl, by simp [num], by simp⟩
  case round =>
    obtain ⟨k, hk, rfl, rfl, hn, hall⟩ := hrel
    by_cases hlt : k < s.size
    · have hget : (tailOf s.data.toList).take (k + 1) = (tailOf s.data.toList).take k ++ [s[k]] := by
        rw [HT.out.1]; exact take_snoc _ _ hlt
      have hmem : s[k] ∈ (tailOf s.data.toList) := by
        have : s[k] ∈ (tailOf s.data.toList).take (k + 1) := by rw [hget]; simp
        exact List.mem_of_mem_take this
      have hsn := num_snoc ((tailOf s.data.toList).take k) s[k]
      have hdg : isDig s[k] = (decide (48 ≤ (s[k].toNat : Int)) && decide ((s[k].toNat : Int) ≤ 57)) := by unfold isDig; rw [Bool.eq_iff_iff]; simp; omega
      have HG := Lib.hid hget
      have HM := Lib.hid hmem
      have HSN := Lib.hid hsn
      have HD := Lib.hid hdg
      have HN := Lib.hid hn
      have HA := Lib.hid hall
      have bad : isDig s[k] = false → okNum (tailOf s.data.toList) 19 = false := by
        intro h
        cases ho : okNum (tailOf s.data.toList) 19
        · rfl
        · simp only [okNum, Bool.and_eq_true, List.all_eq_true] at ho
          have := ho.2 _ HM.out
          rw [h] at this; cases this
      have BAD := Lib.hid bad
      clear hget hmem hsn hdg hn hall bad
      rcases (show (s[k].toNat : Int) < 48 ∨ 57 < (s[k].toNat : Int) ∨ ((48 ≤ (s[k].toNat : Int) ∧ (s[k].toNat : Int) ≤ 57)) from by omega) with hc | hc | hc
      · have H := Lib.hid (get_bad (BAD.out (by rw [HD.out]; simp; omega)))
        go_wp2
        go_ret2
        exact ⟨ret_int_bool H.out.2.symm H.out.1.symm, Keeps.refl _⟩
      · have H := Lib.hid (get_bad (BAD.out (by rw [HD.out]; simp; omega)))
        go_wp2
        go_ret2
        exact ⟨ret_int_bool H.out.2.symm H.out.1.symm, Keeps.refl _⟩
      · obtain ⟨hc1, hc2⟩ := hc
        by_cases hov : 9223372036854775808 < (num ((tailOf s.data.toList).take k) : Int) * 10 + ((s[k].toNat : Int) - 48)
        · have H := Lib.hid (get_big (l := s.data.toList) (by
            have := num_take (tailOf s.data.toList) (k + 1)
            rw [HG.out, HSN.out] at this; omega))
          have ht := (ov_test (a := num ((tailOf s.data.toList).take k)) (d := (s[k].toNat : Int) - 48) (by omega) (by omega)).2 hov
          clear hov
          go_wp2
          go_ret2
          exact ⟨ret_int_bool H.out.2.symm H.out.1.symm, Keeps.refl _⟩
        · have ht : ¬ (-(num ((tailOf s.data.toList).take k) : Int) < (-9223372036854775808 + ((s[k].toNat : Int) - 48)).tdiv 10) := fun h => hov ((ov_test (by omega) (by omega)).1 h)
          have HOV := Lib.hid hov
          clear hov
          go_wp2
          go_round
          case rel =>
            refine ⟨k + 1, by omega, by go_num, vint ?_, ?_, ?_⟩
            · rw [HG.out, HSN.out]
              refine (step_neg (by omega) (by have := HOV.out; omega)).trans ?_
              omega
            · rw [HG.out, HSN.out]; have := HOV.out; omega
            · rw [HG.out]
              intro c hc
              rcases List.mem_append.1 hc with h | h
              · exact HA.out c h
              · rw [List.mem_singleton.1 h, HD.out]; simp; omega
          case measure => simp [intOf]; omega
    · have e : (tailOf s.data.toList).take k = (tailOf s.data.toList) := List.take_of_length_le (by rw [HLEN.out]; omega)
      rw [e] at hn hall
      have hok := (okNum_full (l := (tailOf s.data.toList)) (most := 19) (by rw [HLEN.out]; omega) (by rw [HLEN.out]; omega) hall).1
      have HOK := Lib.hid hok
      have HN := Lib.hid hn
      have HE := Lib.hid e
      obtain ⟨m, hm⟩ : ∃ m : Nat, m = num ((tailOf s.data.toList).take k) := ⟨_, rfl⟩
      have HMM := Lib.hid hm
      rw [← hm]
      have hg : guess s.data.toList = (m : Int) := by rw [HT.out.2, hm, HE.out]
      have HG := Lib.hid hg
      have hmb : m ≤ 9223372036854775808 := by rw [hm, HE.out]; exact HN.out
      have HMB := Lib.hid hmb
      clear e hn hall hok hm hg hmb
      by_cases htop : m = 9223372036854775808
      · have H := Lib.hid (show getB s.data.toList = false ∧ getV s.data.toList = 0 from by
          have hb : getB s.data.toList = false := by
            unfold getB; rw [HG.out, show inI64 (m : Int) = false from by unfold inI64; simp; unfold top; omega]; simp
          exact ⟨hb, by rw [getV, hb]; rfl⟩)
        have ht : (-(m : Int) == -9223372036854775808) = true := by rw [beq_iff_eq]; omega
        clear htop
        go_wp2
        go_ret2
        exact ⟨ret_int_bool H.out.2.symm H.out.1.symm, Keeps.refl _⟩
      · have hi : I64 (m : Int) := by have := HMB.out; unfold I64 top; omega
        have HI := Lib.hid hi
        have ht : (-(m : Int) == -9223372036854775808) = false := by rw [beq_eq_false_iff_ne]; omega
        have hw : wrap64 (-(-(m : Int))) = m := by rw [i64w (by unfold I64 at hi; omega) (by unfold I64 at hi; omega)]; omega
        have hw2 : wrap64 (m : Int) = m := by rw [i64w (by unfold I64 at hi; omega) (by unfold I64 at hi; omega)]
        have D := Lib.hid (get_dec HOK.out (by rw [HG.out]; exact hi))
        clear hi htop
        by_cases hp : put (m : Int) = s.data.toList
        · have H := Lib.hid (D.out.1 (by rw [HG.out]; exact hp))
          have hs2 : (put (m : Int) == s.toList) = true := by rw [ByteArray.toList_eq, hp]; simp
          clear hp
          go_wp2_with (go_at_call 46; refine (moRput_any _ _ HI.out).mono ?_; rintro e w' ⟨rfl, hk⟩)
          go_ret2
          exact ⟨ret_int_bool (by rw [H.out.2, HG.out]) H.out.1.symm, hk⟩
        · have H := Lib.hid (D.out.2 (by rw [HG.out]; exact hp))
          have hs2 : (put (m : Int) == s.toList) = false := by rw [ByteArray.toList_eq]; simpa using hp
          clear hp
          go_wp2_with (go_at_call 46; refine (moRput_any _ _ HI.out).mono ?_; rintro e w' ⟨rfl, hk⟩)
          go_ret2
          exact ⟨ret_int_bool H.out.2.symm H.out.1.symm, hk⟩

set_option maxHeartbeats 4000000 in
theorem rget_neg (s : ByteArray) (w : World) (hs : s.size ≤ maxLen) (hc : neg1 s.data.toList = true) (h0 : 0 < s.size) :
    Calls Tryd.prog 50 #[.string s] w fun e w' => e = .returned (.tuple #[.int .i64 (getV s.data.toList), .bool (getB s.data.toList)]) ∧ Keeps w w' := by
  have HS0 := Lib.hid hs
  unfold maxLen at hs
  have HT := Lib.hid (tail_neg hc)
  have hne : ((s[0].toNat : Int) == 45) = true := by rw [← neg_head s h0]; exact hc
  clear hc
  have hlen : (tailOf s.data.toList).length = s.size - 1 := by rw [HT.out.1, List.length_drop, len_data]
  have HLEN := Lib.hid hlen
  clear hlen
  by_cases h1 : s.size - 1 = 0
  · have H := Lib.hid (get_bad (not_okNum_len (l := tailOf s.data.toList) (most := 19) (Or.inl (by rw [HLEN.out]; omega))).1)
    go_enter Tryd.func50, Tryd.ntmps50
    go_wp2
    go_ret2
    exact ⟨ret_int_bool H.out.2.symm H.out.1.symm, Keeps.refl _⟩
  have hz : (((s.size - 1 : Nat) : Int) == 0) = false := beq_eq_false_iff_ne.2 (by omega)
  by_cases h2 : 19 < ((s.size - 1 : Nat) : Int)
  · have H := Lib.hid (get_bad (not_okNum_len (l := tailOf s.data.toList) (most := 19) (Or.inr (by rw [HLEN.out]; omega))).1)
    go_enter Tryd.func50, Tryd.ntmps50
    go_wp2
    go_ret2
    exact ⟨ret_int_bool H.out.2.symm H.out.1.symm, Keeps.refl _⟩
  go_enter Tryd.func50, Tryd.ntmps50
  go_wp2
  go_loop [6, 7] (fun n i => ∃ k : Nat, k ≤ s.size - 1 ∧ i = .int .i64 k ∧ n = .int .i64 (-(num ((tailOf s.data.toList).take k) : Int)) ∧ num ((tailOf s.data.toList).take k) ≤ 9223372036854775808 ∧ (∀ c, c ∈ (tailOf s.data.toList).take k → isDig c = true)) (fun _ i => s.size - 1 - (intOf i).toNat)
  case atStart => exact ⟨0, Nat.zero_le _, rfl, rfl, by simp [num], by simp⟩
  case round =>
    obtain ⟨k, hk, rfl, rfl, hn, hall⟩ := hrel
    by_cases hlt : k < s.size - 1
    · have hkx : k < (s.extract 1 s.size).size := by simp [ByteArray.size_extract]; omega
      have hget : (tailOf s.data.toList).take (k + 1) = (tailOf s.data.toList).take k ++ [(s.extract 1 s.size)[k]] := by
        rw [show tailOf s.data.toList = (s.extract 1 s.size).data.toList from by rw [HT.out.1, extract_end]]; exact take_snoc _ _ hkx
      have hmem : (s.extract 1 s.size)[k] ∈ (tailOf s.data.toList) := by
        have : (s.extract 1 s.size)[k] ∈ (tailOf s.data.toList).take (k + 1) := by rw [hget]; simp
        exact List.mem_of_mem_take this
      have hsn := num_snoc ((tailOf s.data.toList).take k) (s.extract 1 s.size)[k]
      have hdg : isDig (s.extract 1 s.size)[k] = (decide (48 ≤ ((s.extract 1 s.size)[k].toNat : Int)) && decide (((s.extract 1 s.size)[k].toNat : Int) ≤ 57)) := by unfold isDig; rw [Bool.eq_iff_iff]; simp; omega
      have HG := Lib.hid hget
      have HM := Lib.hid hmem
      have HSN := Lib.hid hsn
      have HD := Lib.hid hdg
      have HN := Lib.hid hn
      have HA := Lib.hid hall
      have bad : isDig (s.extract 1 s.size)[k] = false → okNum (tailOf s.data.toList) 19 = false := by
        intro h
        cases ho : okNum (tailOf s.data.toList) 19
        · rfl
        · simp only [okNum, Bool.and_eq_true, List.all_eq_true] at ho
          have := ho.2 _ HM.out
          rw [h] at this; cases this
      have BAD := Lib.hid bad
      clear hget hmem hsn hdg hn hall bad
      rcases (show ((s.extract 1 s.size)[k].toNat : Int) < 48 ∨ 57 < ((s.extract 1 s.size)[k].toNat : Int) ∨ ((48 ≤ ((s.extract 1 s.size)[k].toNat : Int) ∧ ((s.extract 1 s.size)[k].toNat : Int) ≤ 57)) from by omega) with hc | hc | hc
      · have H := Lib.hid (get_bad (BAD.out (by rw [HD.out]; simp; omega)))
        go_wp2
        go_ret2
        exact ⟨ret_int_bool H.out.2.symm H.out.1.symm, Keeps.refl _⟩
      · have H := Lib.hid (get_bad (BAD.out (by rw [HD.out]; simp; omega)))
        go_wp2
        go_ret2
        exact ⟨ret_int_bool H.out.2.symm H.out.1.symm, Keeps.refl _⟩
      · obtain ⟨hc1, hc2⟩ := hc
        by_cases hov : 9223372036854775808 < (num ((tailOf s.data.toList).take k) : Int) * 10 + (((s.extract 1 s.size)[k].toNat : Int) - 48)
        · have H := Lib.hid (get_big (l := s.data.toList) (by
            have := num_take (tailOf s.data.toList) (k + 1)
            rw [HG.out, HSN.out] at this; omega))
          have ht := (ov_test (a := num ((tailOf s.data.toList).take k)) (d := ((s.extract 1 s.size)[k].toNat : Int) - 48) (by omega) (by omega)).2 hov
          clear hov
          go_wp2
          go_ret2
          exact ⟨ret_int_bool H.out.2.symm H.out.1.symm, Keeps.refl _⟩
        · have ht : ¬ (-(num ((tailOf s.data.toList).take k) : Int) < (-9223372036854775808 + (((s.extract 1 s.size)[k].toNat : Int) - 48)).tdiv 10) := fun h => hov ((ov_test (by omega) (by omega)).1 h)
          have HOV := Lib.hid hov
          clear hov
          go_wp2
          go_round
          case rel =>
            refine ⟨k + 1, by omega, by go_num, vint ?_, ?_, ?_⟩
            · rw [HG.out, HSN.out]
              refine (step_neg (by omega) (by have := HOV.out; omega)).trans ?_
              omega
            · rw [HG.out, HSN.out]; have := HOV.out; omega
            · rw [HG.out]
              intro c hc
              rcases List.mem_append.1 hc with h | h
              · exact HA.out c h
              · rw [List.mem_singleton.1 h, HD.out]; simp; omega
          case measure => simp [intOf]; omega
    · have e : (tailOf s.data.toList).take k = (tailOf s.data.toList) := List.take_of_length_le (by rw [HLEN.out]; omega)
      rw [e] at hn hall
      have hok := (okNum_full (l := (tailOf s.data.toList)) (most := 19) (by rw [HLEN.out]; omega) (by rw [HLEN.out]; omega) hall).1
      have HOK := Lib.hid hok
      have HN := Lib.hid hn
      have HE := Lib.hid e
      obtain ⟨m, hm⟩ : ∃ m : Nat, m = num ((tailOf s.data.toList).take k) := ⟨_, rfl⟩
      have HMM := Lib.hid hm
      rw [← hm]
      have hg : guess s.data.toList = -(m : Int) := by rw [HT.out.2, hm, HE.out]
      have HG := Lib.hid hg
      have hmb : m ≤ 9223372036854775808 := by rw [hm, HE.out]; exact HN.out
      have HMB := Lib.hid hmb
      clear e hn hall hok hm hg hmb
      have hi : I64 (-(m : Int)) := by have := HMB.out; unfold I64 top; omega
      have HI := Lib.hid hi
      have D := Lib.hid (get_dec HOK.out (by rw [HG.out]; exact hi))
      clear hi
      by_cases hp : put (-(m : Int)) = s.data.toList
      · have H := Lib.hid (D.out.1 (by rw [HG.out]; exact hp))
        have ht : (put (-(m : Int)) == s.toList) = true := by rw [ByteArray.toList_eq, hp]; simp
        clear hp
        go_wp2_with (go_at_call 46; refine (moRput_any _ _ HI.out).mono ?_; rintro e w' ⟨rfl, hk⟩)
        go_ret2
        exact ⟨ret_int_bool (by rw [H.out.2, HG.out]) H.out.1.symm, hk⟩
      · have H := Lib.hid (D.out.2 (by rw [HG.out]; exact hp))
        have ht : (put (-(m : Int)) == s.toList) = false := by rw [ByteArray.toList_eq]; simpa using hp
        clear hp
        go_wp2_with (go_at_call 46; refine (moRput_any _ _ HI.out).mono ?_; rintro e w' ⟨rfl, hk⟩)
        go_ret2
        exact ⟨ret_int_bool H.out.2.symm H.out.1.symm, hk⟩

set_option maxHeartbeats 400000 in
theorem moRget_any (s : ByteArray) (w : World) (hs : s.size ≤ maxLen) :
    Calls Tryd.prog 50 #[.string s] w fun e w' => e = .returned (.tuple #[.int .i64 (getV s.data.toList), .bool (getB s.data.toList)]) ∧ Keeps w w' := by
  by_cases h0 : 0 < s.size
  · cases hc : neg1 s.data.toList
    · exact rget_pos s w hs hc h0
    · exact rget_neg s w hs hc h0
  · have e : s.data.toList = [] := by rw [← List.length_eq_zero_iff, len_data]; omega
    have H := Lib.hid (show getB s.data.toList = false ∧ getV s.data.toList = 0 from by rw [e]; exact ⟨by decide, by decide⟩)
    obtain rfl : s = ByteArray.empty := by
      apply ByteArray.ext; apply Array.ext'; rw [e]; rfl
    clear e hs
    go_enter Tryd.func50, Tryd.ntmps50
    go_wp2
    go_ret2
    exact ⟨ret_int_bool H.out.2.symm H.out.1.symm, Keeps.refl _⟩
end Go.Proofs.YtnkcbefamajghaaDoor
