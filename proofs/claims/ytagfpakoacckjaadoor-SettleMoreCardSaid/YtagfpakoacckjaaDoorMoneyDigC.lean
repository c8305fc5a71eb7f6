
/- The contracts of money.count, digits, value. -/
import Derived.Test.YtagfpakoacckjaaDoorMoneyMath
set_option linter.unusedVariables false
namespace Go.Proofs.YtagfpakoacckjaaDoor
open Go.ChangeShapes Go.WideShapes Go.ChangeAt Go.RowKit Mon

set_option maxHeartbeats 400000 in
theorem moCount_any (N : Nat) (w : World) (hN : N < topN) :
    Calls Tryd.prog 24 #[.int .u64 N] w fun e w' => e = .returned (.int .i64 (cnt N)) ∧ w = w' := by
  have HN := Lib.hid hN
  clear hN
  go_enter Tryd.func24, Tryd.ntmps24
  go_wp2
  go_loop [0, 3] (fun n m => ∃ k M : Nat, n = .int .u64 M ∧ m = .int .i64 k ∧ M < topN ∧ k + cnt M = cnt N + 1) (fun n _ => (intOf n).toNat)
  case atStart => exact ⟨1, N, rfl, rfl, HN.out, by omega⟩
  case round =>
    obtain ⟨k, M, rfl, rfl, hM, hk⟩ := hrel
    have h20 : cnt N ≤ 20 := cnt_le20 HN.out
    have hp := cnt_pos M
    by_cases h : M < 10
    · have hs := cnt_small h
      have hkk : k = cnt N := by omega
      have HK := Lib.hid hkk
      clear hs hk hkk
      go_wp2
      go_ret
      exact ⟨ret_int (by rw [HK.out]), rfl⟩
    · have hs := Lib.hid (cnt_step hM (by omega))
      have hk' := Lib.hid hk
      have hm := Lib.hid hM
      have hkb : k ≤ 20 := by omega
      clear hk hM
      go_wp2
      go_round
      case rel =>
        have e : IntKind.u64.wrap ((M : Int) / 10) = ((M / 10 : Nat) : Int) := by rw [u64w (by omega) (by have := hm.out; omega)]; omega
        exact ⟨k + 1, M / 10, vint e, by go_num, by have := hm.out; omega, by have := hs.out; have := hk'.out; omega⟩
      case measure =>
        have e : IntKind.u64.wrap ((M : Int) / 10) = ((M / 10 : Nat) : Int) := by rw [u64w (by omega) (by have := hm.out; omega)]; omega
        simp [intOf, e]; omega

set_option maxHeartbeats 400000 in
theorem value_any (s : ByteArray) (most : Nat) (w : World) (hs : s.size ≤ maxLen) (hm : most ≤ 19) :
    Calls Tryd.prog 76 #[.string s, .int .i64 most] w fun e w' =>
      e = .returned (.tuple #[.int .u64 (valR s.data.toList most), .bool (okNum s.data.toList most)]) ∧ w = w' := by
  unfold maxLen at hs
  by_cases h0 : 1 ≤ s.size
  case neg =>
    have H := Lib.hid (not_okNum_len (l := s.data.toList) (most := most) (Or.inl (by rw [len_data]; exact h0)))
    go_enter Tryd.func76, Tryd.ntmps76
    go_wp2
    all_goals go_ret2
    all_goals exact ⟨ret_int_bool (by rw [H.out.2]; rfl) H.out.1.symm, rfl⟩
  case pos =>
    by_cases h1 : most < s.size
    · have H := Lib.hid (not_okNum_len (l := s.data.toList) (most := most) (Or.inr (by rw [len_data]; exact h1)))
      go_enter Tryd.func76, Tryd.ntmps76
      go_wp2
      all_goals go_ret2
      all_goals exact ⟨ret_int_bool (by rw [H.out.2]; rfl) H.out.1.symm, rfl⟩
    · go_enter Tryd.func76, Tryd.ntmps76
      go_wp2
      go_loop [4, 18] (fun n i => ∃ k : Nat, k ≤ s.size ∧ i = .int .i64 k ∧ n = .int .u64 (num (s.data.toList.take k) : Nat) ∧ (∀ c, c ∈ s.data.toList.take k → isDig c = true)) (fun _ i => s.size - (intOf i).toNat)
      case atStart => exact ⟨0, Nat.zero_le _, rfl, rfl, by simp⟩
      case round =>
        obtain ⟨k, hk, rfl, rfl, hall⟩ := hrel
        have hl : (s.data.toList.take k).length ≤ k := List.length_take_le _ _
        have hnum := num_lt _ hall
        have hpow : num (s.data.toList.take k) < 10 ^ 18 ∨ k = s.size := by
          by_cases e : k = s.size
          · exact Or.inr e
          · exact Or.inl (Nat.lt_of_lt_of_le hnum (Nat.pow_le_pow_right (by omega) (by omega)))
        by_cases hlt : k < s.size
        · have hb : num (s.data.toList.take k) < 1000000000000000000 := by
            rcases hpow with h | h
            · simpa using h
            · omega
          have hsn := Lib.hid (num_snoc (s.data.toList.take k) s[k])
          have hts := Lib.hid (take_snoc s k hlt)
          have HA := Lib.hid hall
          have hdg : isDig s[k] = (decide (48 ≤ (s[k].toNat : Int)) && decide ((s[k].toNat : Int) ≤ 57)) := by unfold isDig; rw [Bool.eq_iff_iff]; simp; omega
          have HD := Lib.hid hdg
          clear hall hnum hpow hl hdg
          rcases (show (s[k].toNat : Int) < 48 ∨ 57 < (s[k].toNat : Int) ∨ (48 ≤ (s[k].toNat : Int) ∧ (s[k].toNat : Int) ≤ 57) from by omega) with hc | hc | hc
          · have hno := not_okNum (most := most) hlt (by rw [HD.out]; simp; omega)
            have hv : valR s.data.toList most = 0 := by simp [valR, hno]
            have H := Lib.hid (And.intro hno hv)
            clear hno hv
            go_wp2
            all_goals go_ret2
            all_goals exact ⟨ret_int_bool (by rw [H.out.2]; rfl) H.out.1.symm, rfl⟩
          · have hno := not_okNum (most := most) hlt (by rw [HD.out]; simp; omega)
            have hv : valR s.data.toList most = 0 := by simp [valR, hno]
            have H := Lib.hid (And.intro hno hv)
            clear hno hv
            go_wp2
            all_goals go_ret2
            all_goals exact ⟨ret_int_bool (by rw [H.out.2]; rfl) H.out.1.symm, rfl⟩
          · obtain ⟨hc1, hc2⟩ := hc
            go_wp2
            go_round
            case rel =>
              refine ⟨k + 1, by omega, by go_num, vint ?_, ?_⟩
              · rw [hts.out, hsn.out]; omega
              · rw [hts.out]
                intro c hc
                rcases List.mem_append.1 hc with h | h
                · exact HA.out c h
                · rw [List.mem_singleton.1 h, HD.out]; simp; omega
            case measure => simp [intOf]; omega
        · have e : s.data.toList.take k = s.data.toList := List.take_of_length_le (by rw [len_data]; omega)
          have H := Lib.hid (okNum_full (l := s.data.toList) (most := most) (by rw [len_data]; omega) (by rw [len_data]; omega) (by rw [← e]; exact hall))
          have E := Lib.hid e
          clear hall hnum hpow hl e
          go_wp2
          go_ret2
          exact ⟨ret_int_bool (by rw [H.out.2, E.out]) H.out.1.symm, rfl⟩
end Go.Proofs.YtagfpakoacckjaaDoor
