
/- The contracts of the document's Read, Cut (layer 2). -/
import Derived.Test.YtomonhghioamfaaDoorBitsRefC
import Derived.Test.YtomonhghioamfaaDoorBitsCutC
set_option linter.unusedVariables false
namespace Go.Proofs.YtomonhghioamfaaDoor
open Go.ChangeShapes Go.WideShapes Go.ChangeAt Go.RowKit Bit

theorem drop_one (s : ByteArray) (m j : Nat) (hj : j < m) (hm : m ≤ s.size) : (s.data.toList.take m).drop j = (s[j]'(by omega)) :: (s.data.toList.take m).drop (j + 1) := by
  rw [List.drop_eq_getElem_cons (by rw [List.length_take, len_data]; omega), List.getElem_take]
  rfl
theorem lo_step (s : ByteArray) (m j : Nat) (hj : j < m) (hm : m ≤ s.size) : lo ((s.data.toList.take m).drop j) = (s[j]'(by omega)).toNat % 128 + 128 * lo ((s.data.toList.take m).drop (j + 1)) := by
  rw [drop_one s m j hj hm, lo]
theorem lo_wrap (a c : Nat) (hc : c < 256) : IntKind.u64.wrap (IntKind.u64.wrap ((a : Int) % (topN : Int) * 128) + (c : Int) % 128) = (((c % 128 + 128 * a) % topN : Nat) : Int) := by
  rw [u64w_mod, u64w_mod]
  unfold topN
  omega

set_option maxRecDepth 100000 in
set_option maxHeartbeats 4000000 in
theorem rread_any (s : ByteArray) (w : World) (hs : s.size ≤ maxLen) :
    Calls Tryd.prog 50 #[.string s] w fun e w' => e = .returned (.tuple #[.int .u64 (rdV s.data.toList), .string ⟨(rdR s.data.toList).toArray⟩, .bool (rdB s.data.toList)]) ∧ Keeps w w' := by
  unfold maxLen at hs
  go_enter Tryd.func50, Tryd.ntmps50
  go_wp2
  go_loop [5] (fun i => ∃ k : Nat, k ≤ s.size ∧ k ≤ 10 ∧ i = .int .i64 k ∧ (∀ c, c ∈ s.data.toList.take k → isHi c = true)) (fun i => s.size - (intOf i).toNat)
  case atStart => exact ⟨0, Nat.zero_le _, Nat.zero_le _, rfl, by simp⟩
  case round =>
    obtain ⟨k, hk, hk10, rfl, hall⟩ := hrel
    have HA := Lib.hid hall
    clear hall
    rcases (show s.size ≤ k ∨ (k < s.size ∧ 10 ≤ k) ∨ (k < s.size ∧ k < 10) from by omega) with hc | ⟨hc1, hc⟩ | ⟨hl1, hl2⟩
    · have H := Lib.hid (rd_none (k := k) HA.out (by simpa using hk) (by simp; omega))
      go_wp2
      go_ret3
      exact ⟨ret3 (by rw [H.out.2.1]; rfl) (by rw [H.out.2.2]) H.out.1.symm, Keeps.refl _⟩
    · have H := Lib.hid (rd_none (k := k) HA.out (by simpa using hk) (by simp; omega))
      go_wp2
      go_ret3
      exact ⟨ret3 (by rw [H.out.2.1]; rfl) (by rw [H.out.2.2]) H.out.1.symm, Keeps.refl _⟩
    · have hts := Lib.hid (take_snoc s k hl1)
      by_cases hh : 128 ≤ (s[k].toNat : Int)
      · go_wp2
        go_round
        case rel =>
          refine ⟨k + 1, by omega, by omega, by go_num, ?_⟩
          rw [hts.out]
          intro c hc
          rcases List.mem_append.1 hc with h | h
          · exact HA.out c h
          · rw [List.mem_singleton.1 h]; unfold isHi; exact decide_eq_true (by omega)
        case measure => simp [intOf]; omega
      · have HK := Lib.hid (rd_at HA.out (by rw [len_data]; exact hl1) (show isHi s[k] = false from by unfold isHi; exact decide_eq_false (by omega)))
        clear hts
        go_wp2
        go_loop [6, 7] (fun n i => ∃ j : Nat, j ≤ k + 1 ∧ i = .int .i64 ((j : Int) - 1) ∧ n = .int .u64 (lo ((s.data.toList.take (k + 1)).drop j) % topN : Nat)) (fun _ i => (intOf i + 1).toNat)
        case atStart => exact ⟨k + 1, Nat.le_refl _, by go_num, by rw [List.drop_of_length_le (by rw [List.length_take]; omega)]; rfl⟩
        case round =>
          obtain ⟨j, hj, rfl, rfl⟩ := hrel
          by_cases h0 : 0 < j
          · have hst := Lib.hid (lo_step s (k + 1) (j - 1) (by omega) (by omega))
            have hx0 : 0 ≤ (j : Int) - 1 := by omega
            have hx1 : (j : Int) - 1 < s.size := by omega
            have hx2 : ((j : Int) - 1).toNat = j - 1 := by omega
            go_wp2
            go_round
            case rel =>
              refine ⟨j - 1, by omega, vint (by omega), vint ?_⟩
              rw [hst.out, show j - 1 + 1 = j from by omega]
              exact lo_wrap _ _ (u8_lt _)
            case measure => simp [intOf]; omega
          · obtain rfl : j = 0 := by omega
            obtain ⟨V, hV⟩ : ∃ V, V = lo (s.data.toList.take (k + 1)) % topN := ⟨_, rfl⟩
            rw [List.drop_zero, ← hV]
            have HV := Lib.hid hV
            have HVT := Lib.hid (show V < topN from by rw [hV]; exact Nat.mod_lt _ (by decide))
            have hw1 : IntKind.i64.wrap ((k : Int) + 1) = (k : Int) + 1 := IntWalk.i64_in _ (by omega)
            have hb0 : 0 ≤ (k : Int) + 1 := by omega
            have hb1 : ((k : Int) + 1).toNat = k + 1 := by omega
            clear hV h0 hj
            have he : (s.extract 0 (k + 1)).toList = s.data.toList.take (k + 1) := by rw [extract_list]; simp
            have HE := Lib.hid (extract_end s (k + 1))
            cases ht : (sev V == (s.extract 0 (k + 1)).toList)
            · have H := Lib.hid (rd_odd HK.out (by rw [he] at ht; have hv := HV.out; simpa [hv] using ht))
              clear he
              go_wp2_with (go_region_with (go_at_call 35; refine (rvar_any' _ _ HVT.out).mono ?_; rintro e w' ⟨rfl, hk⟩))
              all_goals
                go_ret3
                refine ⟨ret3 (by rw [H.out.2.1]; rfl) (by rw [H.out.2.2]) H.out.1.symm, ?_⟩
                first | exact Keeps.trans ((Below.refl _ _).drew) hk | exact hk.drew
            · have H := Lib.hid (rd_yes HK.out (by rw [len_data]; exact hl1) (by omega) (by rw [he] at ht; have hv := HV.out; simpa [hv] using ht))
              clear he
              go_upto_region 13 with (go_region_with (go_at_call 35; refine (rvar_any' _ _ HVT.out).mono ?_; rintro e w' ⟨rfl, hk⟩))
              all_goals (go_quiet (fail); go_wp2)
              all_goals
                go_ret3
                refine ⟨ret3 (a := (V : Int)) (s := s.extract (k + 1) s.size) (c := true) (by rw [H.out.2.1, HV.out]) (by rw [H.out.2.2, HE.out]) H.out.1.symm, ?_⟩
                exact keeps_drewN (Keeps.trans ((Below.refl _ _).drew) hk) _
end Go.Proofs.YtomonhghioamfaaDoor
