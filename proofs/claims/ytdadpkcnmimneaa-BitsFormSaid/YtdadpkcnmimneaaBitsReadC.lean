/- The contracts of bits.Read, Cut. -/
import Derived.Test.YtdadpkcnmimneaaBitsVarC
import Derived.Test.YtdadpkcnmimneaaBitsOr
import Derived.Deep.RegionWith
import Derived.Deep.QuietTactic
import Derived.BigQuiet
import Derived.Deep.Cut
set_option linter.unusedVariables false
namespace Go.Proofs.Ytdadpkcnmimneaa
open Go.ChangeShapes Go.WideShapes Go.ChangeAt Go.RowKit Bit

theorem keeps_drewN {w w' : World} (h : Keeps w w') (n : Nat) : Keeps w (w'.drewN n) := Below.trans h ⟨rfl, rfl, rfl, Nat.le_refl _, fun _ _ => rfl⟩
theorem ret3 {k : IntKind} {a b : Int} {s t : ByteArray} {c d : Bool} (h : a = b) (g : s = t) (f : c = d) : Ending.returned (.tuple #[.int k a, .string s, .bool c]) = .returned (.tuple #[.int k b, .string t, .bool d]) := by rw [h, g, f]
theorem ret3s {a b : ByteArray} {s t : ByteArray} {c d : Bool} (h : a = b) (g : s = t) (f : c = d) : Ending.returned (.tuple #[.string a, .string s, .bool c]) = .returned (.tuple #[.string b, .string t, .bool d]) := by rw [h, g, f]

set_option maxRecDepth 100000 in
set_option maxHeartbeats 4000000 in
theorem read_any (s : ByteArray) (w : World) (hs : s.size ≤ maxLen) :
    Calls Try.prog 17 #[.string s] w fun e w' => e = .returned (.tuple #[.int .u64 (rdV s.data.toList), .string ⟨(rdR s.data.toList).toArray⟩, .bool (rdB s.data.toList)]) ∧ Keeps w w' := by
  unfold maxLen at hs
  go_enter Try.func17, Try.ntmps17
  go_wp2
  all_goals
    go_loop [2, 9] (fun n i => ∃ k : Nat, k ≤ s.size ∧ k ≤ 10 ∧ i = .int .i64 k ∧ n = .int .u64 (lo (s.data.toList.take k) % topN : Nat) ∧ (∀ c, c ∈ s.data.toList.take k → isHi c = true)) (fun _ i => s.size - (intOf i).toNat)
    case atStart => exact ⟨0, Nat.zero_le _, Nat.zero_le _, rfl, rfl, by simp⟩
    case round =>
      obtain ⟨k, hk, hk10, rfl, rfl, hall⟩ := hrel
      have HA := Lib.hid hall
      clear hall
      by_cases hlt : k < s.size ∧ k < 10
      · obtain ⟨hl1, hl2⟩ := hlt
        have hts := Lib.hid (take_snoc s k hl1)
        have hsn := Lib.hid (lo_snoc (s.data.toList.take k) s[k])
        have hlen : (s.data.toList.take k).length = k := by rw [List.length_take, len_data]; omega
        have hor := or_step (s.data.toList.take k) s[k].toNat k (by omega) (by omega) (u8_lt _)
        obtain ⟨V, hV⟩ : ∃ V, V = (lo (s.data.toList.take k) + s[k].toNat % 128 * 128 ^ k) % topN := ⟨_, rfl⟩
        rw [← hV] at hor
        have HV := Lib.hid (show V = lo (s.data.toList.take (k + 1)) % topN from by rw [hV, hts.out, hsn.out, hlen])
        have HVT := Lib.hid (show V < topN from by rw [hV]; exact Nat.mod_lt _ (by decide))
        clear hV hlen
        by_cases hh : 128 ≤ (s[k].toNat : Int)
        · go_wp2
          go_round
          case rel =>
            refine ⟨k + 1, by omega, by omega, by go_num, vint (by rw [HV.out]), ?_⟩
            rw [hts.out]
            intro c hc
            rcases List.mem_append.1 hc with h | h
            · exact HA.out c h
            · rw [List.mem_singleton.1 h]; unfold isHi; exact decide_eq_true (by omega)
          case measure => simp [intOf]; omega
        · have HK := Lib.hid (rd_at HA.out (by rw [len_data]; exact hl1) (show isHi s[k] = false from by unfold isHi; exact decide_eq_false (by omega)))
          have hw1 : IntKind.i64.wrap ((k : Int) + 1) = (k : Int) + 1 := IntWalk.i64_in _ (by omega)
          have hb0 : 0 ≤ (k : Int) + 1 := by omega
          have hb1 : ((k : Int) + 1).toNat = k + 1 := by omega
          have he : (s.extract 0 (k + 1)).toList = s.data.toList.take (k + 1) := by rw [extract_list]; simp
          have HE := Lib.hid (extract_end s (k + 1))
          cases ht : (sev V == (s.extract 0 (k + 1)).toList)
          · have H := Lib.hid (rd_odd HK.out (by rw [he] at ht; have hv := HV.out; simpa [hv] using ht))
            clear he
            go_wp2_with (go_region_with (go_at_call 10; refine (var_any _ _ HVT.out).mono ?_; rintro e w' ⟨rfl, hk⟩))
            all_goals
              go_ret3
              refine ⟨ret3 (by rw [H.out.2.1]; rfl) (by rw [H.out.2.2]) H.out.1.symm, ?_⟩
              first | exact Keeps.trans ((Below.refl _ _).drew) hk | exact hk.drew
          · have H := Lib.hid (rd_yes HK.out (by rw [len_data]; exact hl1) (by omega) (by rw [he] at ht; have hv := HV.out; simpa [hv] using ht))
            clear he
            go_upto_region 7 with (go_region_with (go_at_call 10; refine (var_any _ _ HVT.out).mono ?_; rintro e w' ⟨rfl, hk⟩))
            all_goals (go_quiet (fail); go_wp2)
            all_goals
              go_ret3
              refine ⟨ret3 (a := (V : Int)) (s := s.extract (k + 1) s.size) (c := true) (by rw [H.out.2.1, HV.out]) (by rw [H.out.2.2, HE.out]) H.out.1.symm, ?_⟩
              exact keeps_drewN (Keeps.trans ((Below.refl _ _).drew) hk) _
      · first | have hge : s.size ≤ k := by omega | have hge : 10 ≤ k := by omega
        have H := Lib.hid (rd_none (k := k) HA.out (by simpa using hk) (by simp; omega))
        clear hlt
        go_wp2
        go_ret3
        exact ⟨ret3 (by rw [H.out.2.1]; rfl) (by rw [H.out.2.2]) H.out.1.symm, Keeps.refl _⟩
end Go.Proofs.Ytdadpkcnmimneaa
