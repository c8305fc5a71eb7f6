
/- The contract of bits.Cut. -/
import Derived.Test.YtonjkgonbfimjaaDoorBitsReadC
set_option linter.unusedVariables false
namespace Go.Proofs.YtonjkgonbfimjaaDoor
open Go.ChangeShapes Go.WideShapes Go.ChangeAt Go.RowKit Bit

theorem rdR_len (l : List UInt8) : (rdR l).length ≤ l.length := by
  unfold rdR; split
  · rw [List.length_drop]; omega
  · simp

set_option maxRecDepth 100000 in
set_option maxHeartbeats 1000000 in
theorem cut_any (s : ByteArray) (w : World) (hs : s.size ≤ maxLen) :
    Calls Tryd.prog 30 #[.string s] w fun e w' => e = .returned (.tuple #[.string ⟨(ctT s.data.toList).toArray⟩, .string ⟨(ctR s.data.toList).toArray⟩, .bool (ctB s.data.toList)]) ∧ Keeps w w' := by
  have S := Lib.hid hs
  have hrl : (rdR s.data.toList).length ≤ s.size := by have := rdR_len s.data.toList; rwa [len_data] at this
  unfold maxLen at hs
  have hv := rdV_lt s.data.toList
  obtain ⟨R, hR⟩ : ∃ R : ByteArray, R = ⟨(rdR s.data.toList).toArray⟩ := ⟨_, rfl⟩
  have hRd : R.data.toList = rdR s.data.toList := by rw [hR]
  have hRs : R.size = (rdR s.data.toList).length := by rw [hR, size_mk]
  have hRl : R.size ≤ s.size := by omega
  have HR := Lib.hid hR
  have HRD := Lib.hid hRd
  cases hb : rdB s.data.toList
  · have H := Lib.hid (show ctB s.data.toList = false from by unfold ctB; rw [hb]; rfl)
    have H2 := Lib.hid (ct_no H.out)
    have HB := Lib.hid hb
    clear hv hR hRd hRs hrl hb
    go_enter Tryd.func30, Tryd.ntmps30
    go_wp2_with (go_at_call 29; refine (read_any _ _ S.out).mono ?_; rw [HB.out]; rintro e w' ⟨rfl, hk⟩)
    go_ret3
    exact ⟨ret3s (by rw [H2.out.1]) (by rw [H2.out.2]) H.out.symm, hk⟩
  · have HB := Lib.hid hb
    by_cases hc : rdV s.data.toList ≤ (rdR s.data.toList).length
    · have H := Lib.hid (show ctB s.data.toList = true from by unfold ctB; rw [hb]; simp [hc])
      have H2 := Lib.hid (ct_yes H.out)
      have hx := Lib.hid (show R.extract 0 (rdV s.data.toList) = ⟨((rdR s.data.toList).take (rdV s.data.toList)).toArray⟩ from by
        apply ByteArray.ext; apply Array.ext'; rw [← ByteArray.toList_eq, extract_list, hRd]; simp)
      have hy := Lib.hid (show R.extract (rdV s.data.toList) R.size = ⟨((rdR s.data.toList).drop (rdV s.data.toList)).toArray⟩ from by
        rw [extract_end, hRd])
      obtain ⟨V, hV⟩ : ∃ V, V = rdV s.data.toList := ⟨_, rfl⟩
      rw [← hV] at hx hy hc
      have HV := Lib.hid hV
      have hcR : V ≤ R.size := by omega
      clear hv hR hRd hRs hrl hb hc hV
      go_enter Tryd.func30, Tryd.ntmps30
      go_upto_region 4 with (go_at_call 29; refine (read_any _ _ S.out).mono ?_; rw [HB.out, ← HV.out, ← HR.out]; rintro e w' ⟨rfl, hk⟩)
      go_quiet (fail)
      go_wp2
      go_ret3
      exact ⟨ret3s (by rw [H2.out.2.2.1, hx.out, HV.out]) (by rw [H2.out.2.2.2, hy.out, HV.out]) H.out.symm, keeps_drewN hk _⟩
    · have H := Lib.hid (show ctB s.data.toList = false from by unfold ctB; rw [hb]; simp; omega)
      have H2 := Lib.hid (ct_no H.out)
      obtain ⟨V, hV⟩ : ∃ V, V = rdV s.data.toList := ⟨_, rfl⟩
      rw [← hV] at hc
      have HV := Lib.hid hV
      have hcR : R.size < V := by omega
      clear hv hR hRd hRs hrl hb hc hV
      go_enter Tryd.func30, Tryd.ntmps30
      go_wp2_with (go_at_call 29; refine (read_any _ _ S.out).mono ?_; rw [HB.out, ← HV.out, ← HR.out]; rintro e w' ⟨rfl, hk⟩)
      go_ret3
      exact ⟨ret3s (by rw [H2.out.1]) (by rw [H2.out.2]) H.out.symm, hk⟩
end Go.Proofs.YtonjkgonbfimjaaDoor
