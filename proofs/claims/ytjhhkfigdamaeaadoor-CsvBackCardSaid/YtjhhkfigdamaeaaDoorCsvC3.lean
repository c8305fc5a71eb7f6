
/- The contract of csv.read. -/
import Derived.Test.YtjhhkfigdamaeaaDoorCsvC2
set_option linter.unusedVariables false
namespace Go.Proofs.YtjhhkfigdamaeaaDoor
open Go.ChangeShapes Go.WideShapes Go.ChangeAt Go.RowKit Go.Shelf Go.Proofs Csv

set_option maxHeartbeats 2000000 in
theorem read_any (s : ByteArray) (p : Nat) (w : World) (hs : s.size ≤ 65536) (hp : p ≤ s.size) (hm : HasMax w) :
    Calls Tryd.prog 22 #[.string s, .int .i64 p] w (FieldAt s p w) := by
  by_cases h34 : ∃ h : p < s.size, s[p]'h = 34
  · obtain ⟨hlt, h34⟩ := h34
    have cq := rquoted_any s p w hs hlt h34 hm
    have cp : Calls Tryd.prog 28 #[.string (s.extract p s.size), .string ⟨#[34]⟩] w fun e w' => e = .returned (.bool true) ∧ w' = w := by
      have := sh_prefix (s.extract p s.size) ⟨#[34]⟩ w
      rw [ext_drop, drop_cons hlt, h34] at this; exact this
    have HM := Lib.hid hm
    clear hm h34
    go_enter Tryd.func22, Tryd.ntmps22
    go_wp2_with (first
      | (go_at_call 28; refine cp.mono ?_; rintro e w' ⟨rfl, hw⟩; subst hw)
      | (go_at_call 29; refine cq.mono ?_; rintro e w' ⟨f, k, code, rfl, hr, hk⟩))
    go_ret3
    exact ⟨f, k, code, rfl, hr, hk⟩
  · have cp : Calls Tryd.prog 28 #[.string (s.extract p s.size), .string ⟨#[34]⟩] w fun e w' => e = .returned (.bool false) ∧ w' = w := by
      have := sh_prefix (s.extract p s.size) ⟨#[34]⟩ w
      rw [ext_drop] at this
      have hz : Lib.hasPrefix (s.data.toList.drop p) (⟨#[34]⟩ : ByteArray).data.toList = false := by
        by_cases hlt : p < s.size
        · have hne : s[p]'hlt ≠ 34 := fun e => h34 ⟨hlt, e⟩
          rw [drop_cons hlt]
          have e : ((34 : UInt8) == s[p]'hlt) = false := by rw [beq_eq_false_iff_ne]; exact fun e => hne e.symm
          show ([34] : List UInt8).isPrefixOf _ = false
          simp [List.isPrefixOf, e]
        · have : s.data.toList.drop p = [] := by apply List.drop_eq_nil_of_le; rw [len_data]; omega
          rw [this]; rfl
      rw [hz] at this; exact this
    have ci := iany_any (s.extract p s.size) w (by rw [ByteArray.size_extract]; omega)
    rw [ext_drop] at ci
    rcases indexAny_spec (s.data.toList.drop p) with ⟨h1, h2⟩ | ⟨a, c, b, h1, h2, h3, h4⟩
    · rw [h1] at ci
      have H := Lib.hid (rd_end h2)
      have HL := Lib.hid (show p + (s.data.toList.drop p).length = s.size from by rw [List.length_drop, len_data]; omega)
      clear h1 h2 h34 hm
      go_enter Tryd.func22, Tryd.ntmps22
      go_wp2_with (first
        | (go_at_call 28; refine cp.mono ?_; rintro e w' ⟨rfl, hw⟩; subst hw)
        | (go_at_call 30; refine ci.mono ?_; rintro e w' ⟨rfl, hk⟩))
      go_ret3
      exact ⟨[], _, 1, ret_field rfl (by rw [HL.out]) rfl, H.out, hk⟩
    · rw [h4] at ci
      have hjl := drop_len h1
      have hja := drop_at h1
      have hjm := ext_mid h1
      obtain ⟨n, hn⟩ : ∃ n, a.length = n := ⟨_, rfl⟩
      obtain ⟨j, hj⟩ : ∃ j, p + n = j := ⟨_, rfl⟩
      have hjl' : j < s.size := by rw [← hj, ← hn]; exact hjl
      have hja' : s[j]'hjl' = c := by rw [← hja]; congr 1; omega
      have hjm' : s.extract p j = ⟨a.toArray⟩ := by rw [← hjm]; congr 1; omega
      have hx2 : s[(j : Int).toNat]'(by simpa using hjl') = c := by simpa using hja'
      rw [hn] at ci
      have hJ : (p : Int) + (n : Int) = (j : Int) := by omega
      have hpj : p ≤ j := by omega
      have hjs : j ≤ s.size := by omega
      have H1 := Lib.hid h1
      have H2 := Lib.hid h2
      have HN := Lib.hid hn
      have HJ := Lib.hid hj
      have HM := Lib.hid hjm'
      have H34 := Lib.hid h34
      clear h1 h2 h4 hn hj hjm hjm' hja hjl h34 hm
      by_cases hend : c = 44 ∨ c = 10
      · have ce := fun w => ends_yes c w hend
        have HE := Lib.hid hend
        clear hend h3
        go_enter Tryd.func22, Tryd.ntmps22
        go_wp2_with (first
          | (go_at_call 28; refine cp.mono ?_; rintro e w' ⟨rfl, hw⟩; subst hw)
          | (go_at_call 30; refine ci.mono ?_; rintro e w' ⟨rfl, hk⟩)
          | (go_at_call 31; refine (ce _).mono ?_; rintro e w' ⟨rfl, hw⟩; subst hw))
        go_ret3
        refine ⟨a, n, 0, ret_field HM.out (by rw [HJ.out]) rfl, ?_, hk⟩
        rw [H1.out, ← HN.out]; exact rd_plain H2.out HE.out
      · obtain ⟨e1, e2⟩ := not_or.1 hend
        have ce := fun w => ends_no c w e1 e2
        have H3 := Lib.hid (show c = 34 ∨ c = 13 from by
          simp only [isSp, Bool.or_eq_true, beq_iff_eq] at h3
          rcases h3 with ((h | h) | h) | h
          · exact absurd h e1
          · exact Or.inl h
          · exact absurd h e2
          · exact Or.inr h)
        clear hend h3 e1 e2
        go_enter Tryd.func22, Tryd.ntmps22
        go_wp2_with (first
          | (go_at_call 28; refine cp.mono ?_; rintro e w' ⟨rfl, hw⟩; subst hw)
          | (go_at_call 30; refine ci.mono ?_; rintro e w' ⟨rfl, hk⟩)
          | (go_at_call 31; refine (ce _).mono ?_; rintro e w' ⟨rfl, hw⟩; subst hw))
        go_ret3
        refine ⟨[], n, 2, ret_field rfl (by rw [HJ.out]) rfl, ?_, hk⟩
        rw [H1.out, ← HN.out]
        refine rd_odd H2.out H3.out fun e => ?_
        intro ha
        apply H34.out
        have hn0 : n = 0 := by rw [← HN.out, ha]; rfl
        have : p = j := by have := HJ.out; omega
        subst this
        exact ⟨hjl', by rw [hja', e]⟩
end Go.Proofs.YtjhhkfigdamaeaaDoor
