/- The walks of BitsBack, BitsForm, BitsSign, out of the contracts. -/
import Derived.Test.YtdadpkcnmimneaaBitsLaws
set_option linter.unusedVariables false
namespace Go.Proofs.Ytdadpkcnmimneaa
open Go.ChangeShapes Go.WideShapes Go.ChangeAt Go.RowKit Bit

theorem sign_neg {n : Int} (hI : I64 n) (h : n < 0) : ∃ U : Int, IntKind.u64.wrap n = U ∧ U / 9223372036854775808 = 1 ∧ (sgn n : Int) % 2 = 1 := by
  unfold I64 top at hI
  refine ⟨n + topN, by rw [u64w_mod]; unfold topN; omega, by unfold topN; omega, by unfold sgn; rw [if_pos h]; omega⟩
theorem sign_pos {n : Int} (hI : I64 n) (h : 0 ≤ n) : IntKind.u64.wrap n = n ∧ n / 9223372036854775808 = 0 ∧ (sgn n : Int) % 2 = 0 := by
  unfold I64 top at hI
  refine ⟨by rw [u64w_mod]; unfold topN; omega, by omega, by unfold sgn; rw [if_neg (by omega)]; omega⟩
theorem sign_len {n : Int} (h : -64 ≤ n) (h' : n ≤ 63) : (((sev (sgn n)).length : Int) == 1) = true := by
  have : sgn n < 128 := by unfold sgn; split <;> omega
  rw [sev_small this]; rfl

set_option maxRecDepth 100000 in
set_option maxHeartbeats 4000000 in
theorem bitsSign_go (n m : Int) (w : World) (hn : (Lit.int .i64 n).wf = true) (hm : (Lit.int .u64 m).wf = true) :
    Calls Try.prog 7 #[.int .i64 n, .int .u64 m] w fun e w' => e = .returned (.bool true) ∧ Keeps w w' := by
  obtain ⟨M, rfl, hM⟩ := u64_of hm
  have hI := i64_of hn
  have HI := Lib.hid hI
  have HM := Lib.hid hM
  have HB := Lib.hid (bck_i64 hM)
  have HG := Lib.hid (sgn_lt hI)
  have hbs : bck (sgn n) = n := bck_sgn n
  have hsb : sgn (bck M) = M := sgn_bck M
  rcases (show (n < -64) ∨ 63 < n ∨ (-64 ≤ n ∧ n < 0) ∨ (0 ≤ n ∧ n ≤ 63) from by omega) with h | h | ⟨h, h'⟩ | ⟨h, h'⟩
  case' inl => obtain ⟨U, hu1, hu2, hu3⟩ := sign_neg hI (by omega)
  case' inr.inl => obtain ⟨hu1, hu2, hu3⟩ := sign_pos hI (by omega)
  case' inr.inr.inl => obtain ⟨U, hu1, hu2, hu3⟩ := sign_neg hI (by omega); have hl := sign_len h (by omega)
  case' inr.inr.inr => obtain ⟨hu1, hu2, hu3⟩ := sign_pos hI (by omega); have hl := sign_len (by omega) h'
  all_goals
    clear hn hm hM hI
    go_enter Try.func7, Try.ntmps7
    go_wp2_with (first
      | (go_at_call 12; refine (sign_any _ _ (by first | exact HI.out | exact HB.out)).mono ?_; rintro e w' ⟨rfl, rfl⟩)
      | (go_at_call 14; refine (back_any _ _ (by first | exact HM.out | exact HG.out)).mono ?_; rintro e w' ⟨rfl, rfl⟩)
      | (go_at_call 10; refine (var_any _ _ HG.out).mono ?_; rintro e w3 ⟨rfl, k3⟩)
      | (go_at_call 16; refine (shifted_any _).mono ?_; rintro e w' ⟨rfl, hk⟩))
    go_ret
    exact ⟨rfl, by repeat (first | assumption | exact Keeps.refl _ | refine Keeps.trans ?_ (by assumption))⟩

/-- What Read tells of a text, for a walk. -/
theorem read_ways (s : ByteArray) : (rdB s.data.toList = false ∧ (rdV s.data.toList : Int) = ((0 : Int)) ∧ rdR s.data.toList = (ByteArray.mk #[]).data.toList) ∨
    (∃ (V : Nat) (R : ByteArray), V < topN ∧ (rdV s.data.toList : Int) = (V : Int) ∧ rdR s.data.toList = R.data.toList ∧ rdB s.data.toList = true ∧ (⟨(sev V).toArray⟩ : ByteArray) ++ R = s ∧ R.size ≤ s.size) := by
  cases h : rdB s.data.toList
  · exact Or.inl ⟨rfl, by rw [(rd_no h).1]; rfl, (rd_no h).2⟩
  · refine Or.inr ⟨rdV s.data.toList, ⟨(rdR s.data.toList).toArray⟩, rdV_lt _, rfl, by simp, rfl, ?_, ?_⟩
    · rw [ByteArray.mk_append_mk, rd_back h]
    · rw [size_mk]; have := rdR_len s.data.toList; rwa [len_data] at this
theorem cut_ways (s : ByteArray) (hs : s.size ≤ 300) : (ctB s.data.toList = false ∧ ctT s.data.toList = (ByteArray.mk #[]).data.toList ∧ ctR s.data.toList = (ByteArray.mk #[]).data.toList) ∨
    (∃ (T B : ByteArray), ctT s.data.toList = T.data.toList ∧ ctR s.data.toList = B.data.toList ∧ ctB s.data.toList = true ∧ (⟨(text T.data.toList).toArray⟩ : ByteArray) ++ B = s ∧ T.size ≤ s.size ∧ B.size ≤ s.size) := by
  cases h : ctB s.data.toList
  · exact Or.inl ⟨rfl, (ct_no h).1, (ct_no h).2⟩
  · have hb := ct_back h
    have hl := congrArg List.length hb
    rw [text, List.length_append, List.length_append, len_data] at hl
    refine Or.inr ⟨⟨(ctT s.data.toList).toArray⟩, ⟨(ctR s.data.toList).toArray⟩, by simp, by simp, rfl, ?_, ?_, ?_⟩
    · rw [ByteArray.mk_append_mk, data_mk, hb]
    · rw [size_mk]; omega
    · rw [size_mk]; omega
theorem sev_size {V : Nat} (h : V < topN) : (⟨(sev V).toArray⟩ : ByteArray).size ≤ 10 := by rw [size_mk]; exact sev_le h
theorem text_size {s : ByteArray} (h : s.size ≤ 4294967296) : (⟨(text s.data.toList).toArray⟩ : ByteArray).size ≤ s.size + 10 ∧ s.size < (⟨(text s.data.toList).toArray⟩ : ByteArray).size := by
  rw [size_mk, text, List.length_append, len_data]
  have h1 := sev_le (n := s.size) (by unfold topN; omega)
  have h2 := sev_pos s.size
  omega

set_option maxRecDepth 100000 in
set_option maxHeartbeats 4000000 in
theorem bitsForm_go (s : ByteArray) (w : World) (hs : s.size ≤ maxLen) :
    Calls Try.prog 6 #[.string s] w fun e w' => e = .returned (.bool true) ∧ Keeps w w' := by
  have S := Lib.hid hs
  by_cases hl : 300 < s.size
  · clear hs
    go_enter Try.func6, Try.ntmps6
    go_wp2_with (go_at_call 16; refine (shifted_any _).mono ?_; rintro e w' ⟨rfl, hk⟩)
    go_ret
    exact ⟨rfl, hk⟩
  clear hs
  have hsl : s.size ≤ 300 := by omega
  have HC := Lib.hid (cut_ways s hsl)
  rcases read_ways s with h | ⟨V, R, hV, h1, h2, h3, hcat, hR⟩
  case' inl => have H := Lib.hid h; clear h
  case' inr =>
    have H := Lib.hid (show (rdV s.data.toList : Int) = (V : Int) ∧ rdR s.data.toList = R.data.toList ∧ rdB s.data.toList = true from ⟨h1, h2, h3⟩)
    have hvs := sev_size hV
    have HV := Lib.hid hV
    clear hV h1 h2 h3
  all_goals rcases HC.out with c | ⟨T, B, c1, c2, c3, ccat, hT, hB⟩
  case' inl.inl => have C := Lib.hid c; clear c
  case' inr.inl => have C := Lib.hid c; clear c
  case' inl.inr =>
    exfalso
    have := ct_yes c3
    rw [H.out.1] at this; simp at this
  case' inr.inr =>
    have C := Lib.hid (show ctT s.data.toList = T.data.toList ∧ ctR s.data.toList = B.data.toList ∧ ctB s.data.toList = true from ⟨c1, c2, c3⟩)
    have HTS := Lib.hid (show T.size ≤ 4294967296 by omega)
    have hts := (text_size (s := T) (by omega)).1
    clear c1 c2 c3
  all_goals
    go_enter Try.func6, Try.ntmps6
    go_wp2_with (first
      | (go_at_call 17; refine (read_is s 0 ⟨#[]⟩ false _ S.out ⟨H.out.2.1, H.out.2.2, H.out.1⟩).mono ?_; rintro e w1 ⟨rfl, k1⟩)
      | (go_at_call 17; refine (read_is s V R true _ S.out H.out).mono ?_; rintro e w1 ⟨rfl, k1⟩)
      | (go_at_call 19; refine (cut_is s ⟨#[]⟩ ⟨#[]⟩ false _ S.out ⟨C.out.2.1, C.out.2.2, C.out.1⟩).mono ?_; rintro e w2 ⟨rfl, k2⟩)
      | (go_at_call 19; refine (cut_is s T B true _ S.out C.out).mono ?_; rintro e w2 ⟨rfl, k2⟩)
      | (go_at_call 10; refine (var_any _ _ HV.out).mono ?_; rintro e w3 ⟨rfl, k3⟩)
      | (go_at_call 23; refine (text_any _ _ HTS.out).mono ?_; rintro e w4 ⟨rfl, k4⟩)
      | (go_at_call 16; refine (shifted_any _).mono ?_; rintro e w' ⟨rfl, hk⟩))
    go_ret
    exact ⟨rfl, by repeat (first | assumption | exact Keeps.refl _ | refine Keeps.trans ?_ (by assumption))⟩

/-- A text without its last byte. -/
theorem less_one (s : ByteArray) : (s.extract 0 (s.size - 1)).data.toList = s.data.toList.take (s.data.toList.length - 1) := by
  have := extract_list s 0 (s.size - 1)
  rw [ByteArray.toList_eq] at this
  rw [this, len_data]; simp

set_option maxRecDepth 100000 in
set_option maxHeartbeats 4000000 in
theorem bitsBack_go (n : Int) (s b : ByteArray) (w : World) (hn : (Lit.int .u64 n).wf = true) (hs : s.size ≤ maxLen) (hb : b.size ≤ maxLen) :
    Calls Try.prog 5 #[.int .u64 n, .string s, .string b] w fun e w' => e = .returned (.bool true) ∧ Keeps w w' := by
  obtain ⟨N, rfl, hN⟩ := u64_of hn
  by_cases hl : 1000 < s.size
  · clear hs hb hn hN
    go_enter Try.func5, Try.ntmps5
    go_wp2_with (go_at_call 16; refine (shifted_any _).mono ?_; rintro e w' ⟨rfl, hk⟩)
    go_ret
    exact ⟨rfl, hk⟩
  by_cases hl2 : 100 < b.size
  · clear hs hb hn hN
    go_enter Try.func5, Try.ntmps5
    go_wp2_with (go_at_call 16; refine (shifted_any _).mono ?_; rintro e w' ⟨rfl, hk⟩)
    go_ret
    exact ⟨rfl, hk⟩
  obtain ⟨V, hV⟩ : ∃ V : ByteArray, V = ⟨(sev N).toArray⟩ := ⟨_, rfl⟩
  obtain ⟨T, hT⟩ : ∃ T : ByteArray, T = ⟨(text s.data.toList).toArray⟩ := ⟨_, rfl⟩
  obtain ⟨P, hP⟩ : ∃ P : ByteArray, P = ⟨(putL N 8).toArray⟩ := ⟨_, rfl⟩
  have hVd : V.data.toList = sev N := by rw [hV]
  have hTd : T.data.toList = text s.data.toList := by rw [hT]
  have hPd : P.data.toList = be 8 N := by rw [hP]; rfl
  have hsN : s.data.toList.length < topN := by rw [len_data]; unfold topN; omega
  have hv1 : 1 ≤ V.size := by rw [hV, size_mk]; exact sev_pos N
  have hv2 : V.size ≤ 10 := by rw [hV, size_mk]; exact sev_le hN
  have hts := text_size (s := s) (by omega)
  rw [← hT] at hts
  obtain ⟨ht2, ht1⟩ := hts
  have HN := Lib.hid hN
  have HVV := Lib.hid hV.symm
  have HTT := Lib.hid hT.symm
  have HPP := Lib.hid hP.symm
  have HS := Lib.hid (show s.size ≤ 4294967296 by omega)
  have app : ∀ x y : ByteArray, (x ++ y).data.toList = x.data.toList ++ y.data.toList := fun x y => by simp
  have hr := rd_sev hN b.data.toList
  have hc := ct_text hsN b.data.toList
  rw [← hVd, ← app] at hr
  rw [← hTd, ← app] at hc
  have RD := Lib.hid (show (rdV (V ++ b).data.toList : Int) = (N : Int) ∧ rdR (V ++ b).data.toList = b.data.toList ∧ rdB (V ++ b).data.toList = true from ⟨by rw [hr.2.1], hr.2.2, hr.1⟩)
  have CT := Lib.hid (show ctT (T ++ b).data.toList = s.data.toList ∧ ctR (T ++ b).data.toList = b.data.toList ∧ ctB (T ++ b).data.toList = true from ⟨hc.2.1, hc.2.2, hc.1⟩)
  have S1 := Lib.hid (show (V ++ b).size ≤ maxLen from by rw [ByteArray.size_append]; unfold maxLen; omega)
  have S2 := Lib.hid (show (T ++ b).size ≤ maxLen from by rw [ByteArray.size_append]; unfold maxLen; omega)
  have c1 := ct_cut hsN
  rw [← hTd, ← less_one T] at c1
  have CC := Lib.hid (show ctT (T.extract 0 (T.size - 1)).data.toList = (ByteArray.mk #[]).data.toList ∧ ctR (T.extract 0 (T.size - 1)).data.toList = (ByteArray.mk #[]).data.toList ∧ ctB (T.extract 0 (T.size - 1)).data.toList = false from ⟨(ct_no c1).1, (ct_no c1).2, c1⟩)
  have r1 := (rd_cut hN (k := (sev N).length - 1) (by have := sev_pos N; omega)).1
  rw [← hVd, ← less_one V] at r1
  have RC := Lib.hid r1
  have S3 := Lib.hid (show (T.extract 0 (T.size - 1)).size ≤ maxLen from by rw [ByteArray.size_extract]; unfold maxLen; omega)
  have S4 := Lib.hid (show (V.extract 0 (V.size - 1)).size ≤ maxLen from by rw [ByteArray.size_extract]; unfold maxLen; omega)
  have S5 := Lib.hid (show P.size ≤ maxLen from by rw [hP, size_mk, putL, if_pos (by omega), be_length]; decide)
  have hg : getN P.data.toList = N := by
    rw [hPd, getN, List.take_of_length_le (by rw [be_length]; omega)]
    exact beN_be 8 N (by have : (256 : Nat) ^ 8 = topN := by decide
                         omega)
  have hx1 : 0 ≤ (T.size : Int) - 1 := by omega
  have hx2 : ((T.size : Int) - 1).toNat = T.size - 1 := by omega
  have hy1 : 0 ≤ (V.size : Int) - 1 := by omega
  have hy2 : ((V.size : Int) - 1).toNat = V.size - 1 := by omega
  clear app hr hc c1 r1 hV hT hP hVd hTd hPd hsN hN hn hs hb
  go_enter Try.func5, Try.ntmps5
  go_wp2_with (first
    | (go_at_call 10; refine (var_any _ _ HN.out).mono ?_; rw [HVV.out]; rintro e w3 ⟨rfl, k3⟩)
    | (go_at_call 23; refine (text_any _ _ HS.out).mono ?_; rw [HTT.out]; rintro e w4 ⟨rfl, k4⟩)
    | (go_at_call 17; refine (read_is _ N b true _ S1.out RD.out).mono ?_; rintro e w1 ⟨rfl, k1⟩)
    | (go_at_call 19; (with_reducible refine (cut_is (T ++ b) s b true _ S2.out CT.out).mono ?_); rintro e w2 ⟨rfl, k2⟩)
    | (go_at_call 19; (with_reducible refine (cut_is (T.extract 0 (T.size - 1)) ⟨#[]⟩ ⟨#[]⟩ false _ S3.out CC.out).mono ?_); rintro e w2 ⟨rfl, k5⟩)
    | (go_at_call 25; refine (no_none _ _ S4.out RC.out).mono ?_; rintro e w' ⟨rfl, k6⟩)
    | (go_at_call 8; refine (put_any N 8 _ HN.out).mono ?_; rw [HPP.out]; rintro e w' ⟨rfl, k7⟩)
    | (go_at_call 21; refine (get_any P _ S5.out).mono ?_; rintro e w' ⟨rfl, rfl⟩)
    | (go_at_call 16; refine (shifted_any _).mono ?_; rintro e w' ⟨rfl, hk⟩))
  go_ret
  exact ⟨rfl, by repeat (first | assumption | exact Keeps.refl _ | refine Keeps.trans ?_ (by assumption))⟩
end Go.Proofs.Ytdadpkcnmimneaa
