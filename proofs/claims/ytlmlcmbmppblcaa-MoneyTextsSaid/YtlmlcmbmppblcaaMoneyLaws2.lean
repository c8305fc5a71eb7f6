/- The walks of MoneyTexts and MoneyBack, out of the contracts. -/
import Derived.Test.YtlmlcmbmppblcaaMoneyLaws
set_option linter.unusedVariables false
namespace Go.Proofs.Ytlmlcmbmppblcaa
open Go.ChangeShapes Go.WideShapes Go.ChangeAt Go.RowKit Mon

theorem int_of {n : Int} (h : (Lit.int .i64 n).wf = true) : -9223372036854775808 ≤ n ∧ n ≤ 9223372036854775807 := by
  have := i64_of h; unfold I64 top at this; omega
theorem u8_of {n : Int} (h : (Lit.int .u8 n).wf = true) : 0 ≤ n ∧ n ≤ 255 := by
  simp only [Lit.wf, IntKind.min, IntKind.max, IntKind.signed, IntKind.bits, Bool.and_eq_true] at h
  simp at h; omega

set_option maxHeartbeats 1000000 in
theorem moneyTexts_go (n W : Int) (s : ByteArray) (w : World) (hn : (Lit.int .i64 n).wf = true) (hW : (Lit.int .i64 W).wf = true) (hs : s.size ≤ maxLen) :
    Calls Try.prog 4 #[.int .i64 n, .int .i64 W, .string s] w fun e w' => e = .returned (.bool true) ∧ Keeps w w' := by
  have N := Lib.hid (i64_of hn)
  have S := Lib.hid hs
  clear hn hW
  by_cases hl : 300 < s.size
  · clear hs
    go_enter Try.func4, Try.ntmps4
    go_wp2_with (go_at_call 13; refine (counted_any _).mono ?_; rintro e w' ⟨rfl, hk⟩)
    go_ret
    exact ⟨rfl, hk⟩
  clear hs
  go_enter Try.func4, Try.ntmps4
  go_wp2
  go_loopw [7] (fun i wr => ∃ j : Int, -1 ≤ j ∧ j ≤ 21 ∧ i = .int .i64 j ∧ Keeps w wr) (fun i _ => (21 - intOf i).toNat)
  case atStart => exact ⟨-1, by omega, by omega, rfl, Keeps.refl _⟩
  case round =>
    obtain ⟨j, h1, h2, rfl, hk⟩ := hrel
    have K := Lib.hid hk
    clear hk
    by_cases hj : j < 21
    · go_wp2_with (first
        | (go_at_call 14; refine (pad_any _ _ _ N.out).mono ?_; rintro e w1 ⟨rfl, k1⟩)
        | (go_at_call 15; refine (rpad_any _ _ _ N.out).mono ?_; rintro e w2 ⟨rfl, k2⟩))
      go_roundw
      case rel => exact ⟨j + 1, by omega, by omega, by go_num, K.out.trans (k1.trans k2)⟩
      case measure => simp [intOf]; omega
    · have k0 := K.out
      go_wp2_with (first
        | (go_at_call 16; refine (get_any _ _ S.out).mono ?_; rintro e w' ⟨rfl, hk⟩)
        | (go_at_call 17; refine (rget_any _ _ S.out).mono ?_; rintro e w' ⟨rfl, hk⟩)
        | (go_at_call 18; refine (unpad_any _ _ S.out).mono ?_; rintro e w' ⟨rfl, rfl⟩)
        | (go_at_call 19; refine (runpad_any _ _ S.out).mono ?_; rintro e w' ⟨rfl, rfl⟩)
        | (go_at_call 20; refine (put_any _ _ N.out).mono ?_; rintro e w' ⟨rfl, hk⟩)
        | (go_at_call 21; refine (rput_any _ _ N.out).mono ?_; rintro e w' ⟨rfl, hk⟩)
        | (go_at_call 14; refine (pad_any _ _ _ N.out).mono ?_; rintro e w1 ⟨rfl, k1⟩)
        | (go_at_call 15; refine (rpad_any _ _ _ N.out).mono ?_; rintro e w2 ⟨rfl, k2⟩)
        | (go_at_call 13; refine (counted_any _).mono ?_; rintro e w' ⟨rfl, hk⟩)
        | (go_at_call 12; refine (is_true _ _ _ _ _ ⟨rfl, rfl⟩).mono ?_; rintro e w' ⟨rfl, rfl⟩))
      go_ret
      exact ⟨rfl, by repeat (first | assumption | exact Keeps.refl _ | refine Keeps.trans ?_ (by assumption))⟩

theorem put_len {n : Int} (hn : I64 n) : (put n).length ≤ 21 := by
  have hb : n.natAbs < topN := by unfold I64 top at hn; unfold topN; omega
  have h20 := cnt_le20 hb
  unfold put
  split
  · rw [decN_len, show n.toNat = n.natAbs from by omega]; omega
  · rw [List.length_cons, decN_len]; omega
theorem pad_no {n W : Int} (h : padB n W = false) : pad n W = [] := by rw [pad, h]; rfl

set_option maxHeartbeats 2000000 in
theorem moneyBack_go (n a : Int) (s : ByteArray) (w : World) (hn : (Lit.int .i64 n).wf = true) (ha : (Lit.int .u8 a).wf = true) (hs : s.size ≤ maxLen) :
    Calls Try.prog 5 #[.int .i64 n, .int .u8 a, .string s] w fun e w' => e = .returned (.bool true) ∧ Keeps w w' := by
  have hI := i64_of hn
  have N := Lib.hid hI
  have S := Lib.hid hs
  obtain ⟨ha0, ha1⟩ := u8_of ha
  clear hn ha
  by_cases hl : 100 < s.size
  · clear hs hI
    go_enter Try.func5, Try.ntmps5
    go_wp2_with (go_at_call 13; refine (counted_any _).mono ?_; rintro e w' ⟨rfl, hk⟩)
    go_ret
    exact ⟨rfl, hk⟩
  have hgp := get_put hI.1 hI.2
  have PL := Lib.hid (show (⟨(put n).toArray⟩ : ByteArray).size ≤ maxLen from by rw [size_mk]; have := put_len hI; unfold maxLen; omega)
  have hgb : getB (put n) = true := hgp.1
  have hgv : getV (put n) = n := hgp.2
  have PB := Lib.hid (pad_back (n := n) (w := a % 18 + 1) hI.2)
  have PN := Lib.hid (pad_no (n := n) (W := a % 18 + 1))
  have D := Lib.hid (show padB n (a % 18 + 1) = false → n < 0 ∨ (a % 18 + 1 < ((put n).length : Int)) from by
    intro h
    by_cases h0 : n < 0
    · exact Or.inl h0
    · right
      have : put n = decN n.toNat := by unfold put; rw [if_pos (by omega)]
      rw [this, decN_len]
      have e : padB n (a % 18 + 1) = decide ((cnt n.toNat : Int) ≤ a % 18 + 1) := by
        unfold padB
        rw [decide_eq_true (show 0 ≤ n from by omega), decide_eq_true (show 1 ≤ a % 18 + 1 from by omega), decide_eq_true (show a % 18 + 1 ≤ 18 from by omega)]; rfl
      rw [e] at h
      have := of_decide_eq_false h; omega)
  have hput := put_len hI
  have X := Lib.hid (show (getB s.data.toList = true → put (getV s.data.toList) = s.data.toList ∧ I64 (getV s.data.toList)) ∧ (getB s.data.toList = false → getV s.data.toList = 0) from
    ⟨fun h => ⟨(put_get h).1, (put_get h).2⟩, fun h => by rw [getV, h]; rfl⟩)
  clear hs hI hgp
  have hb1 : 1 ≤ a % 18 + 1 := by omega
  have hb2 : a % 18 + 1 ≤ 18 := by omega
  cases hg : getB s.data.toList
  case' false => have hv := X.out.2 hg
  case' true =>
    have hp : (put (getV s.data.toList) == s.toList) = true := by rw [ByteArray.toList_eq, (X.out.1 hg).1]; simp
    have I2 := Lib.hid (X.out.1 hg).2
  all_goals
    cases hpd : padB n (a % 18 + 1)
    case' false =>
      have hpad := PN.out hpd
      rcases D.out hpd with hd | hd
    case' true =>
      have hq := PB.out hpd
      have q1 : (((pad n (a % 18 + 1)).length : Int) == a % 18 + 1) = true := beq_iff_eq.2 hq.1
      have q2 := hq.2.1
      have q3 := hq.2.2
      have q4 : (pad n (a % 18 + 1)).isEmpty = false := by
        cases h : pad n (a % 18 + 1) with
        | nil => have h1 := hq.1; rw [h] at h1; simp at h1; omega
        | cons c t => rfl
      have q5 : pad n (a % 18 + 1) ≠ [] := by intro h; rw [h] at q4; simp at q4
      have QL := Lib.hid (show (⟨(pad n (a % 18 + 1)).toArray⟩ : ByteArray).size ≤ maxLen from by rw [size_mk]; have := hq.1; unfold maxLen; omega)
      clear hq
  all_goals
    go_enter Try.func5, Try.ntmps5
    go_wp2_with (first
      | (go_at_call 20; refine (put_any _ _ (by first | exact N.out | exact I2.out)).mono ?_; rintro e w' ⟨rfl, hk⟩)
      | (go_at_call 16; refine (get_any _ _ (by first | exact S.out | exact PL.out)).mono ?_; rintro e w' ⟨rfl, hk⟩)
      | (go_at_call 14; refine (pad_any _ _ _ N.out).mono ?_; rintro e w1 ⟨rfl, k1⟩)
      | (go_at_call 18; refine (unpad_any _ _ QL.out).mono ?_; rintro e w' ⟨rfl, rfl⟩)
      | (go_at_call 13; refine (counted_any _).mono ?_; rintro e w' ⟨rfl, hk⟩))
  all_goals first
    | (go_ret; exact ⟨rfl, by repeat (first | assumption | exact Keeps.refl _ | refine Keeps.trans ?_ (by assumption))⟩)

end Go.Proofs.Ytlmlcmbmppblcaa
