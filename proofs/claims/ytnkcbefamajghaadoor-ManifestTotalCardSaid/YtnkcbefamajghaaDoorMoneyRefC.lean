
/- The contracts of the document's digits, Put, Get, Pad, Unpad (layer 1). -/
import Derived.Test.YtnkcbefamajghaaDoorMoneyMath
set_option linter.unusedVariables false
namespace Go.Proofs.YtnkcbefamajghaaDoor
open Go.ChangeShapes Go.WideShapes Go.ChangeAt Go.RowKit Mon

theorem dig_front1 (k N : Nat) : (⟨#[dg (N / 10 ^ k)]⟩ : ByteArray) ++ ⟨(dig k N).toArray⟩ = ⟨(dig (k + 1) N).toArray⟩ := by
  rw [dig_front]; exact ByteArray.mk_append_mk [_] _

/-- For a measure: is nothing there yet? -/
def emp : Value → Nat | .string b => if b.size = 0 then 1 else 0 | _ => 0

set_option maxRecDepth 100000 in
set_option maxHeartbeats 800000 in
theorem rdigits_any (N : Nat) (w : World) (hN : N < topN) :
    Calls Tryd.prog 69 #[.int .u64 N] w fun e w' => e = .returned (.string ⟨(decN N).toArray⟩) ∧ Keeps w w' := by
  have HN := Lib.hid hN
  clear hN
  go_enter Tryd.func69, Tryd.ntmps69
  go_wp2
  go_loopw [0, 3] (fun n s wr => ∃ k M : Nat, n = .int .u64 M ∧ s = .string ⟨(dig k N).toArray⟩ ∧ M = N / 10 ^ k ∧ k ≤ 20 ∧ (k ≤ 1 ∨ 10 ^ (k - 1) ≤ N) ∧ Below w.heap.size w wr)
    (fun n s _ => (intOf n).toNat + emp s)
  case atStart => exact ⟨0, N, rfl, rfl, by simp, by omega, by omega, Below.refl _ _⟩
  case round =>
    obtain ⟨k, M, rfl, rfl, hM, hk, hlow, hb⟩ := hrel
    have hm : M < topN := by rw [hM]; exact Nat.lt_of_le_of_lt (Nat.div_le_self _ _) HN.out
    by_cases h1 : 0 < M
    · have hl := dig_length k N
      have hpow : 10 ^ k ≤ N := by
        rcases Nat.lt_or_ge N (10 ^ k) with h | h
        · rw [Nat.div_eq_of_lt h] at hM; omega
        · exact h
      have HK := Lib.hid (show k + 1 ≤ 20 from pow_lt_of (Nat.lt_of_le_of_lt hpow (Nat.lt_trans HN.out topN_lt)))
      have HW := Lib.hid (show k + 1 ≤ 1 ∨ 10 ^ (k + 1 - 1) ≤ N from Or.inr hpow)
      have HM := Lib.hid hM
      have HL := Lib.hid hl
      have hlen : (dig k N).length ≤ 20 := by omega
      have HB := Lib.hid hb
      clear hM hl hb hpow hlow
      have hcv := byte_string (P := Tryd.prog) wr 53 5 Tryd.underlying53 Tryd.underlying5 _ _ (byte_digit M) 9 Tryd.underlying9
      go_wp2
      go_roundw
      case rel =>
        have e : IntKind.u64.wrap ((M : Int) / 10) = ((M / 10 : Nat) : Int) := by rw [u64w (by omega) (by omega)]; omega
        refine ⟨k + 1, M / 10, vint e, vstr ?_, ?_, ?_, ?_, HB.out.alloc HB.out.size _⟩
        · rw [← dig_front1, HM.out]
        · rw [HM.out, Nat.pow_succ, Nat.div_div_eq_div_mul]
        · exact HK.out
        · exact HW.out
      case measure => 
        have e : IntKind.u64.wrap ((M : Int) / 10) = ((M / 10 : Nat) : Int) := by rw [u64w (by omega) (by omega)]; omega
        have hs : ((⟨#[dg M]⟩ : ByteArray) ++ ⟨(dig k N).toArray⟩).size ≠ 0 := by
          rw [HM.out, dig_front1, size_mk, dig_length]; omega
        simp only [intOf, e, emp, if_neg hs]
        omega
    · obtain rfl : M = 0 := by omega
      rcases Nat.eq_zero_or_pos k with hk0 | hk0
      · subst hk0
        have hd : dig 0 N = [] := rfl
        have HK := Lib.hid (show 0 + 1 ≤ 20 from by omega)
        have HW := Lib.hid (show 0 + 1 ≤ 1 ∨ 10 ^ (0 + 1 - 1) ≤ N from Or.inl (by omega))
        have HM := Lib.hid hM
        have HB := Lib.hid hb
        clear hM hb hlow
        have hcv := byte_string (P := Tryd.prog) wr 53 5 Tryd.underlying53 Tryd.underlying5 48 48 rfl 9 Tryd.underlying9
        have hN0 : N = 0 := by have := HM.out; simpa using this.symm
        go_wp2
        go_roundw
        case rel =>
          refine ⟨1, 0, rfl, vstr ?_, ?_, HK.out, HW.out, HB.out.alloc HB.out.size _⟩
          · subst hN0; rfl
          · subst hN0; rfl
        case measure =>
          subst hN0; decide
      · have hlt : N < 10 ^ k := by
          rcases Nat.lt_or_ge N (10 ^ k) with h | h
          · exact h
          · have := Nat.div_pos h (Nat.pow_pos (by omega : 0 < 10)); omega
        have hc : cnt N = k := cnt_is HN.out (by omega) hlt (by rcases hlow with h | h; exact Or.inl (by omega); exact Or.inr h)
        have HC := Lib.hid hc
        obtain ⟨c, t, hd, _⟩ : ∃ c t, dig k N = c :: t ∧ True := by
          have hl := dig_length k N
          cases hd : dig k N with
          | nil => rw [hd] at hl; simp at hl; omega
          | cons c t => exact ⟨c, t, rfl, trivial⟩
        have hne : (dig k N).isEmpty = false := by rw [hd]; rfl
        have hne2 : dig k N ≠ [] := by rw [hd]; simp
        have HB := Lib.hid hb
        clear hM hb hlow hc hd
        go_wp2
        go_ret
        exact ⟨ret_str (by rw [decN, HC.out]), HB.out⟩

set_option maxRecDepth 100000 in
set_option maxHeartbeats 800000 in
theorem moRput_any (n : Int) (w : World) (hn : I64 n) :
    Calls Tryd.prog 46 #[.int .i64 n] w fun e w' => e = .returned (.string ⟨(put n).toArray⟩) ∧ Keeps w w' := by
  by_cases h0 : 0 ≤ n
  · obtain ⟨N, rfl⟩ := Int.eq_ofNat_of_zero_le h0
    have hN : N < topN := by unfold I64 top at hn; unfold topN; omega
    have hu : IntKind.u64.wrap (N : Int) = N := u64w (by omega) (by omega)
    have HP := Lib.hid (show put (N : Int) = decN N from by unfold put; rw [if_pos h0, Int.toNat_natCast])
    have HN := Lib.hid hN
    clear hn hN h0
    go_enter Tryd.func46, Tryd.ntmps46
    go_wp2_with (go_at_call 69; refine (rdigits_any _ _ HN.out).mono ?_; rintro e w' ⟨rfl, hk⟩)
    go_ret
    exact ⟨ret_str (by rw [HP.out]), hk⟩
  · have hN : n.natAbs < topN := by unfold I64 top at hn; unfold topN; omega
    have h1 : wrap64 (n + 1) = n + 1 := i64w (by unfold I64 at hn; omega) (by unfold I64 top at *; omega)
    have h2 : wrap64 (-(n + 1)) = -(n + 1) := i64w (by unfold I64 top at *; omega) (by unfold I64 top at *; omega)
    have h3 : IntKind.u64.wrap (-(n + 1)) = -(n + 1) := u64w (by omega) (by unfold I64 top at *; unfold topN; omega)
    have h4 : IntKind.u64.wrap (-(n + 1) + 1) = (n.natAbs : Int) := by rw [u64w (by omega) (by unfold I64 top at *; unfold topN; omega)]; omega
    have HP := Lib.hid (show put n = 45 :: decN n.natAbs from by unfold put; rw [if_neg h0])
    have HN := Lib.hid hN
    have hlen : (decN n.natAbs).length ≤ 20 := by rw [decN_len]; exact cnt_le20 hN
    clear hn hN
    go_enter Tryd.func46, Tryd.ntmps46
    go_wp2_with (go_at_call 69; refine (rdigits_any _ _ HN.out).mono ?_; rintro e w' ⟨rfl, hk⟩)
    go_ret
    exact ⟨ret_str ((ByteArray.mk_append_mk [45] _).trans (by rw [HP.out]; rfl)), hk⟩
end Go.Proofs.YtnkcbefamajghaaDoor
