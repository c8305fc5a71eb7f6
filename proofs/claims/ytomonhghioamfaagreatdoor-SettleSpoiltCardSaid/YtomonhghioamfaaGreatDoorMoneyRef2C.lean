
/- The contracts of the document's Pad, Unpad, Get (layer 1). -/
import Derived.Test.YtomonhghioamfaaGreatDoorMoneyRefC
import Derived.Test.YtomonhghioamfaaGreatDoorMoneyGetC
set_option linter.unusedVariables false
namespace Go.Proofs.YtomonhghioamfaaGreatDoor
open Go.ChangeShapes Go.WideShapes Go.ChangeAt Go.RowKit Mon

theorem dig_zero {c N : Nat} (h : N < 10 ^ c) : (⟨#[48]⟩ : ByteArray) ++ ⟨(dig c N).toArray⟩ = ⟨(dig (c + 1) N).toArray⟩ := by
  rw [dig_front, Nat.div_eq_of_lt h]; exact ByteArray.mk_append_mk [48] _

/-- For a measure. -/
def strSize : Value → Nat | .string b => b.size | _ => 0

set_option maxRecDepth 100000 in
set_option maxHeartbeats 800000 in
theorem rpad_any (n W : Int) (w : World) (hn : I64 n) :
    Calls Tryz.prog 20 #[.int .i64 n, .int .i64 W] w fun e w' => e = .returned (.string ⟨(pad n W).toArray⟩) ∧ Keeps w w' := by
  have no : (n < 0 ∨ W < 1 ∨ 18 < W ∨ W < (cnt n.toNat : Int)) → pad n W = [] := by
    intro h
    have : padB n W = false := by
      cases hb : padB n W
      · rfl
      · simp only [padB, Bool.and_eq_true, decide_eq_true_eq] at hb; omega
    simp [pad, this]
  have NO := Lib.hid no
  clear no
  by_cases h0 : n < 0
  · have H := Lib.hid (NO.out (Or.inl h0))
    clear hn
    go_enter Tryz.func20, Tryz.ntmps20
    go_wp2
    go_ret
    exact ⟨by rw [H.out]; rfl, Keeps.refl _⟩
  by_cases h1 : W < 1
  · have H := Lib.hid (NO.out (Or.inr (Or.inl h1)))
    clear hn
    go_enter Tryz.func20, Tryz.ntmps20
    go_wp2
    go_ret
    exact ⟨by rw [H.out]; rfl, Keeps.refl _⟩
  by_cases h2 : 18 < W
  · have H := Lib.hid (NO.out (Or.inr (Or.inr (Or.inl h2))))
    clear hn
    go_enter Tryz.func20, Tryz.ntmps20
    go_wp2
    go_ret
    exact ⟨by rw [H.out]; rfl, Keeps.refl _⟩
  obtain ⟨N, rfl⟩ := Int.eq_ofNat_of_zero_le (show 0 ≤ n by omega)
  obtain ⟨V, rfl⟩ := Int.eq_ofNat_of_zero_le (show 0 ≤ W by omega)
  have hN : N < topN := by unfold I64 top at hn; unfold topN; omega
  have hu : IntKind.u64.wrap (N : Int) = N := u64w (by omega) (by omega)
  have HN := Lib.hid hN
  have hl : (decN N).length = cnt N := decN_len N
  have hl2 : cnt N ≤ 20 := cnt_le20 hN
  have HL := Lib.hid hl
  have hlen : (decN N).length ≤ 20 := by omega
  clear hn hN
  by_cases h3 : V < (decN N).length
  · have H := Lib.hid (NO.out (Or.inr (Or.inr (Or.inr (by rw [Int.toNat_natCast, ← HL.out]; omega)))))
    clear hl
    go_enter Tryz.func20, Tryz.ntmps20
    go_wp2_with (go_at_call 51; refine (rdigits_any _ _ HN.out).mono ?_; rintro e w' ⟨rfl, hk⟩)
    go_ret
    exact ⟨by rw [H.out]; rfl, hk⟩
  · have H := Lib.hid (show pad N V = dig V N from by
      have : padB N V = true := by simp [padB]; omega
      rw [pad, if_pos this]; simp)
    have hcv : cnt N ≤ V := by omega
    clear hl
    go_enter Tryz.func20, Tryz.ntmps20
    go_wp2_with (go_at_call 51; refine (rdigits_any _ _ HN.out).mono ?_; rintro e w' ⟨rfl, hk⟩)
    go_loop [5] (fun s => ∃ c : Nat, cnt N ≤ c ∧ c ≤ V ∧ s = .string ⟨(dig c N).toArray⟩) (fun s => V - strSize s)
    case atStart => exact ⟨cnt N, Nat.le_refl _, hcv, rfl⟩
    case round =>
      obtain ⟨c, hc1, hc2, rfl⟩ := hrel
      have HD := Lib.hid (dig_length c N)
      have hlt : N < 10 ^ c := Nat.lt_of_lt_of_le (lt_cnt HN.out) (Nat.pow_le_pow_right (by omega) hc1)
      by_cases h4 : c < V
      · have hd1 : (dig c N).length < V := by rw [dig_length]; exact h4
        go_wp2
        go_round
        case rel => exact ⟨c + 1, by omega, by omega, vstr (dig_zero hlt)⟩
        case measure =>
          have e : ((⟨#[48]⟩ : ByteArray) ++ ⟨(dig c N).toArray⟩).size = c + 1 := by rw [dig_zero hlt, size_mk, dig_length]
          have e2 : (⟨(dig c N).toArray⟩ : ByteArray).size = c := by rw [size_mk, dig_length]
          simp only [strSize, e, e2]; omega
      · obtain rfl : c = V := by omega
        have hd1 : ¬ (dig c N).length < c := by rw [dig_length]; omega
        have HK := Lib.hid hk
        clear hk
        go_wp2
        go_ret
        exact ⟨ret_str (by rw [H.out]), HK.out⟩

theorem step_wrap {a x : Nat} (ha : a < 100000000000000000) (h1 : 48 ≤ x) (h2 : x ≤ 57) : wrap64 (wrap64 (wrap64 ((a : Int) * 10) + (x : Int)) - 48) = ((a * 10 + (x - 48) : Nat) : Int) := by
  have e1 : wrap64 ((a : Int) * 10) = (a : Int) * 10 := i64w (by unfold top; omega) (by unfold top; omega)
  have e2 : wrap64 ((a : Int) * 10 + x) = (a : Int) * 10 + x := i64w (by unfold top; omega) (by unfold top; omega)
  have e3 : wrap64 ((a : Int) * 10 + x - 48) = (a : Int) * 10 + x - 48 := i64w (by unfold top; omega) (by unfold top; omega)
  rw [e1, e2, e3]; omega

set_option maxRecDepth 100000 in
set_option maxHeartbeats 800000 in
theorem runpad_any (s : ByteArray) (w : World) (hs : s.size ≤ maxLen) :
    Calls Tryz.prog 62 #[.string s] w fun e w' => e = .returned (.tuple #[.int .i64 (unpadV s.data.toList), .bool (unpadB s.data.toList)]) ∧ w = w' := by
  unfold maxLen at hs
  go_enter Tryz.func62, Tryz.ntmps62
  go_wp2
  go_loop [4, 5] (fun n i => ∃ k : Nat, k ≤ s.size ∧ k ≤ 18 ∧ i = .int .i64 k ∧ n = .int .i64 (num (s.data.toList.take k) : Nat) ∧ (∀ c, c ∈ s.data.toList.take k → isDig c = true)) (fun _ i => s.size - (intOf i).toNat)
  case atStart => exact ⟨0, Nat.zero_le _, by omega, rfl, rfl, by simp⟩
  case round =>
    obtain ⟨k, hk, hk18, rfl, rfl, hall⟩ := hrel
    have hl : (s.data.toList.take k).length ≤ k := List.length_take_le _ _
    have hnum := num_lt _ hall
    have hb : num (s.data.toList.take k) < 1000000000000000000 := Nat.lt_of_lt_of_le hnum (Nat.le_trans (Nat.pow_le_pow_right (by omega) (by omega : _ ≤ 18)) (by decide))
    by_cases hlt : k < s.size
    · have hsn := Lib.hid (num_snoc (s.data.toList.take k) s[k])
      have hts := Lib.hid (take_snoc s k hlt)
      have HA := Lib.hid hall
      have hdg : isDig s[k] = (decide (48 ≤ (s[k].toNat : Int)) && decide ((s[k].toNat : Int) ≤ 57)) := by unfold isDig; rw [Bool.eq_iff_iff]; simp; omega
      have HD := Lib.hid hdg
      clear hall hnum hl hdg
      have bad : okNum s.data.toList 18 = false → unpadV s.data.toList = 0 ∧ unpadB s.data.toList = false := by
        intro h; exact ⟨by unfold unpadV unpadB; rw [h]; rfl, h⟩
      have BAD := Lib.hid bad
      clear bad
      rcases (show (s[k].toNat : Int) < 48 ∨ 57 < (s[k].toNat : Int) ∨ ((48 ≤ (s[k].toNat : Int) ∧ (s[k].toNat : Int) ≤ 57)) from by omega) with hc | hc | hc
      · have H := Lib.hid (BAD.out (not_okNum hlt (by rw [HD.out]; simp; omega)))
        go_wp2
        all_goals go_ret2
        all_goals exact ⟨ret_int_bool H.out.1.symm H.out.2.symm, rfl⟩
      · have H := Lib.hid (BAD.out (not_okNum hlt (by rw [HD.out]; simp; omega)))
        go_wp2
        all_goals go_ret2
        all_goals exact ⟨ret_int_bool H.out.1.symm H.out.2.symm, rfl⟩
      · obtain ⟨hc1, hc2⟩ := hc
        by_cases h17 : 17 < k
        · have H := Lib.hid (BAD.out (not_okNum_len (Or.inr (by rw [len_data]; omega))).1)
          go_wp2
          all_goals go_ret2
          all_goals exact ⟨ret_int_bool H.out.1.symm H.out.2.symm, rfl⟩
        · have hb17 := Lib.hid (show num (s.data.toList.take k) < 100000000000000000 from Nat.lt_of_lt_of_le (num_lt _ HA.out) (Nat.le_trans (Nat.pow_le_pow_right (by omega) (by have := List.length_take_le k s.data.toList; omega : _ ≤ 17)) (by decide)))
          go_wp2
          go_round
          case rel =>
            refine ⟨k + 1, by omega, by omega, by go_num, vint ?_, ?_⟩
            · rw [hts.out, hsn.out]; exact step_wrap hb17.out (by omega) (by omega)
            · rw [hts.out]
              intro c hc
              rcases List.mem_append.1 hc with h | h
              · exact HA.out c h
              · rw [List.mem_singleton.1 h, HD.out]; simp; omega
          case measure => simp [intOf]; omega
    · have e : s.data.toList.take k = s.data.toList := List.take_of_length_le (by rw [len_data]; omega)
      have E := Lib.hid e
      have HA := Lib.hid (show ∀ c, c ∈ s.data.toList → isDig c = true from by rw [← e]; exact hall)
      clear hall hnum hl e
      go_wp2
      go_ret2
      have ok : 1 ≤ s.size → unpadB s.data.toList = true ∧ unpadV s.data.toList = num s.data.toList := by
        intro h
        have := (okNum_full (l := s.data.toList) (most := 18) (by rw [len_data]; exact h) (by rw [len_data]; omega) HA.out).1
        exact ⟨this, by rw [unpadV, unpadB, this, if_pos rfl]⟩
      have no : s.size = 0 → unpadB s.data.toList = false ∧ unpadV s.data.toList = 0 ∧ s.data.toList = [] := by
        intro h
        have e : s.data.toList = [] := by rw [← List.length_eq_zero_iff, len_data]; exact h
        rw [e]; exact ⟨rfl, rfl, rfl⟩
      by_cases hz : s.size = 0
      · rw [E.out, (no hz).2.1, (no hz).1, (no hz).2.2]
        exact ⟨ret_int_bool rfl (by rw [hz]; rfl), rfl⟩
      · have := ok (by omega)
        rw [E.out, this.1, this.2]
        exact ⟨ret_int_bool rfl (by simp; omega), rfl⟩

/-- What the document's Get has told a text of digits by: too great a number is none. -/
theorem get_big {l : List UInt8} (h : (9223372036854775808 : Int) < (num (tailOf l) : Int)) : getB l = false ∧ getV l = 0 := by
  have hb : getB l = false := by
    have : inI64 (guess l) = false := by
      unfold inI64
      cases hc : neg1 l
      · rw [(tail_pos hc).2]; simp; unfold top; omega
      · rw [(tail_neg hc).2]; simp; unfold top; omega
    unfold getB; rw [this]; simp
  exact ⟨hb, by rw [getV, hb]; rfl⟩
theorem num_mono (a b : List UInt8) : num a ≤ num (a ++ b) := by
  suffices H : ∀ (b : List UInt8) (n m : Nat), n ≤ m → n ≤ b.foldl (fun n c => n * 10 + (c.toNat - 48)) m from by
    unfold num; rw [List.foldl_append]; exact H b _ _ (Nat.le_refl _)
  intro b
  induction b with
  | nil => intro n m h; exact h
  | cons c b ih => intro n m h; exact ih n _ (by show n ≤ m * 10 + (c.toNat - 48); omega)
theorem num_take (l : List UInt8) (k : Nat) : num (l.take k) ≤ num l := by
  have := num_mono (l.take k) (l.drop k)
  rwa [List.take_append_drop] at this

end Go.Proofs.YtomonhghioamfaaGreatDoor
