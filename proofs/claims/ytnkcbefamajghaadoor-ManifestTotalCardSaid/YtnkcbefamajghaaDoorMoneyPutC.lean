
/- The contracts of money.count, digits, value. The contract of money.digits. The contracts of money.Put, Pad. -/
import Derived.Test.YtnkcbefamajghaaDoorMoneyMath
set_option linter.unusedVariables false
namespace Go.Proofs.YtnkcbefamajghaaDoor
open Go.ChangeShapes Go.WideShapes Go.ChangeAt Go.RowKit Mon

set_option maxHeartbeats 400000 in
theorem moCount_any (N : Nat) (w : World) (hN : N < topN) :
    Calls Tryd.prog 65 #[.int .u64 N] w fun e w' => e = .returned (.int .i64 (cnt N)) ∧ w = w' := by
  have HN := Lib.hid hN
  clear hN
  go_enter Tryd.func65, Tryd.ntmps65
  go_wp2
  go_loop [0, 3] (fun n m => ∃ k M : Nat, n = .int .u64 M ∧ m = .int .i64 k ∧ M < topN ∧ k + cnt M = cnt N + 1) (fun n _ => (intOf n).toNat)
  case atStart => exact ⟨1, N, rfl, rfl, HN.out, by omega⟩
  case round =>
    obtain ⟨k, M, rfl, rfl, hM, hk⟩ := hrel
    have h20 : cnt N ≤ 20 := cnt_le20 HN.out
    have hp := cnt_pos M
    by_cases h : M < 10
    · have hs := cnt_small h
      have hkk : k = cnt N := by omega
      have HK := Lib.hid hkk
      clear hs hk hkk
      go_wp2
      go_ret
      exact ⟨ret_int (by rw [HK.out]), rfl⟩
    · have hs := Lib.hid (cnt_step hM (by omega))
      have hk' := Lib.hid hk
      have hm := Lib.hid hM
      have hkb : k ≤ 20 := by omega
      clear hk hM
      go_wp2
      go_round
      case rel =>
        have e : IntKind.u64.wrap ((M : Int) / 10) = ((M / 10 : Nat) : Int) := by rw [u64w (by omega) (by have := hm.out; omega)]; omega
        exact ⟨k + 1, M / 10, vint e, by go_num, by have := hm.out; omega, by have := hs.out; have := hk'.out; omega⟩
      case measure =>
        have e : IntKind.u64.wrap ((M : Int) / 10) = ((M / 10 : Nat) : Int) := by rw [u64w (by omega) (by have := hm.out; omega)]; omega
        simp [intOf, e]; omega

set_option maxHeartbeats 400000 in
theorem value_any (s : ByteArray) (most : Nat) (w : World) (hs : s.size ≤ maxLen) (hm : most ≤ 19) :
    Calls Tryd.prog 97 #[.string s, .int .i64 most] w fun e w' =>
      e = .returned (.tuple #[.int .u64 (valR s.data.toList most), .bool (okNum s.data.toList most)]) ∧ w = w' := by
  unfold maxLen at hs
  by_cases h0 : 1 ≤ s.size
  case neg =>
    have H := Lib.hid (not_okNum_len (l := s.data.toList) (most := most) (Or.inl (by rw [len_data]; exact h0)))
    go_enter Tryd.func97, Tryd.ntmps97
    go_wp2
    all_goals go_ret2
    all_goals exact ⟨ret_int_bool (by rw [H.out.2]; rfl) H.out.1.symm, rfl⟩
  case pos =>
    by_cases h1 : most < s.size
    · have H := Lib.hid (not_okNum_len (l := s.data.toList) (most := most) (Or.inr (by rw [len_data]; exact h1)))
      go_enter Tryd.func97, Tryd.ntmps97
      go_wp2
      all_goals go_ret2
      all_goals exact ⟨ret_int_bool (by rw [H.out.2]; rfl) H.out.1.symm, rfl⟩
    · go_enter Tryd.func97, Tryd.ntmps97
      go_wp2
      go_loop [4, 18] (fun n i => ∃ k : Nat, k ≤ s.size ∧ i = .int .i64 k ∧ n = .int .u64 (num (s.data.toList.take k) : Nat) ∧ (∀ c, c ∈ s.data.toList.take k → isDig c = true)) (fun _ i => s.size - (intOf i).toNat)
      case atStart => exact ⟨0, Nat.zero_le _, rfl, rfl, by simp⟩
      case round =>
        obtain ⟨k, hk, rfl, rfl, hall⟩ := hrel
        have hl : (s.data.toList.take k).length ≤ k := List.length_take_le _ _
        have hnum := num_lt _ hall
        have hpow : num (s.data.toList.take k) < 10 ^ 18 ∨ k = s.size := by
          by_cases e : k = s.size
          · exact Or.inr e
          · exact Or.inl (Nat.lt_of_lt_of_le hnum (Nat.pow_le_pow_right (by omega) (by omega)))
        by_cases hlt : k < s.size
        · have hb : num (s.data.toList.take k) < 1000000000000000000 := by
            rcases hpow with h | h
            · simpa using h
            · omega
          have hsn := Lib.hid (num_snoc (s.data.toList.take k) s[k])
          have hts := Lib.hid (take_snoc s k hlt)
          have HA := Lib.hid hall
          have hdg : isDig s[k] = (decide (48 ≤ (s[k].toNat : Int)) && decide ((s[k].toNat : Int) ≤ 57)) := by unfold isDig; rw [Bool.eq_iff_iff]; simp; omega
          have HD := Lib.hid hdg
          clear hall hnum hpow hl hdg
          rcases (show (s[k].toNat : Int) < 48 ∨ 57 < (s[k].toNat : Int) ∨ (48 ≤ (s[k].toNat : Int) ∧ (s[k].toNat : Int) ≤ 57) from by omega) with hc | hc | hc
          · have hno := not_okNum (most := most) hlt (by rw [HD.out]; simp; omega)
            have hv : valR s.data.toList most = 0 := by simp [valR, hno]
            have H := Lib.hid (And.intro hno hv)
            clear hno hv
            go_wp2
            all_goals go_ret2
            all_goals exact ⟨ret_int_bool (by rw [H.out.2]; rfl) H.out.1.symm, rfl⟩
          · have hno := not_okNum (most := most) hlt (by rw [HD.out]; simp; omega)
            have hv : valR s.data.toList most = 0 := by simp [valR, hno]
            have H := Lib.hid (And.intro hno hv)
            clear hno hv
            go_wp2
            all_goals go_ret2
            all_goals exact ⟨ret_int_bool (by rw [H.out.2]; rfl) H.out.1.symm, rfl⟩
          · obtain ⟨hc1, hc2⟩ := hc
            go_wp2
            go_round
            case rel =>
              refine ⟨k + 1, by omega, by go_num, vint ?_, ?_⟩
              · rw [hts.out, hsn.out]; omega
              · rw [hts.out]
                intro c hc
                rcases List.mem_append.1 hc with h | h
                · exact HA.out c h
                · rw [List.mem_singleton.1 h, HD.out]; simp; omega
            case measure => simp [intOf]; omega
        · have e : s.data.toList.take k = s.data.toList := List.take_of_length_le (by rw [len_data]; omega)
          have H := Lib.hid (okNum_full (l := s.data.toList) (most := most) (by rw [len_data]; omega) (by rw [len_data]; omega) (by rw [← e]; exact hall))
          have E := Lib.hid e
          clear hall hnum hpow hl e
          go_wp2
          go_ret2
          exact ⟨ret_int_bool (by rw [H.out.2, E.out]) H.out.1.symm, rfl⟩
end Go.Proofs.YtnkcbefamajghaaDoor
namespace Go.Proofs.YtnkcbefamajghaaDoor
open Go.ChangeShapes Go.WideShapes Go.ChangeAt Go.RowKit Mon

theorem moInfo_u8 : (Tryd.prog.info? 5).map (fun i => (i.zero, i.size, i.bytes)) = some (some (.int .u8 0), 1, 1) := by kernel_rfl

set_option maxHeartbeats 400000 in
theorem digits_any (N W : Nat) (w : World) (hN : N < topN) (hW : W ≤ 100) :
    Calls Tryd.prog 64 #[.int .u64 N, .int .i64 W] w fun e w' => e = .returned (.string ⟨(dig W N).toArray⟩) ∧ Keeps w w' := by
  obtain ⟨i0, hi, hz0, hz1, hz2⟩ := info_parts moInfo_u8
  go_enter Tryd.func64, Tryd.ntmps64
  go_wp2_with (at_make; refine wpList_make_full _ rfl (.tmp 7) (.tmp 7) 53 rfl w.heap.size 5 i0 (.int .u8 0) 1 Tryd.underlying53 hi hz0 hz1 .i64 .i64 _ _ W rfl rfl rfl rfl (by rw [hz2]; omega) (by unfold maxLen; omega) (Nat.le_refl _) ?_; intro w1 hown hgrow)
  have hnx : Below w.heap.size w w1 := (Below.refl _ _).grown hgrow (Nat.le_refl _) (by intro k h; cases h)
  have hown0 : w1.ownsRow w.heap.size 5 1 (.slice (some ⟨w.heap.size, 0, none⟩) W W) W (List.replicate W (Value.int .u8 0) ++ (dig 0 N).map bv) := by
    have e : (madeCells (Value.int .u8 0).cells (W * 1)).toList = List.replicate W (Value.int .u8 0) ++ (dig 0 N).map bv := by
      rw [Nat.mul_one, show (Value.int .u8 0).cells = #[Value.int .u8 0] from rfl, toList_madeCells_one]; simp [dig]
    rw [← e]; exact hown
  have HN := Lib.hid hN
  clear hown hgrow hN
  go_loopw [0, 10] (fun n i wr => ∃ k M : Nat, k ≤ W ∧ i = .int .i64 k ∧ n = .int .u64 M ∧ M = N / 10 ^ k ∧ Below w.heap.size w wr ∧
      wr.ownsRow w.heap.size 5 1 (.slice (some ⟨w.heap.size, 0, none⟩) W W) W (List.replicate (W - k) (Value.int .u8 0) ++ (dig k N).map bv))
    (fun _ i _ => W - (intOf i).toNat)
  case atStart => exact ⟨0, N, Nat.zero_le _, rfl, rfl, by simp, hnx, hown0⟩
  case round =>
    obtain ⟨k, M, hk, rfl, rfl, hM, hb, ho⟩ := hrel
    clear hown0 hnx
    have HM := Lib.hid hM
    clear hM
    by_cases hlt : k < W
    · have hc : wr.cell? ⟨w.heap.size, W - 1 - k, none⟩ = some (.int .u8 0) := by
        rw [ho.cellAt _ (by omega), show W - k = (W - 1 - k) + 1 from by omega]
        exact fill_at _ _ _
      have hf := ho.frozenAt (W - 1 - k)
      have hi0 : 0 ≤ (W : Int) - 1 - k := by omega
      have hi1 : ((W : Int) - 1 - k).toNat = W - 1 - k := by omega
      have HO := Lib.hid ho
      have HB := Lib.hid hb
      clear ho hb
      go_wp2
      go_outline
      go_roundw
      case rel =>
        have hm : M < topN := by rw [HM.out]; exact Nat.lt_of_le_of_lt (Nat.div_le_self _ _) HN.out
        have e : IntKind.u64.wrap ((M : Int) / 10) = ((M / 10 : Nat) : Int) := by rw [u64w (by omega) (by omega)]; omega
        have s := (HO.out.stored (W - 1 - k) (Value.int .u8 (48 + (M : Int) % 10))).1
        refine ⟨k + 1, M / 10, by omega, by go_num, vint e, ?_, HB.out.setCell (Nat.le_refl _) _, ?_⟩
        · rw [HM.out, Nat.pow_succ, Nat.div_div_eq_div_mul]
        · rw [show W - k = (W - 1 - k) + 1 from by omega, fill_step] at s
          rw [dig_front, List.map_cons, show W - (k + 1) = W - 1 - k from by omega, ← HM.out, bv, ← byte_digit]
          exact s
      case measure => simp [intOf]; omega
    · obtain rfl : k = W := by omega
      have hcv := loaded_string wr 53 5 Tryd.underlying53 Tryd.underlying5 w.heap.size k k (dig k N) (dig_length _ _) (fun i hi => by
        rw [ho.cellAt i (by omega), Nat.sub_self]; rfl) 9 Tryd.underlying9
      have HB := Lib.hid hb
      clear ho hb
      go_wp2
      go_ret
      exact ⟨rfl, HB.out⟩
end Go.Proofs.YtnkcbefamajghaaDoor
namespace Go.Proofs.YtnkcbefamajghaaDoor
open Go.ChangeShapes Go.WideShapes Go.ChangeAt Go.RowKit Mon

set_option maxHeartbeats 400000 in
theorem moPut_any (n : Int) (w : World) (hn : I64 n) :
    Calls Tryd.prog 44 #[.int .i64 n] w fun e w' => e = .returned (.string ⟨(put n).toArray⟩) ∧ Keeps w w' := by
  by_cases h0 : 0 ≤ n
  · obtain ⟨N, rfl⟩ := Int.eq_ofNat_of_zero_le h0
    have hN : N < topN := by unfold I64 top at hn; unfold topN; omega
    have hu : IntKind.u64.wrap (N : Int) = N := u64w (by omega) (by omega)
    have HP := Lib.hid (show put (N : Int) = decN N from by unfold put; rw [if_pos h0, Int.toNat_natCast])
    have HN := Lib.hid hN
    have hc : cnt N ≤ 20 := cnt_le20 hN
    clear hn hN h0
    go_enter Tryd.func44, Tryd.ntmps44
    go_wp2_with (first | (go_at_call 65; refine (moCount_any _ _ HN.out).mono ?_; rintro e w' ⟨rfl, rfl⟩) | (go_at_call 64; refine (digits_any _ _ _ HN.out (by omega)).mono ?_; rintro e w' ⟨rfl, hk⟩))
    go_ret
    exact ⟨ret_str (by rw [HP.out, decN]), hk⟩
  · have hN : n.natAbs < topN := by unfold I64 top at hn; unfold topN; omega
    have hu : IntKind.u64.wrap n = n + topN := by rw [u64w_mod]; unfold I64 top at hn; unfold topN; omega
    have hu2 : IntKind.u64.wrap (-(n + topN)) = (n.natAbs : Int) := by rw [u64w_mod]; unfold I64 top at hn; unfold topN; omega
    have HP := Lib.hid (show put n = 45 :: decN n.natAbs from by unfold put; rw [if_neg h0])
    have HN := Lib.hid hN
    have hc : cnt n.natAbs ≤ 20 := cnt_le20 hN
    have hlen : (dig (cnt n.natAbs) n.natAbs).length ≤ 20 := by rw [dig_length]; exact hc
    clear hn hN
    go_enter Tryd.func44, Tryd.ntmps44
    go_wp2_with (first | (go_at_call 65; refine (moCount_any _ _ HN.out).mono ?_; rintro e w' ⟨rfl, rfl⟩) | (go_at_call 64; refine (digits_any _ _ _ HN.out (by omega)).mono ?_; rintro e w' ⟨rfl, hk⟩))
    go_ret
    exact ⟨ret_str ((ByteArray.mk_append_mk [45] _).trans (by rw [HP.out, decN]; rfl)), hk⟩

end Go.Proofs.YtnkcbefamajghaaDoor
