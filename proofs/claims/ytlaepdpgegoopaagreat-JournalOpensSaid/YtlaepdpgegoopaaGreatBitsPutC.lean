
/- The contracts of bits.Put, Get, sevens. -/
import Derived.Test.YtlaepdpgegoopaaGreatBitsMath
set_option linter.unusedVariables false
namespace Go.Proofs.YtlaepdpgegoopaaGreat
open Go.ChangeShapes Go.WideShapes Go.ChangeAt Go.RowKit Bit

theorem info_u8 : (Tryz.prog.info? 5).map (fun i => (i.zero, i.size, i.bytes)) = some (some (.int .u8 0), 1, 1) := by kernel_rfl

theorem put_no {n : Nat} {S : Int} (h : S < 1 ∨ 8 < S) : putL n S = [] := by unfold putL; rw [if_neg (by omega)]
theorem put_be {n k : Nat} (h1 : 1 ≤ k) (h8 : k ≤ 8) : putL n k = be k n := by unfold putL; rw [if_pos (by omega)]; simp

theorem bv_b8 (n : Nat) : bv (b8 n) = Value.int .u8 ((n : Int) % 256) := by rw [bv, b8_toNat]; rfl

set_option maxRecDepth 100000 in
set_option maxHeartbeats 400000 in
theorem put_any (N : Nat) (S : Int) (w : World) (hN : N < topN) :
    Calls Tryz.prog 68 #[.int .u64 N, .int .i64 S] w fun e w' => e = .returned (.string ⟨(putL N S).toArray⟩) ∧ Keeps w w' := by
  have HN := Lib.hid hN
  clear hN
  rcases (show S < 1 ∨ 8 < S ∨ (1 ≤ S ∧ S ≤ 8) from by omega) with h | h | h
  · have H := Lib.hid (put_no (n := N) (Or.inl h))
    go_enter Tryz.func68, Tryz.ntmps68
    go_wp2
    go_ret
    exact ⟨by rw [H.out]; rfl, Keeps.refl _⟩
  · have H := Lib.hid (put_no (n := N) (Or.inr h))
    go_enter Tryz.func68, Tryz.ntmps68
    go_wp2
    go_ret
    exact ⟨by rw [H.out]; rfl, Keeps.refl _⟩
  obtain ⟨h1, h8⟩ := h
  obtain ⟨W, rfl⟩ := Int.eq_ofNat_of_zero_le (show 0 ≤ S by omega)
  have H := Lib.hid (put_be (n := N) (k := W) (by omega) (by omega))
  obtain ⟨i0, hi, hz0, hz1, hz2⟩ := info_parts info_u8
  go_enter Tryz.func68, Tryz.ntmps68
  go_wp2_with (at_make; refine wpList_make_full _ rfl (.tmp 13) (.tmp 13) 51 rfl w.heap.size 5 i0 (.int .u8 0) 1 Tryz.underlying51 hi hz0 hz1 .i64 .i64 _ _ W rfl rfl rfl rfl (by rw [hz2]; omega) (by unfold maxLen; omega) (Nat.le_refl _) ?_; intro w1 hown hgrow)
  have hnx : Below w.heap.size w w1 := (Below.refl _ _).grown hgrow (Nat.le_refl _) (by intro k h; cases h)
  have hown0 : w1.ownsRow w.heap.size 5 1 (.slice (some ⟨w.heap.size, 0, none⟩) W W) W (List.replicate W (Value.int .u8 0) ++ (be 0 N).map bv) := by
    have e : (madeCells (Value.int .u8 0).cells (W * 1)).toList = List.replicate W (Value.int .u8 0) ++ (be 0 N).map bv := by
      rw [Nat.mul_one, show (Value.int .u8 0).cells = #[Value.int .u8 0] from rfl, toList_madeCells_one]; simp [be]
    rw [← e]; exact hown
  clear hown hgrow
  go_loopw [0, 16] (fun n i wr => ∃ k M : Nat, k ≤ W ∧ i = .int .i64 k ∧ n = .int .u64 M ∧ M = N / 256 ^ k ∧ Below w.heap.size w wr ∧
      wr.ownsRow w.heap.size 5 1 (.slice (some ⟨w.heap.size, 0, none⟩) W W) W (List.replicate (W - k) (Value.int .u8 0) ++ (be k N).map bv))
    (fun _ i _ => W - (intOf i).toNat)
  case atStart => exact ⟨0, N, Nat.zero_le _, rfl, rfl, by simp, hnx, hown0⟩
  case round =>
    obtain ⟨k, M, hk, rfl, rfl, hM, hb, ho⟩ := hrel
    clear hown0 hnx
    have HM := Lib.hid hM
    clear hM
    by_cases hlt : k < W
    · have hc : wr.cell? ⟨w.heap.size, W - 1 - k, none⟩ = some (.int .u8 0) := by
        rw [ho.cellAt _ (by omega), show W - k = (W - 1 - k) + 1 from by omega]
        exact fill_at _ _ _
      have hf := ho.frozenAt (W - 1 - k)
      have hi0 : 0 ≤ (W : Int) - 1 - k := by omega
      have hi1 : ((W : Int) - 1 - k).toNat = W - 1 - k := by omega
      have HO := Lib.hid ho
      have HB := Lib.hid hb
      clear ho hb
      go_wp2
      go_roundw
      case rel =>
        have hm : M < topN := by rw [HM.out]; exact Nat.lt_of_le_of_lt (Nat.div_le_self _ _) HN.out
        have s := (HO.out.stored (W - 1 - k) (Value.int .u8 ((M : Int) % 256))).1
        refine ⟨k + 1, M / 256, by omega, by go_num, vint (by omega), ?_, HB.out.setCell (Nat.le_refl _) _, ?_⟩
        · rw [HM.out, Nat.pow_succ, Nat.div_div_eq_div_mul]
        · rw [show W - k = (W - 1 - k) + 1 from by omega, fill_step] at s
          rw [be_front, List.map_cons, show W - (k + 1) = W - 1 - k from by omega, ← HM.out, bv_b8]
          exact s
      case measure => simp [intOf]; omega
    · obtain rfl : k = W := by omega
      have hcv := loaded_string wr 51 5 Tryz.underlying51 Tryz.underlying5 w.heap.size k k (be k N) (be_length _ _) (fun i hi => by
        rw [ho.cellAt i (by omega), Nat.sub_self]; rfl) 9 Tryz.underlying9
      have HB := Lib.hid hb
      clear ho hb
      go_wp2
      go_ret
      exact ⟨ret_str (by rw [H.out]), HB.out⟩

theorem byte_or (n c : Nat) (h : n * 256 < topN) (hc : c < 256) : bits .or .u64 (IntKind.u64.wrap ((n : Int) * 256)) (IntKind.u64.wrap (c : Int)) = ((n * 256 + c : Nat) : Int) := by
  have ht : topN = 18446744073709551616 := rfl
  rw [u64w (by omega) (by omega), u64w (n := (c : Int)) (by omega) (by omega)]
  rw [u64_or _ _ (by omega) (by omega) (by omega) (by omega), Int.toNat_natCast, show ((n : Int) * 256).toNat = n * 256 from by omega, nat_join 8 _ _ (by omega) (by omega)]

theorem take_snoc (s : ByteArray) (k : Nat) (h : k < s.size) : s.data.toList.take (k + 1) = s.data.toList.take k ++ [s[k]] := by
  rw [List.take_succ_eq_append_getElem (by simpa using h)]; rfl

set_option maxRecDepth 100000 in
set_option maxHeartbeats 400000 in
theorem get_any (s : ByteArray) (w : World) (hs : s.size ≤ maxLen) :
    Calls Tryz.prog 107 #[.string s] w fun e w' => e = .returned (.int .u64 (getN s.data.toList)) ∧ w = w' := by
  unfold maxLen at hs
  go_enter Tryz.func107, Tryz.ntmps107
  go_wp2
  all_goals
    go_loop [3, 8] (fun n i => ∃ k : Nat, k ≤ s.size ∧ k ≤ 8 ∧ i = .int .i64 k ∧ n = .int .u64 (beN (s.data.toList.take k) : Nat)) (fun _ i => s.size - (intOf i).toNat)
    case atStart => exact ⟨0, Nat.zero_le _, Nat.zero_le _, rfl, rfl⟩
    case round =>
      obtain ⟨k, hk, hk8, rfl, rfl⟩ := hrel
      by_cases hlt : k < s.size ∧ k < 8
      · obtain ⟨hl1, hl2⟩ := hlt
        have hsn := Lib.hid (beN_snoc (s.data.toList.take k) s[k])
        have hts := Lib.hid (take_snoc s k hl1)
        have HS := Lib.hid (beN_take_small s.data.toList hl2)
        go_wp2
        go_round
        case rel =>
          refine ⟨k + 1, by omega, by omega, by go_num, vint ?_⟩
          rw [hts.out, hsn.out]
          exact byte_or _ _ HS.out (u8_lt _)
        case measure => simp [intOf]; omega
      · first | have hge : s.size ≤ k := by omega | have hge : 8 ≤ k := by omega
        have e : s.data.toList.take k = s.data.toList.take 8 := by
          by_cases h : k = 8
          · rw [h]
          · rw [List.take_of_length_le (by rw [len_data]; omega), List.take_of_length_le (by rw [len_data]; omega)]
        have E := Lib.hid e
        clear e hlt
        go_wp2
        go_ret
        exact ⟨ret_int (by rw [E.out]; rfl), rfl⟩

end Go.Proofs.YtlaepdpgegoopaaGreat
