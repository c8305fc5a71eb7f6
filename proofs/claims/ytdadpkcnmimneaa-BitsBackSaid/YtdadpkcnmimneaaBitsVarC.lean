/- The contracts of bits.Var, Sign, Back, Text. -/
import Derived.Test.YtdadpkcnmimneaaBitsPutC
set_option linter.unusedVariables false
namespace Go.Proofs.Ytdadpkcnmimneaa
open Go.ChangeShapes Go.WideShapes Go.ChangeAt Go.RowKit Bit

theorem bv_hi (n : Nat) : bv (hi n) = Value.int .u8 ((n : Int) % 128 + 128) := by rw [bv, hi_toNat]; rfl
theorem or128 (n : Nat) : bits .or .u8 ((n : Int) % 256) 128 = (n : Int) % 128 + 128 := by
  rw [u8_or _ _ (by omega) (by omega) (by omega) (by omega), show ((n : Int) % 256).toNat = n % 256 from by omega, show (128 : Int).toNat = 128 from rfl, Nat.or_comm]
  have e : (128 : Nat) ||| n % 256 = 128 + n % 128 := by
    have h2 : n % 128 = n % 256 % 128 := by omega
    rw [h2]
    exact (by decide +kernel : ∀ m : Fin 256, 128 ||| m.val = 128 + m.val % 128) ⟨n % 256, Nat.mod_lt _ (by decide)⟩
  rw [e]; omega

set_option maxHeartbeats 400000 in
theorem var_any (N : Nat) (w : World) (hN : N < topN) :
    Calls Try.prog 10 #[.int .u64 N] w fun e w' => e = .returned (.string ⟨(sev N).toArray⟩) ∧ Keeps w w' := by
  obtain ⟨L, hL⟩ : ∃ L, (sev N).length = L + 1 := ⟨(sev N).length - 1, by have := sev_pos N; omega⟩
  have h10 := sev_le hN
  have hL9 : L ≤ 9 := by omega
  have HL := Lib.hid hL
  have HN := Lib.hid hN
  have HV := Lib.hid (sev_last hN hL)
  have hl1 : ((sev N).length : Int) - 1 = L := by omega
  have hl2 : wrap64 (((sev N).length : Int) - 1) = L := by rw [i64w (by unfold top; omega) (by unfold top; omega)]; omega
  clear hL hN h10
  obtain ⟨i0, hi, hz0, hz1, hz2⟩ := info_parts info_u8
  go_enter Try.func10, Try.ntmps10
  go_wp2_with (first | (go_at_call 26; refine (sevens_any _ _ HN.out).mono ?_; rintro e w' ⟨rfl, rfl⟩) | (at_make; refine wpList_make_full _ rfl (.tmp 10) (.tmp 10) 39 rfl w.heap.size 5 i0 (.int .u8 0) 1 Try.underlying39 hi hz0 hz1 .i64 .i64 _ _ (L + 1) rfl rfl rfl rfl (by rw [hz2]; omega) (by unfold maxLen; omega) (Nat.le_refl _) ?_; intro w1 hown hgrow))
  have hnx : Below w.heap.size w w1 := (Below.refl _ _).grown hgrow (Nat.le_refl _) (by intro k h; cases h)
  have hown0 : w1.ownsRow w.heap.size 5 1 (.slice (some ⟨w.heap.size, 0, none⟩) (L + 1) (L + 1)) (L + 1) ((ups 0 N).map bv ++ List.replicate (L + 1) (Value.int .u8 0)) := by
    have e : (madeCells (Value.int .u8 0).cells ((L + 1) * 1)).toList = (ups 0 N).map bv ++ List.replicate (L + 1) (Value.int .u8 0) := by
      rw [Nat.mul_one, show (Value.int .u8 0).cells = #[Value.int .u8 0] from rfl, toList_madeCells_one]; simp [ups]
    rw [← e]; exact hown
  clear hown hgrow hl1 hl2
  go_loopw [0, 13] (fun n i wr => ∃ k M : Nat, k ≤ L ∧ i = .int .i64 k ∧ n = .int .u64 M ∧ M = N / 128 ^ k ∧ Below w.heap.size w wr ∧
      wr.ownsRow w.heap.size 5 1 (.slice (some ⟨w.heap.size, 0, none⟩) (L + 1) (L + 1)) (L + 1) ((ups k N).map bv ++ List.replicate (L + 1 - k) (Value.int .u8 0)))
    (fun _ i _ => L - (intOf i).toNat)
  case atStart => exact ⟨0, N, Nat.zero_le _, rfl, rfl, by simp, hnx, hown0⟩
  case round =>
    obtain ⟨k, M, hk, rfl, rfl, hM, hb, ho⟩ := hrel
    clear hown0 hnx
    have HM := Lib.hid hM
    clear hM
    have hc : wr.cell? ⟨w.heap.size, k, none⟩ = some (.int .u8 0) := by
      have h := ahead_at (Value.int .u8 0) ((ups k N).map bv) (L - k)
      rw [List.length_map, ups_length, show L - k + 1 = L + 1 - k from by omega] at h
      rw [ho.cellAt _ (by omega)]; exact h
    have hf := ho.frozenAt k
    have HO := Lib.hid ho
    have HB := Lib.hid hb
    have HOR := Lib.hid (or128 M)
    clear ho hb
    have st : ∀ v, ((ups k N).map bv ++ List.replicate (L + 1 - k) (Value.int .u8 0)).set k v = (ups k N).map bv ++ [v] ++ List.replicate (L - k) (Value.int .u8 0) := by
      intro v
      have h := ahead_step (Value.int .u8 0) v ((ups k N).map bv) (L - k)
      rw [List.length_map, ups_length, show L - k + 1 = L + 1 - k from by omega] at h
      exact h
    have ST := Lib.hid st
    clear st
    by_cases hlt : k < L
    · go_wp2
      go_roundw
      case rel =>
        have e := HOR.out
        have s := (HO.out.stored k (Value.int .u8 (bits .or .u8 ((M : Int) % 256) 128))).1
        rw [ST.out] at s
        refine ⟨k + 1, M / 128, by omega, by go_num, vint (by omega), ?_, HB.out.setCell (Nat.le_refl _) _, ?_⟩
        · rw [HM.out, Nat.pow_succ, Nat.div_div_eq_div_mul]
        · rw [ups, List.map_append, List.map_cons, List.map_nil, ← HM.out, bv_hi, ← e, show L + 1 - (k + 1) = L - k from by omega]
          exact s
      case measure => simp [intOf]; omega
    · obtain rfl : k = L := by omega
      have hcv := loaded_string (wr.setCell ⟨w.heap.size, k, none⟩ (Value.int .u8 ((M : Int) % 256))) 39 5 Try.underlying39 Try.underlying5 w.heap.size (k + 1) (k + 1) (ups k N ++ [b8 M]) (by simp [ups_length]) (fun i hi => by
        have s := (HO.out.stored k (Value.int .u8 ((M : Int) % 256))).1
        rw [ST.out, Nat.sub_self] at s
        rw [s.cellAt i (by omega)]; simp [bv_b8]) 9 Try.underlying9
      go_wp2
      go_ret
      exact ⟨ret_str (by rw [HV.out, ← HM.out]), HB.out.setCell (Nat.le_refl _) _⟩

set_option maxHeartbeats 400000 in
theorem sign_any (n : Int) (w : World) (hn : I64 n) :
    Calls Try.prog 12 #[.int .i64 n] w fun e w' => e = .returned (.int .u64 (sgn n)) ∧ w = w' := by
  unfold I64 top at hn
  obtain ⟨h1, h2⟩ := hn
  by_cases h : n < 0
  · have hw : wrap64 (-1 - n) = -1 - n := i64w (by unfold top; omega) (by unfold top; omega)
    go_enter Try.func12, Try.ntmps12
    go_wp2
    go_ret
    refine ⟨ret_int ?_, rfl⟩
    have e : -1 - n = ((-1 - n).toNat : Int) := by omega
    have hb : (-1 - n).toNat * 2 < topN := by unfold topN; omega
    have ht : topN = 18446744073709551616 := rfl
    generalize hm : (-1 - n).toNat = m at *
    rw [e, u64_or _ _ (by omega) (by omega) (by omega) (by omega), show ((m : Int) * 2).toNat = m * 2 from by omega, show (1 : Int).toNat = 1 from rfl, nat_join 1 _ _ (by omega) (by omega)]
    unfold sgn
    rw [if_pos h]; omega
  · go_enter Try.func12, Try.ntmps12
    go_wp2
    go_ret
    refine ⟨ret_int ?_, rfl⟩
    unfold sgn
    rw [if_neg (by omega)]; omega

theorem and1 (n : Nat) (h : n < topN) : bits .and .u64 (n : Int) 1 = ((n % 2 : Nat) : Int) := by
  have ht : topN = 18446744073709551616 := rfl
  rw [u64_and _ _ (by omega) (by omega) (by omega) (by omega), Int.toNat_natCast, show (1 : Int).toNat = 1 from rfl, nat_mask1]

set_option maxHeartbeats 400000 in
theorem back_any (N : Nat) (w : World) (hN : N < topN) :
    Calls Try.prog 14 #[.int .u64 N] w fun e w' => e = .returned (.int .i64 (bck N)) ∧ w = w' := by
  have ha := and1 N hN
  have hw : wrap64 ((N : Int) / 2) = (N : Int) / 2 := i64w (by unfold top; omega) (by unfold topN at hN; unfold top; omega)
  have hw2 : wrap64 (-1 - (N : Int) / 2) = -1 - (N : Int) / 2 := i64w (by unfold topN at hN; unfold top; omega) (by unfold top; omega)
  rcases (show N % 2 = 1 ∨ N % 2 = 0 from by omega) with h | h
  · have H := Lib.hid (show bck N = -1 - (N : Int) / 2 from by unfold bck; rw [if_pos h]; omega)
    rw [h] at ha
    clear hN h
    go_enter Try.func14, Try.ntmps14
    go_wp2
    go_ret
    exact ⟨ret_int (by rw [hw2]; exact H.out.symm), rfl⟩
  · have H := Lib.hid (show bck N = (N : Int) / 2 from by unfold bck; rw [if_neg (by omega)]; omega)
    rw [h] at ha
    clear hN h
    go_enter Try.func14, Try.ntmps14
    go_wp2
    go_ret
    exact ⟨ret_int (by rw [hw]; exact H.out.symm), rfl⟩

set_option maxHeartbeats 400000 in
theorem text_any (s : ByteArray) (w : World) (hs : s.size ≤ 4294967296) :
    Calls Try.prog 23 #[.string s] w fun e w' => e = .returned (.string ⟨(text s.data.toList).toArray⟩) ∧ Keeps w w' := by
  have hsz : (⟨(sev s.size).toArray⟩ : ByteArray).size ≤ 10 := by rw [size_mk]; exact sev_le (by unfold topN; omega)
  have HT := Lib.hid (show s.size < topN from by unfold topN; omega)
  go_enter Try.func23, Try.ntmps23
  go_wp2_with (go_at_call 10; refine (var_any _ _ HT.out).mono ?_; rintro e w' ⟨rfl, hk⟩)
  go_ret
  exact ⟨ret_str (by rw [← mk_data s, ByteArray.mk_append_mk]; simp [text]), hk⟩
end Go.Proofs.Ytdadpkcnmimneaa
