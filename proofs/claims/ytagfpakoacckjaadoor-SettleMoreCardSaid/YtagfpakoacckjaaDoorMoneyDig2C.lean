
/- The contract of money.digits. -/
import Derived.Test.YtagfpakoacckjaaDoorMoneyMath
set_option linter.unusedVariables false
namespace Go.Proofs.YtagfpakoacckjaaDoor
open Go.ChangeShapes Go.WideShapes Go.ChangeAt Go.RowKit Mon

theorem moInfo_u8 : (Tryd.prog.info? 5).map (fun i => (i.zero, i.size, i.bytes)) = some (some (.int .u8 0), 1, 1) := by kernel_rfl

set_option maxHeartbeats 400000 in
theorem digits_any (N W : Nat) (w : World) (hN : N < topN) (hW : W ≤ 100) :
    Calls Tryd.prog 25 #[.int .u64 N, .int .i64 W] w fun e w' => e = .returned (.string ⟨(dig W N).toArray⟩) ∧ Keeps w w' := by
  obtain ⟨i0, hi, hz0, hz1, hz2⟩ := info_parts moInfo_u8
  go_enter Tryd.func25, Tryd.ntmps25
  go_wp2_with (at_make; refine wpList_make_full _ rfl (.tmp 7) (.tmp 7) 36 rfl w.heap.size 5 i0 (.int .u8 0) 1 Tryd.underlying36 hi hz0 hz1 .i64 .i64 _ _ W rfl rfl rfl rfl (by rw [hz2]; omega) (by unfold maxLen; omega) (Nat.le_refl _) ?_; intro w1 hown hgrow)
  have hnx : Below w.heap.size w w1 := (Below.refl _ _).grown hgrow (Nat.le_refl _) (by intro k h; cases h)
  have hown0 : w1.ownsRow w.heap.size 5 1 (.slice (some ⟨w.heap.size, 0, none⟩) W W) W (List.replicate W (Value.int .u8 0) ++ (dig 0 N).map bv) := by
    have e : (madeCells (Value.int .u8 0).cells (W * 1)).toList = List.replicate W (Value.int .u8 0) ++ (dig 0 N).map bv := by
      rw [Nat.mul_one, show (Value.int .u8 0).cells = #[Value.int .u8 0] from rfl, toList_madeCells_one]; simp [dig]
    rw [← e]; exact hown
  have HN := Lib.hid hN
  clear hown hgrow hN
  go_loopw [0, 10] (fun n i wr => ∃ k M : Nat, k ≤ W ∧ i = .int .i64 k ∧ n = .int .u64 M ∧ M = N / 10 ^ k ∧ Below w.heap.size w wr ∧
      wr.ownsRow w.heap.size 5 1 (.slice (some ⟨w.heap.size, 0, none⟩) W W) W (List.replicate (W - k) (Value.int .u8 0) ++ (dig k N).map bv))
    (fun _ i _ => W - (intOf i).toNat)
  case atStart => exact ⟨0, N, Nat.zero_le _, rfl, rfl, by simp, hnx, hown0⟩
  case round =>
    obtain ⟨k, M, hk, rfl, rfl, hM, hb, ho⟩ := hrel
    clear hown0 hnx
    have HM := Lib.hid hM
    clear hM
    by_cases hlt : k < W
    · have hc : wr.cell? ⟨w.heap.size, W - 1 - k, none⟩ = some (.int .u8 0) := by
        rw [ho.cellAt _ (by omega), show W - k = (W - 1 - k) + 1 from by omega]
        exact fill_at _ _ _
      have hf := ho.frozenAt (W - 1 - k)
      have hi0 : 0 ≤ (W : Int) - 1 - k := by omega
      have hi1 : ((W : Int) - 1 - k).toNat = W - 1 - k := by omega
      have HO := Lib.hid ho
      have HB := Lib.hid hb
      clear ho hb
      go_wp2
      go_outline
      go_roundw
      case rel =>
        have hm : M < topN := by rw [HM.out]; exact Nat.lt_of_le_of_lt (Nat.div_le_self _ _) HN.out
        have e : IntKind.u64.wrap ((M : Int) / 10) = ((M / 10 : Nat) : Int) := by rw [u64w (by omega) (by omega)]; omega
        have s := (HO.out.stored (W - 1 - k) (Value.int .u8 (48 + (M : Int) % 10))).1
        refine ⟨k + 1, M / 10, by omega, by go_num, vint e, ?_, HB.out.setCell (Nat.le_refl _) _, ?_⟩
        · rw [HM.out, Nat.pow_succ, Nat.div_div_eq_div_mul]
        · rw [show W - k = (W - 1 - k) + 1 from by omega, fill_step] at s
          rw [dig_front, List.map_cons, show W - (k + 1) = W - 1 - k from by omega, ← HM.out, bv, ← byte_digit]
          exact s
      case measure => simp [intOf]; omega
    · obtain rfl : k = W := by omega
      have hcv := loaded_string wr 36 5 Tryd.underlying36 Tryd.underlying5 w.heap.size k k (dig k N) (dig_length _ _) (fun i hi => by
        rw [ho.cellAt i (by omega), Nat.sub_self]; rfl) 9 Tryd.underlying9
      have HB := Lib.hid hb
      clear ho hb
      go_wp2
      go_ret
      exact ⟨rfl, HB.out⟩
end Go.Proofs.YtagfpakoacckjaaDoor
