
/- The walk of SumsRuns. -/
import Derived.Test.YtblmhdciogfinaaSumsLaws2
import Derived.StillTailTactics
set_option linter.unusedVariables false
namespace Go.Proofs.Ytblmhdciogfinaa
open Go.ChangeShapes Go.WideShapes Go.ChangeAt Go.RowKit Bit Crc

theorem u16_of {n : Int} (h : (Lit.int .u16 n).wf = true) : ∃ N : Nat, n = N ∧ N < 65536 := by
  simp only [Lit.wf, IntKind.min, IntKind.max, IntKind.signed, IntKind.bits, Bool.and_eq_true] at h
  simp at h
  exact ⟨n.toNat, by omega, by omega⟩

theorem sum_st (s : ByteArray) (w : World) (hs : s.size ≤ maxLen) :
    Calls Try.prog 10 #[.string s] w fun e w' => e = .returned (.int .u32 (sumN s.data.toList : Nat)) ∧ w' = w :=
  (sum_any s w hs).mono fun _ _ ⟨h, g⟩ => ⟨h, g.symm⟩
theorem rsum_st (s : ByteArray) (w : World) (hs : s.size ≤ maxLen) :
    Calls Try.prog 11 #[.string s] w fun e w' => e = .returned (.int .u32 (sumN s.data.toList : Nat)) ∧ w' = w :=
  (rsum_any s w hs).mono fun _ _ ⟨h, g⟩ => ⟨h, g.symm⟩
def RunRel (w : World) (h W : Nat) (c : Value) (i : Value) (wr : World) : Prop := ∃ k : Nat, k ≤ W ∧ i = .int .i64 k ∧ Below w.heap.size w wr ∧
      wr.ownsRow h 5 1 (.slice (some ⟨h, 0, none⟩) W W) W (List.replicate k c ++ List.replicate (W - k) (Value.int .u8 0))

set_option maxRecDepth 100000 in
set_option maxHeartbeats 2000000 in
theorem sumsRuns_go (a : ByteArray) (c many : Int) (w : World) (hs : a.size ≤ 140737488351232) (hc : (Lit.int .u8 c).wf = true) (hm : (Lit.int .u16 many).wf = true) :
    Calls Try.prog 5 #[.string a, .int .u8 c, .int .u16 many] w fun e w' => e = .returned (.bool true) ∧ Keeps w w' := by
  obtain ⟨C, rfl, hC⟩ := u8_of hc
  obtain ⟨M, rfl, hM⟩ := u16_of hm
  clear hc hm
  by_cases hb : 60 < (a.size : Int)
  · go_enter Try.func5, Try.ntmps5
    go_wp2_with (go_at_call 14; refine (works_any _).mono ?_; rintro e w' ⟨rfl, hk⟩)
    go_ret
    exact ⟨rfl, hk⟩
  clear hs
  obtain ⟨W, hW⟩ : ∃ W, W = M % 20001 := ⟨_, rfl⟩
  have hW2 : W ≤ 20000 := by omega
  have hW3 : (M : Int) % 20001 = W := by omega
  clear hW
  have HW3 := Lib.hid hW3
  clear hW3
  go_enter Try.func5, Try.ntmps5
  obtain ⟨i0, hi, hz0, hz1, hz2⟩ := info_parts info_u8
  go_wp2_with (at_make; refine wpList_make_full _ rfl (.tmp 15) (.tmp 15) 32 rfl w.heap.size 5 i0 (.int .u8 0) 1 Try.underlying32 hi hz0 hz1 .i64 .i64 _ _ W rfl rfl HW3.out HW3.out (by rw [hz2]; omega) (by unfold maxLen; omega) (Nat.le_refl _) ?_; intro w1 hown hgrow)
  have hnx : Below w.heap.size w w1 := (Below.refl _ _).grown hgrow (Nat.le_refl _) (by intro k h; cases h)
  have hown0 : w1.ownsRow w.heap.size 5 1 (.slice (some ⟨w.heap.size, 0, none⟩) W W) W (List.replicate 0 (Value.int .u8 C) ++ List.replicate (W - 0) (Value.int .u8 0)) := by
    have e : (madeCells (Value.int .u8 0).cells (W * 1)).toList = List.replicate 0 (Value.int .u8 C) ++ List.replicate (W - 0) (Value.int .u8 0) := by
      rw [Nat.mul_one, show (Value.int .u8 0).cells = #[Value.int .u8 0] from rfl, toList_madeCells_one]; simp
    rw [← e]; exact hown
  clear hown hgrow
  have H0 := Lib.hid hnx
  have H1 := Lib.hid hown0
  clear hnx hown0
  go_loopw [19] (fun i wr => RunRel w w.heap.size W (.int .u8 C) i wr) (fun i _ => W - (intOf i).toNat)
  case atStart => exact ⟨0, Nat.zero_le _, rfl, H0.out, H1.out⟩
  case round =>
    obtain ⟨k, hk, rfl, hb', ho⟩ := hrel
    by_cases hlt : k < W
    · have hc : wr.cell? ⟨w.heap.size, k, none⟩ = some (.int .u8 0) := by
        have h := ahead_at (Value.int .u8 0) (List.replicate k (Value.int .u8 C)) (W - k - 1)
        rw [List.length_replicate, show W - k - 1 + 1 = W - k from by omega] at h
        rw [ho.cellAt _ (by omega)]; exact h
      have hf := ho.frozenAt k
      have HO := Lib.hid ho
      have HB := Lib.hid hb'
      clear ho hb'
      go_wp2
      go_roundw
      case rel =>
        have st := (HO.out.stored k (Value.int .u8 C)).1
        have h := ahead_step (Value.int .u8 0) (Value.int .u8 C) (List.replicate k (Value.int .u8 C)) (W - k - 1)
        rw [List.length_replicate, show W - k - 1 + 1 = W - k from by omega] at h
        rw [h] at st
        refine ⟨k + 1, by omega, by go_num, HB.out.setCell (Nat.le_refl _) _, ?_⟩
        rw [List.replicate_succ', show W - (k + 1) = W - k - 1 from by omega]
        exact st
      case measure => simp [intOf]; omega
    · obtain rfl : k = W := by omega
      obtain ⟨R, hR⟩ : ∃ R : ByteArray, R = ⟨(List.replicate k (UInt8.ofNat C)).toArray⟩ := ⟨_, rfl⟩
      have hRs : R.size = k := by rw [hR, size_mk]; simp
      have hcb : (C : Int) = (UInt8.ofNat C).toNat := by simp; omega
      have hcv : (convert 32 9 (.slice (some ⟨w.heap.size, 0, none⟩) k k)).run Try.prog wr.drew = .ok (.string R) wr.drew := by
        rw [hR]
        refine loaded_string wr.drew 32 5 Try.underlying32 Try.underlying5 w.heap.size k k (List.replicate k (UInt8.ofNat C)) (by simp) (fun i hi => ?_) 9 Try.underlying9
        refine (ho.cellAt i (by omega)).trans ?_
        rw [Nat.sub_self, List.map_replicate, bv, ← hcb]; simp
      have RM := Lib.hid (show R.size ≤ maxLen from by unfold maxLen; omega)
      have AM := Lib.hid (show (a ++ R).size ≤ maxLen from by rw [ByteArray.size_append]; unfold maxLen; omega)
      have HB := Lib.hid hb'
      have hR2 : (R.size : Int) ≤ 20000 := by omega
      have ADD := Lib.hid (show ¬ (9223372036854775807 < a.size + R.size) from by omega)
      clear ho hb' hR hRs hcb
      have HBD := Lib.hid (show Keeps w wr.drew from HB.out.drew)
      go_wp2
      refine wp_region_still_tail 21 (by kernel_rfl) (by kernel_rfl) ?_
      generalize hq : ({ wr with drawn := wr.drawn + 1 } : World) = wq
      have hq2 : wr.drew = wq := hq
      rw [hq2] at hcv HBD
      clear hq hq2
      simp only [List.take_succ_cons, List.take_zero, List.drop_succ_cons, List.drop_zero]
      repeat (refine wpStill_step (fun K hK => ?_); go_simp; (try simp only [if_neg ADD.out, true_and]); first
        | (refine hK _ ?_; clear hK K)
        | (refine ⟨_, sum_st _ _ RM.out, hK _ ?_⟩; clear hK K)
        | (refine ⟨_, sum_st _ _ AM.out, hK _ ?_⟩; clear hK K)
        | (refine ⟨_, rsum_st _ _ RM.out, hK _ ?_⟩; clear hK K)
        | (refine ⟨_, rsum_st _ _ AM.out, hK _ ?_⟩; clear hK K))
      try refine wpStill_nil ?_
      go_wp2_with (go_at_call 14; refine (works_any _).mono ?_; rintro e w' ⟨rfl, hk⟩)
      go_ret
      exact ⟨rfl, HBD.out.trans hk⟩
end Go.Proofs.Ytblmhdciogfinaa
