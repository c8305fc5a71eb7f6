
/- The walk of SumsOpens. -/
import Derived.Test.YtblmhdciogfinaaSumsLaws
import Derived.BigRegion
set_option linter.unusedVariables false
namespace Go.Proofs.Ytblmhdciogfinaa
open Go.ChangeShapes Go.WideShapes Go.ChangeAt Go.RowKit Bit Crc

theorem u8_of {n : Int} (h : (Lit.int .u8 n).wf = true) : ∃ N : Nat, n = N ∧ N < 256 := by
  simp only [Lit.wf, IntKind.min, IntKind.max, IntKind.signed, IntKind.bits, Bool.and_eq_true] at h
  simp at h
  exact ⟨n.toNat, by omega, by omega⟩

theorem three_0 (a b c : ByteArray) : ∀ w, (Instr.index 29 (.agg #[.string a, .string b, .string c]) (.int .i64 0)).run Try.prog w = .ok (.string a) w := fun _ => by kernel_rfl
theorem three_1 (a b c : ByteArray) : ∀ w, (Instr.index 29 (.agg #[.string a, .string b, .string c]) (.int .i64 1)).run Try.prog w = .ok (.string b) w := fun _ => by kernel_rfl
theorem three_2 (a b c : ByteArray) : ∀ w, (Instr.index 29 (.agg #[.string a, .string b, .string c]) (.int .i64 2)).run Try.prog w = .ok (.string c) w := fun _ => by kernel_rfl
def ThreeRel (w : World) (i : Value) (wr : World) : Prop := (i = .int .i64 0 ∨ i = .int .i64 1 ∨ i = .int .i64 2 ∨ i = .int .i64 3) ∧ Keeps w wr

set_option maxRecDepth 100000 in
set_option maxHeartbeats 2000000 in
theorem sumsOpens_go (s t : ByteArray) (less : Int) (w : World) (hs : s.size ≤ 140737488351232) (ht : t.size ≤ 140737488351232) (hl : (Lit.int .u8 less).wf = true) :
    Calls Try.prog 4 #[.string s, .string t, .int .u8 less] w fun e w' => e = .returned (.bool true) ∧ Keeps w w' := by
  obtain ⟨L, rfl, hL⟩ := u8_of hl
  clear hl
  by_cases hb : 1000 < s.size + t.size
  · have hb3 : 1000 < (s.size : Int) + t.size := by omega
    go_enter Try.func4, Try.ntmps4
    go_wp2_with (go_at_call 14; refine (works_any _).mono ?_; rintro e w' ⟨rfl, hk⟩)
    go_ret
    exact ⟨rfl, hk⟩
  have hb2 : (s.size : Int) + t.size ≤ 1000 := by omega
  clear hs ht
  obtain ⟨Z, hZ⟩ : ∃ Z : ByteArray, Z = ⟨(sealL t.data.toList).toArray⟩ := ⟨_, rfl⟩
  have HZ := Lib.hid hZ.symm
  have hZs : Z.size = t.size + 4 := by rw [hZ, size_mk, sealL_len, len_data]
  have T1 := Lib.hid (show t.size ≤ 4294967296 from by omega)
  have hz1 : 4 ≤ (Z.size : Int) := by omega
  have hz2 : (Z.size : Int) ≤ 1004 := by omega
  have hs1 : (s.size : Int) ≤ 1000 := by omega
  have hw2 : IntKind.i64.wrap ((Z.size : Int) - 4) = (Z.size : Int) - 4 := IntWalk.i64_in _ (by omega)
  have hw3 : ((Z.size : Int) - 4).toNat = Z.size - 4 := by omega
  have hw4 : 0 ≤ (Z.size : Int) - 4 := by omega
  obtain ⟨C, hC⟩ : ∃ C, s ++ Z.extract (Z.size - 4) Z.size = C := ⟨_, rfl⟩
  have hCs : C.size ≤ 2100 := by rw [← hC, ByteArray.size_append, ByteArray.size_extract]; omega
  have hBB : ∃ B : ByteArray, B.size ≤ 1000 ∧ (((L : Int) ≤ s.size ∧ s.extract 0 (s.size - L) = B) ∨ ((s.size : Int) < L ∧ B = ByteArray.empty)) := by
    by_cases hle : (L : Int) ≤ s.size
    · exact ⟨s.extract 0 (s.size - L), by rw [ByteArray.size_extract]; omega, Or.inl ⟨hle, rfl⟩⟩
    · exact ⟨ByteArray.empty, Nat.zero_le _, Or.inr ⟨by omega, rfl⟩⟩
  obtain ⟨B, hBs, hBB⟩ := hBB
  have SM := Lib.hid (show s.size ≤ maxLen from by unfold maxLen; omega)
  have BM := Lib.hid (show B.size ≤ maxLen from by unfold maxLen; omega)
  have CM := Lib.hid (show C.size ≤ maxLen from by unfold maxLen; omega)
  have SM2 := Lib.hid (show s.size ≤ 4294967296 from by omega)
  have BM2 := Lib.hid (show B.size ≤ 4294967296 from by omega)
  have CM2 := Lib.hid (show C.size ≤ 4294967296 from by omega)
  have hv1 : IntKind.i64.wrap ((s.size : Int) - L) = (s.size : Int) - L := IntWalk.i64_in _ (by omega)
  rcases hBB with ⟨hle, hB⟩ | ⟨hle, rfl⟩
  case' inl => have hv2 : 0 ≤ (s.size : Int) - L := by omega
  case' inl => have hv3 : ((s.size : Int) - L).toNat = s.size - L := by omega
  case' inr => have hv2 : (s.size : Int) - L < 0 := by omega
  all_goals have hL2 : (L : Int) < 256 := by omega
  all_goals
    clear hZ hZs hb hL
    go_enter Try.func4, Try.ntmps4
    go_wp2_with (go_at_call 12; refine (rseal_any t _ T1.out).mono ?_; rw [HZ.out]; rintro e w1 ⟨rfl, k1⟩)
    go_region
    go_wp2
    have K1 := Lib.hid k1
    clear k1
    go_loopw [42] (fun i wr => ThreeRel w i wr) (fun i _ => (3 - intOf i).toNat)
    case atStart => exact ⟨Or.inl rfl, (K1.out.alloc K1.out.size _).drew⟩
    case round =>
      obtain ⟨hk, hkw⟩ := hrel
      have i0 := fun y => three_0 s y C
      have i1 := fun y => three_1 s y C
      have i2 := fun y => three_2 s y C
      have K2 := Lib.hid hkw
      clear hkw hC hv1 hv2 hw2 hw3 hw4
      try clear hB
      rcases hk with rfl | rfl | rfl | rfl
      · go_wp2_with (first
          | (go_at_call 13; refine (open_any _ _ SM.out).mono ?_; rintro e w2 ⟨rfl, k2⟩)
          | (go_at_call 15; refine (ropen_any _ _ SM2.out).mono ?_; rintro e w3 ⟨rfl, k3⟩))
        go_roundw
        case rel => exact ⟨Or.inr (Or.inl rfl), K2.out.trans (k2.trans k3)⟩
        case measure => simp [intOf]
      · go_wp2_with (first
          | (go_at_call 13; refine (open_any _ _ BM.out).mono ?_; rintro e w2 ⟨rfl, k2⟩)
          | (go_at_call 15; refine (ropen_any _ _ BM2.out).mono ?_; rintro e w3 ⟨rfl, k3⟩))
        go_roundw
        case rel => exact ⟨Or.inr (Or.inr (Or.inl rfl)), K2.out.trans (k2.trans k3)⟩
        case measure => simp [intOf]
      · go_wp2_with (first
          | (go_at_call 13; refine (open_any _ _ CM.out).mono ?_; rintro e w2 ⟨rfl, k2⟩)
          | (go_at_call 15; refine (ropen_any _ _ CM2.out).mono ?_; rintro e w3 ⟨rfl, k3⟩))
        go_roundw
        case rel => exact ⟨Or.inr (Or.inr (Or.inr rfl)), K2.out.trans (k2.trans k3)⟩
        case measure => simp [intOf]
      · have k2 := K2.out
        go_wp2_with (go_at_call 14; refine (works_any _).mono ?_; rintro e w' ⟨rfl, hk⟩)
        go_ret
        exact ⟨rfl, k2.trans hk⟩
end Go.Proofs.Ytblmhdciogfinaa
