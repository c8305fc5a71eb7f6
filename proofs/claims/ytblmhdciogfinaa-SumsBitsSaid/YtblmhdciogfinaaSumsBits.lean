
/- The walk of SumsBits. -/
import Derived.Test.YtblmhdciogfinaaSumsBent
set_option linter.unusedVariables false
namespace Go.Proofs.Ytblmhdciogfinaa
open Go.ChangeShapes Go.WideShapes Go.ChangeAt Go.RowKit Bit Crc

theorem u32_of {n : Int} (h : (Lit.int .u32 n).wf = true) : ∃ N : Nat, n = N ∧ N < two32 := by
  simp only [Lit.wf, IntKind.min, IntKind.max, IntKind.signed, IntKind.bits, Bool.and_eq_true] at h
  simp at h
  exact ⟨n.toNat, by omega, by unfold two32; omega⟩

theorem idx3_0 (a b c : Int) : ∀ w, (Instr.index 34 (.agg #[.int .u32 a, .int .u32 b, .int .u32 c]) (.int .i64 0)).run Try.prog w = .ok (.int .u32 a) w := fun _ => by kernel_rfl
theorem idx3_1 (a b c : Int) : ∀ w, (Instr.index 34 (.agg #[.int .u32 a, .int .u32 b, .int .u32 c]) (.int .i64 1)).run Try.prog w = .ok (.int .u32 b) w := fun _ => by kernel_rfl
theorem idx3_2 (a b c : Int) : ∀ w, (Instr.index 34 (.agg #[.int .u32 a, .int .u32 b, .int .u32 c]) (.int .i64 2)).run Try.prog w = .ok (.int .u32 c) w := fun _ => by kernel_rfl

/-- What is bent, as a letter. -/
theorem bent_is (s X : ByteArray) (A : Nat) (n : Int) (N : Nat) (w : World) (h : n = N) (hs : s.size ≤ 140737488351232) (hA : A ≤ 1000000) (hN : N < two32) (hX : (⟨(bentL s.data.toList A N).toArray⟩ : ByteArray) = X) :
    Calls Try.prog 16 #[.string s, .int .i64 A, .int .u32 n] w fun e w' => e = .returned (.string X) ∧ Keeps w w' := by
  rw [h, ← hX]; exact bent_any s A N w hs hA hN

abbrev BitsFacts (s Z : ByteArray) (a M : Nat) (X Y : ByteArray) : Prop := (⟨(bentL Z.data.toList a M).toArray⟩ : ByteArray) = X ∧ (⟨(bentL s.data.toList a M).toArray⟩ : ByteArray) = Y ∧ X.size ≤ maxLen ∧ Y.size ≤ maxLen
theorem bits_facts (s Z : ByteArray) (a M : Nat) (hZ : (⟨(sealL s.data.toList).toArray⟩ : ByteArray) = Z) (hM : M < two32) (hz : Z.size ≤ 104) (hs : s.size ≤ 104) : ∃ X Y : ByteArray, BitsFacts s Z a M X Y ∧
    ((X.toList == Z.toList) = true ∨ ((X.toList == Z.toList) = false ∧ Hid (opT X.data.toList = (ByteArray.mk #[]).data.toList ∧ opB X.data.toList = false))) ∧
    ((Y.toList == s.toList) = true ∨ ((Y.toList == s.toList) = false ∧ ((sumN Y.data.toList : Int) == (sumN s.data.toList : Int)) = false)) := by
  have hZd : Z.data.toList = sealL s.data.toList := by rw [← hZ]
  refine ⟨_, _, ⟨rfl, rfl, by rw [size_mk, bentL_len, len_data]; unfold maxLen; omega, by rw [size_mk, bentL_len, len_data]; unfold maxLen; omega⟩, ?_, ?_⟩
  · rw [ByteArray.toList_eq, ByteArray.toList_eq, data_mk]
    cases h : (bentL Z.data.toList a M == Z.data.toList)
    · right
      refine ⟨rfl, Lib.hid ?_⟩
      have hne : bentL (sealL s.data.toList) a M ≠ sealL s.data.toList := by rw [hZd] at h; simpa using h
      have hb := bent_seal hM hne
      rw [hZd]
      exact ⟨op_no hb, hb⟩
    · exact Or.inl rfl
  · rw [ByteArray.toList_eq, ByteArray.toList_eq, data_mk]
    cases h : (bentL s.data.toList a M == s.data.toList)
    · right
      refine ⟨rfl, ?_⟩
      have hne : bentL s.data.toList a M ≠ s.data.toList := by simpa using h
      have := bent_sum hM hne
      exact beq_eq_false_iff_ne.2 (by omega)
    · exact Or.inl rfl

def AtRel (w : World) (n : Nat) (i : Value) (wr : World) : Prop := ∃ k : Nat, k ≤ n ∧ i = .int .i64 k ∧ Keeps w wr

set_option maxRecDepth 100000 in
set_option maxHeartbeats 2000000 in
theorem sumsBits_go (s : ByteArray) (n : Int) (w : World) (hs : s.size ≤ maxLen) (hn : (Lit.int .u32 n).wf = true) :
    Calls Try.prog 6 #[.string s, .int .u32 n] w fun e w' => e = .returned (.bool true) ∧ Keeps w w' := by
  obtain ⟨N, rfl, hN⟩ := u32_of hn
  clear hn
  have HN := Lib.hid hN
  clear hN
  by_cases hb : 100 < (s.size : Int)
  · clear hs
    go_enter Try.func6, Try.ntmps6
    go_wp2_with (go_at_call 14; refine (works_any _).mono ?_; rintro e w' ⟨rfl, hk⟩)
    go_ret
    exact ⟨rfl, hk⟩
  clear hs
  obtain ⟨Z, hZ⟩ : ∃ Z : ByteArray, Z = ⟨(sealL s.data.toList).toArray⟩ := ⟨_, rfl⟩
  have HZ := Lib.hid hZ.symm
  have hZs : (Z.size : Int) = s.size + 4 := by rw [hZ, size_mk, sealL_len, len_data]; omega
  have S1 := Lib.hid (show s.size ≤ 4294967296 from by omega)
  have hz1 : (Z.size : Int) ≤ 104 := by omega
  have HZS := Lib.hid hZs
  clear hZ hZs
  go_enter Try.func6, Try.ntmps6
  go_wp2_with (go_at_call 9; refine (seal_any s _ S1.out).mono ?_; rw [HZ.out]; rintro e w1 ⟨rfl, k1⟩)
  have K1 := Lib.hid k1
  clear k1
  go_loopw [6] (fun i wr => AtRel w Z.size i wr) (fun i _ => Z.size - (intOf i).toNat)
  case atStart => exact ⟨0, by omega, rfl, K1.out⟩
  case round =>
    obtain ⟨a, ha, rfl, hkw⟩ := hrel
    have K2 := Lib.hid hkw
    clear hkw
    have ha2 : (a : Int) ≤ 104 := by omega
    have AB := Lib.hid (show a ≤ 1000000 from by omega)
    have ZB := Lib.hid (show Z.size ≤ 140737488351232 from by omega)
    have SB := Lib.hid (show s.size ≤ 140737488351232 from by omega)
    have SM := Lib.hid (show s.size ≤ maxLen from by unfold maxLen; omega)
    by_cases hlt : a < Z.size
    · obtain ⟨P, hP⟩ : ∃ P : Nat, P = 2 ^ (a % 8) % 4294967296 := ⟨_, rfl⟩
      have hP2 : (2 : Int) ^ (a % 8) % 4294967296 = P := by rw [hP]; simp
      have HP := Lib.hid (show P < two32 from by rw [hP]; exact Nat.mod_lt _ (by decide))
      clear hP
      go_wp2
      clear hP2
      go_loopw [30] (fun i wr => ThreeRel w i wr) (fun i _ => (3 - intOf i).toNat)
      case atStart => exact ⟨Or.inl rfl, K2.out⟩
      case round =>
        obtain ⟨hk, hkw⟩ := hrel
        have K3 := Lib.hid hkw
        clear hkw
        have i0 := idx3_0 N P 2147483649
        have i1 := idx3_1 N P 2147483649
        have i2 := idx3_2 N P 2147483649
        rcases hk with rfl | rfl | rfl | rfl
        · obtain ⟨X, Y, hF, hx, hy⟩ := bits_facts s Z a N HZ.out HN.out (by omega) (by omega)
          have F := Lib.hid hF
          clear hF
          rcases hx with hx | ⟨hx, HO⟩ <;> rcases hy with hy | ⟨hy, hne⟩
          all_goals
            go_wp2_with (first
              | (go_at_call 16; first
                  | ((with_reducible refine (bent_is Z X a _ N _ rfl ZB.out AB.out HN.out F.out.1).mono ?_); rintro e w2 ⟨rfl, k2⟩)
                  | ((with_reducible refine (bent_is s Y a _ N _ rfl SB.out AB.out HN.out F.out.2.1).mono ?_); rintro e w3 ⟨rfl, k3⟩))
              | (go_at_call 13; refine (open_is X ⟨#[]⟩ false _ F.out.2.2.1 HO.out).mono ?_; rintro e w4 ⟨rfl, k4⟩)
              | (go_at_call 10; first
                  | ((with_reducible refine (sum_any Y _ F.out.2.2.2).mono ?_); rintro e w' ⟨rfl, rfl⟩)
                  | ((with_reducible refine (sum_any s _ SM.out).mono ?_); rintro e w' ⟨rfl, rfl⟩)))
            go_roundw
            case rel => exact ⟨Or.inr (Or.inl rfl), by repeat (first | assumption | exact K3.out | refine Keeps.trans ?_ (by assumption))⟩
            case measure => simp [intOf]
        · obtain ⟨X, Y, hF, hx, hy⟩ := bits_facts s Z a P HZ.out HP.out (by omega) (by omega)
          have F := Lib.hid hF
          clear hF
          rcases hx with hx | ⟨hx, HO⟩ <;> rcases hy with hy | ⟨hy, hne⟩
          all_goals
            go_wp2_with (first
              | (go_at_call 16; first
                  | ((with_reducible refine (bent_is Z X a _ P _ rfl ZB.out AB.out HP.out F.out.1).mono ?_); rintro e w2 ⟨rfl, k2⟩)
                  | ((with_reducible refine (bent_is s Y a _ P _ rfl SB.out AB.out HP.out F.out.2.1).mono ?_); rintro e w3 ⟨rfl, k3⟩))
              | (go_at_call 13; refine (open_is X ⟨#[]⟩ false _ F.out.2.2.1 HO.out).mono ?_; rintro e w4 ⟨rfl, k4⟩)
              | (go_at_call 10; first
                  | ((with_reducible refine (sum_any Y _ F.out.2.2.2).mono ?_); rintro e w' ⟨rfl, rfl⟩)
                  | ((with_reducible refine (sum_any s _ SM.out).mono ?_); rintro e w' ⟨rfl, rfl⟩)))
            go_roundw
            case rel => exact ⟨Or.inr (Or.inr (Or.inl rfl)), by repeat (first | assumption | exact K3.out | refine Keeps.trans ?_ (by assumption))⟩
            case measure => simp [intOf]
        · obtain ⟨X, Y, hF, hx, hy⟩ := bits_facts s Z a 2147483649 HZ.out (by decide) (by omega) (by omega)
          have F := Lib.hid hF
          clear hF
          rcases hx with hx | ⟨hx, HO⟩ <;> rcases hy with hy | ⟨hy, hne⟩
          all_goals
            go_wp2_with (first
              | (go_at_call 16; first
                  | ((with_reducible refine (bent_is Z X a 2147483649 2147483649 _ (by decide) ZB.out AB.out (by decide) F.out.1).mono ?_); rintro e w2 ⟨rfl, k2⟩)
                  | ((with_reducible refine (bent_is s Y a 2147483649 2147483649 _ (by decide) SB.out AB.out (by decide) F.out.2.1).mono ?_); rintro e w3 ⟨rfl, k3⟩))
              | (go_at_call 13; refine (open_is X ⟨#[]⟩ false _ F.out.2.2.1 HO.out).mono ?_; rintro e w4 ⟨rfl, k4⟩)
              | (go_at_call 10; first
                  | ((with_reducible refine (sum_any Y _ F.out.2.2.2).mono ?_); rintro e w' ⟨rfl, rfl⟩)
                  | ((with_reducible refine (sum_any s _ SM.out).mono ?_); rintro e w' ⟨rfl, rfl⟩)))
            go_roundw
            case rel => exact ⟨Or.inr (Or.inr (Or.inr rfl)), by repeat (first | assumption | exact K3.out | refine Keeps.trans ?_ (by assumption))⟩
            case measure => simp [intOf]
        · go_wp2
          go_roundw
          case rel => exact ⟨a + 1, by omega, by go_num, K3.out⟩
          case measure => simp [intOf]; omega
    · have hzz : (Z.size : Int) = s.size + 4 := HZS.out
      have k2 := K2.out
      go_wp2_with (go_at_call 14; refine (works_any _).mono ?_; rintro e w' ⟨rfl, hk⟩)
      go_ret
      exact ⟨rfl, k2.trans hk⟩
end Go.Proofs.Ytblmhdciogfinaa
