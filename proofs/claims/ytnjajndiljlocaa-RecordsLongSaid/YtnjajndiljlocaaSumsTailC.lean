
/- The contracts of sums.tail, Seal, Open. -/
import Derived.Test.YtnjajndiljlocaaSumsC
import Derived.Test.YtnjajndiljlocaaBitsPutC
import Derived.Deep.RegionWith
import Derived.Deep.QuietTactic
import Derived.BigQuiet
import Derived.Deep.Cut
set_option linter.unusedVariables false
namespace Go.Proofs.Ytnjajndiljlocaa
open Go.ChangeShapes Go.WideShapes Go.ChangeAt Go.RowKit Bit Crc

/-- A byte, put. -/
theorem put1_any (n : Int) (N : Nat) (w : World) (h : n = (N : Int)) (hN : N < topN) :
    Calls Try.prog 18 #[.int .u64 n, .int .i64 1] w fun e w' => e = .returned (.string ⟨#[b8 N]⟩) ∧ Keeps w w' := by
  rw [h]
  refine (put_any N 1 w hN).mono ?_
  rintro e w' ⟨rfl, hk⟩
  exact ⟨ret_str rfl, hk⟩

theorem u64_small {m : Int} {n : Nat} (h : m = n) (hn : n < 4294967296) : IntKind.u64.wrap m = (n : Int) := by
  rw [h]; exact u64w (by omega) (by unfold topN; omega)
def TailRel (w : World) (n : Nat) (p i : Value) (wr : World) : Prop := ∃ k : Nat, k ≤ 4 ∧ i = .int .i64 k ∧ p = .string ⟨((le4 n).take k).toArray⟩ ∧ Keeps w wr

set_option maxRecDepth 100000 in
set_option maxHeartbeats 400000 in
theorem tail_any (s : ByteArray) (w : World) (hs : s.size ≤ maxLen) :
    Calls Try.prog 26 #[.string s] w fun e w' => e = .returned (.string ⟨(le4 (sumN s.data.toList)).toArray⟩) ∧ Keeps w w' := by
  have S := Lib.hid hs
  obtain ⟨n, hn⟩ : ∃ n, n = sumN s.data.toList := ⟨_, rfl⟩
  have HL := Lib.hid (show n < two32 by rw [hn]; exact sumN_lt _)
  have HN := Lib.hid hn.symm
  rw [← hn]
  clear hs hn
  go_enter Try.func26, Try.ntmps26
  go_wp2_with (go_at_call 30; refine (sum_any _ _ S.out).mono ?_; rw [HN.out]; rintro e w' ⟨rfl, rfl⟩)
  go_loopw [4, 8] (fun p i wr => TailRel w n p i wr) (fun _ i _ => 4 - (intOf i).toNat)
  case atStart => exact ⟨0, by omega, rfl, rfl, Keeps.refl _⟩
  case round =>
    obtain ⟨k, hk, rfl, rfl, hw⟩ := hrel
    have HW := Lib.hid hw
    clear hw
    rcases (show k = 0 ∨ k = 1 ∨ k = 2 ∨ k = 3 ∨ k = 4 from by omega) with rfl | rfl | rfl | rfl | rfl
    · have H := Lib.hid (u64_small (m := ((n : Int))) (n := n) (by omega) (by have := HL.out; unfold two32 at this; omega))
      have G := Lib.hid (show n < topN from by have := HL.out; unfold two32 at this; unfold topN; omega)
      have hl : (⟨((le4 n).take 0).toArray⟩ : ByteArray).size ≤ 4 := by rw [size_mk, List.length_take]; omega
      go_wp2_with (go_at_call 18; refine (put1_any _ n _ H.out G.out).mono ?_; rintro e w1 ⟨rfl, k1⟩)
      go_roundw
      case rel => exact ⟨1, by omega, by go_num, vstr (by rw [ByteArray.mk_append_mk]; rfl), HW.out.trans k1⟩
      case measure => simp [intOf]
    · have H := Lib.hid (u64_small (m := ((n : Int) / 256)) (n := (n / 256)) (by omega) (by have := HL.out; unfold two32 at this; omega))
      have G := Lib.hid (show (n / 256) < topN from by have := HL.out; unfold two32 at this; unfold topN; omega)
      have hl : (⟨((le4 n).take 1).toArray⟩ : ByteArray).size ≤ 4 := by rw [size_mk, List.length_take]; omega
      go_wp2_with (go_at_call 18; refine (put1_any _ (n / 256) _ H.out G.out).mono ?_; rintro e w1 ⟨rfl, k1⟩)
      go_roundw
      case rel => exact ⟨2, by omega, by go_num, vstr (by rw [ByteArray.mk_append_mk]; rfl), HW.out.trans k1⟩
      case measure => simp [intOf]
    · have H := Lib.hid (u64_small (m := ((n : Int) / 65536)) (n := (n / 65536)) (by omega) (by have := HL.out; unfold two32 at this; omega))
      have G := Lib.hid (show (n / 65536) < topN from by have := HL.out; unfold two32 at this; unfold topN; omega)
      have hl : (⟨((le4 n).take 2).toArray⟩ : ByteArray).size ≤ 4 := by rw [size_mk, List.length_take]; omega
      go_wp2_with (go_at_call 18; refine (put1_any _ (n / 65536) _ H.out G.out).mono ?_; rintro e w1 ⟨rfl, k1⟩)
      go_roundw
      case rel => exact ⟨3, by omega, by go_num, vstr (by rw [ByteArray.mk_append_mk]; rfl), HW.out.trans k1⟩
      case measure => simp [intOf]
    · have H := Lib.hid (u64_small (m := ((n : Int) / 16777216)) (n := (n / 16777216)) (by omega) (by have := HL.out; unfold two32 at this; omega))
      have G := Lib.hid (show (n / 16777216) < topN from by have := HL.out; unfold two32 at this; unfold topN; omega)
      have hl : (⟨((le4 n).take 3).toArray⟩ : ByteArray).size ≤ 4 := by rw [size_mk, List.length_take]; omega
      go_wp2_with (go_at_call 18; refine (put1_any _ (n / 16777216) _ H.out G.out).mono ?_; rintro e w1 ⟨rfl, k1⟩)
      go_roundw
      case rel => exact ⟨4, by omega, by go_num, vstr (by rw [ByteArray.mk_append_mk]; rfl), HW.out.trans k1⟩
      case measure => simp [intOf]
    · go_wp2
      go_ret
      exact ⟨rfl, HW.out⟩
end Go.Proofs.Ytnjajndiljlocaa
