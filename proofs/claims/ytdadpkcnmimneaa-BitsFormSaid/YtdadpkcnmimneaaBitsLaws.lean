/- The walks of the statements of layer 2, out of the contracts. -/
import Derived.Test.YtdadpkcnmimneaaBitsRef2C
set_option linter.unusedVariables false
namespace Go.Proofs.Ytdadpkcnmimneaa
open Go.ChangeShapes Go.WideShapes Go.ChangeAt Go.RowKit Bit

theorem u64_of {n : Int} (h : (Lit.int .u64 n).wf = true) : ∃ N : Nat, n = N ∧ N < topN := by
  simp only [Lit.wf, IntKind.min, IntKind.max, IntKind.signed, IntKind.bits, Bool.and_eq_true] at h
  simp at h
  exact ⟨n.toNat, by omega, by unfold topN; omega⟩
theorem bytes_eq {l : List UInt8} {r : ByteArray} (h : l = r.data.toList) : (⟨l.toArray⟩ : ByteArray) = r := by rw [h]
theorem read_is (s : ByteArray) (v : Int) (r : ByteArray) (b : Bool) (w : World) (hs : s.size ≤ maxLen) (h : (rdV s.data.toList : Int) = v ∧ rdR s.data.toList = r.data.toList ∧ rdB s.data.toList = b) :
    Calls Try.prog 17 #[.string s] w fun e w' => e = .returned (.tuple #[.int .u64 v, .string r, .bool b]) ∧ Keeps w w' := by
  refine (read_any s w hs).mono ?_
  rintro e w' ⟨rfl, hk⟩
  exact ⟨ret3 h.1 (bytes_eq h.2.1) h.2.2, hk⟩
theorem cut_is (s : ByteArray) (t : ByteArray) (r : ByteArray) (b : Bool) (w : World) (hs : s.size ≤ maxLen) (h : ctT s.data.toList = t.data.toList ∧ ctR s.data.toList = r.data.toList ∧ ctB s.data.toList = b) :
    Calls Try.prog 19 #[.string s] w fun e w' => e = .returned (.tuple #[.string t, .string r, .bool b]) ∧ Keeps w w' := by
  refine (cut_any s w hs).mono ?_
  rintro e w' ⟨rfl, hk⟩
  exact ⟨ret3s (bytes_eq h.1) (bytes_eq h.2.1) h.2.2, hk⟩
theorem var_is (n : Int) (t : ByteArray) (w : World) (h : n = (n.toNat : Int) ∧ n.toNat < topN ∧ sev n.toNat = t.data.toList) :
    Calls Try.prog 10 #[.int .u64 n] w fun e w' => e = .returned (.string t) ∧ Keeps w w' := by
  rw [h.1]
  refine (var_any n.toNat w h.2.1).mono ?_
  rintro e w' ⟨rfl, hk⟩
  exact ⟨ret_str (bytes_eq h.2.2), hk⟩
theorem text_is (s t : ByteArray) (w : World) (h : s.size ≤ 4294967296 ∧ text s.data.toList = t.data.toList) :
    Calls Try.prog 23 #[.string s] w fun e w' => e = .returned (.string t) ∧ Keeps w w' := by
  refine (text_any s w h.1).mono ?_
  rintro e w' ⟨rfl, hk⟩
  exact ⟨ret_str (bytes_eq h.2), hk⟩
theorem sign_is (n : Int) (m : Int) (w : World) (hn : I64 n) (h : (sgn n : Int) = m) :
    Calls Try.prog 12 #[.int .i64 n] w fun e w' => e = .returned (.int .u64 m) ∧ w = w' := by
  refine (sign_any n w hn).mono ?_
  rintro e w' ⟨rfl, hk⟩
  exact ⟨ret_int h, hk⟩
theorem back_is (n : Int) (m : Int) (w : World) (h : n = (n.toNat : Int) ∧ n.toNat < topN ∧ bck n.toNat = m) :
    Calls Try.prog 14 #[.int .u64 n] w fun e w' => e = .returned (.int .i64 m) ∧ w = w' := by
  rw [h.1]
  refine (back_any n.toNat w h.2.1).mono ?_
  rintro e w' ⟨rfl, hk⟩
  exact ⟨ret_int h.2.2, hk⟩

set_option maxHeartbeats 400000 in
theorem no_none (s : ByteArray) (w : World) (hs : s.size ≤ maxLen) (h : rdB s.data.toList = false) :
    Calls Try.prog 25 #[.string s] w fun e w' => e = .returned (.bool true) ∧ Keeps w w' := by
  have S := Lib.hid hs
  have H := Lib.hid (show (rdV s.data.toList : Int) = 0 ∧ rdR s.data.toList = (ByteArray.mk #[]).data.toList ∧ rdB s.data.toList = false from ⟨by rw [(rd_no h).1]; rfl, (rd_no h).2, h⟩)
  clear hs h
  go_enter Try.func25, Try.ntmps25
  go_wp2_with (go_at_call 17; refine (read_is s 0 ⟨#[]⟩ false _ S.out H.out).mono ?_; rintro e w' ⟨rfl, hk⟩)
  go_ret
  exact ⟨rfl, hk⟩

theorem i64_lit {n : Int} (h : decide (-9223372036854775808 ≤ n) && decide (n ≤ 9223372036854775807) = true) : I64 n := by
  simp at h; unfold I64 top; omega

set_option maxRecDepth 100000 in
set_option maxHeartbeats 2000000 in
theorem shifted_any (w : World) :
    Calls Try.prog 16 #[] w fun e w' => e = .returned (.bool true) ∧ Keeps w w' := by
  go_enter Try.func16, Try.ntmps16
  go_wp2_with (first
    | (go_at_call 17; (with_reducible refine (read_is ⟨#[172, 2, 120]⟩ 300 ⟨#[120]⟩ true _ (by decide +kernel) (by decide +kernel)).mono ?_); rintro e w' ⟨rfl, hk⟩)
    | (go_at_call 19; (with_reducible refine (cut_is ⟨#[2, 97, 98, 99]⟩ ⟨#[97, 98]⟩ ⟨#[99]⟩ true _ (by decide +kernel) (by decide +kernel)).mono ?_); rintro e w' ⟨rfl, hk⟩)
    | (go_at_call 19; (with_reducible refine (cut_is ⟨#[3, 97, 98]⟩ ⟨#[]⟩ ⟨#[]⟩ false _ (by decide +kernel) (by decide +kernel)).mono ?_); rintro e w' ⟨rfl, hk⟩)
    | (go_at_call 10; first
        | ((with_reducible refine (var_is 0 ⟨#[0]⟩ _ (by decide +kernel)).mono ?_); rintro e w' ⟨rfl, hk⟩)
        | ((with_reducible refine (var_is 127 ⟨#[127]⟩ _ (by decide +kernel)).mono ?_); rintro e w' ⟨rfl, hk⟩)
        | ((with_reducible refine (var_is 300 ⟨#[172, 2]⟩ _ (by decide +kernel)).mono ?_); rintro e w' ⟨rfl, hk⟩))
    | (go_at_call 25; refine (no_none _ _ (by decide +kernel) (by decide +kernel)).mono ?_; rintro e w' ⟨rfl, hk⟩)
    | (go_at_call 12; refine (sign_is (-3) 5 _ (i64_lit (by decide)) (by decide +kernel)).mono ?_; rintro e w' ⟨rfl, rfl⟩)
    | (go_at_call 14; first
        | ((with_reducible refine (back_is 5 (-3) _ (by decide +kernel)).mono ?_); rintro e w' ⟨rfl, rfl⟩)
        | ((with_reducible refine (back_is 4 2 _ (by decide +kernel)).mono ?_); rintro e w' ⟨rfl, rfl⟩))
    | (go_at_call 23; refine (text_is ⟨#[97, 98]⟩ ⟨#[2, 97, 98]⟩ _ (by decide +kernel)).mono ?_; rintro e w' ⟨rfl, hk⟩))
  go_ret
  exact ⟨rfl, by repeat (first | assumption | exact Keeps.refl _ | refine Keeps.trans ?_ (by assumption))⟩

theorem str_beq (s : ByteArray) : (s.toList == s.toList) = true := by simp

set_option maxRecDepth 100000 in
set_option maxHeartbeats 2000000 in
theorem bitsTell_go (n m S : Int) (w : World) (hn : (Lit.int .u64 n).wf = true) (hm : (Lit.int .i64 m).wf = true) (hS : (Lit.int .i64 S).wf = true) :
    Calls Try.prog 3 #[.int .u64 n, .int .i64 m, .int .i64 S] w fun e w' => e = .returned (.bool true) ∧ Keeps w w' := by
  obtain ⟨N, rfl, hN⟩ := u64_of hn
  have HN := Lib.hid hN
  have HM := Lib.hid (i64_of hm)
  clear hn hm hS hN
  go_enter Try.func3, Try.ntmps3
  go_wp2
  go_loopw [7] (fun i wr => ∃ j : Int, -1 ≤ j ∧ j ≤ 10 ∧ i = .int .i64 j ∧ Keeps w wr) (fun i _ => (10 - intOf i).toNat)
  case atStart => exact ⟨-1, by omega, by omega, rfl, Keeps.refl _⟩
  case round =>
    obtain ⟨j, h1, h2, rfl, hk⟩ := hrel
    have K := Lib.hid hk
    clear hk
    by_cases hj : j < 10
    · go_wp2_with (first
        | (go_at_call 8; refine (put_any _ _ _ HN.out).mono ?_; rintro e w1 ⟨rfl, k1⟩)
        | (go_at_call 9; refine (rput_any _ _ _ HN.out).mono ?_; rintro e w2 ⟨rfl, k2⟩))
      go_roundw
      case rel => exact ⟨j + 1, by omega, by omega, by go_num, K.out.trans (k1.trans k2)⟩
      case measure => simp [intOf]; omega
    · have k0 := K.out
      go_wp2_with (first
        | (go_at_call 8; refine (put_any _ _ _ HN.out).mono ?_; rintro e w1 ⟨rfl, k1⟩)
        | (go_at_call 9; refine (rput_any _ _ _ HN.out).mono ?_; rintro e w2 ⟨rfl, k2⟩)
        | (go_at_call 10; refine (var_any _ _ HN.out).mono ?_; rintro e w3 ⟨rfl, k3⟩)
        | (go_at_call 11; refine (rvar_any' _ _ HN.out).mono ?_; rintro e w4 ⟨rfl, k4⟩)
        | (go_at_call 12; refine (sign_any _ _ HM.out).mono ?_; rintro e w' ⟨rfl, rfl⟩)
        | (go_at_call 13; refine (rsign_any _ _ HM.out).mono ?_; rintro e w' ⟨rfl, rfl⟩)
        | (go_at_call 14; refine (back_any _ _ HN.out).mono ?_; rintro e w' ⟨rfl, rfl⟩)
        | (go_at_call 15; refine (rback_any _ _ HN.out).mono ?_; rintro e w' ⟨rfl, rfl⟩)
        | (go_at_call 16; refine (shifted_any _).mono ?_; rintro e w' ⟨rfl, hk⟩))
      go_ret
      exact ⟨rfl, by repeat (first | assumption | exact Keeps.refl _ | refine Keeps.trans ?_ (by assumption))⟩

set_option maxRecDepth 100000 in
set_option maxHeartbeats 2000000 in
theorem bitsRead_go (s : ByteArray) (w : World) (hs : s.size ≤ maxLen) :
    Calls Try.prog 4 #[.string s] w fun e w' => e = .returned (.bool true) ∧ Keeps w w' := by
  have S := Lib.hid hs
  by_cases hl : 2000 < s.size
  · clear hs
    go_enter Try.func4, Try.ntmps4
    go_wp2_with (go_at_call 16; refine (shifted_any _).mono ?_; rintro e w' ⟨rfl, hk⟩)
    go_ret
    exact ⟨rfl, hk⟩
  have S2 := Lib.hid (show s.size ≤ 4294967296 by omega)
  clear hs
  go_enter Try.func4, Try.ntmps4
  go_wp2_with (first
    | (go_at_call 17; refine (read_any _ _ S.out).mono ?_; rintro e w1 ⟨rfl, k1⟩)
    | (go_at_call 18; refine (rread_any _ _ S.out).mono ?_; rintro e w2 ⟨rfl, k2⟩)
    | (go_at_call 19; refine (cut_any _ _ S.out).mono ?_; rintro e w3 ⟨rfl, k3⟩)
    | (go_at_call 20; refine (rcut_any _ _ S.out).mono ?_; rintro e w4 ⟨rfl, k4⟩)
    | (go_at_call 21; refine (get_any _ _ S.out).mono ?_; rintro e w' ⟨rfl, rfl⟩)
    | (go_at_call 22; refine (rget_any _ _ S.out).mono ?_; rintro e w' ⟨rfl, rfl⟩)
    | (go_at_call 23; refine (text_any _ _ S2.out).mono ?_; rintro e w5 ⟨rfl, k5⟩)
    | (go_at_call 24; refine (rtext_any _ _ S2.out).mono ?_; rintro e w6 ⟨rfl, k6⟩)
    | (go_at_call 16; refine (shifted_any _).mono ?_; rintro e w' ⟨rfl, hk⟩))
  go_ret
  exact ⟨rfl, by repeat (first | assumption | exact Keeps.refl _ | refine Keeps.trans ?_ (by assumption))⟩
end Go.Proofs.Ytdadpkcnmimneaa
