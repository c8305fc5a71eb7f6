
/- The document's keys: Check, Party, Undoes, Word, Deed, Less. -/
import Derived.Test.YtomonhghioamfaaGreatDoorMoneyRefC
import Derived.Test.YtomonhghioamfaaGreatDoorKyMath
import Derived.WalkKit
import Derived.LoopN
set_option linter.unusedVariables false
namespace Go.Proofs.YtomonhghioamfaaGreatDoor
open Go.ChangeShapes Go.WideShapes Go.ChangeAt Go.RowKit Mon Ky

abbrev tKy : TypeId := 51
def kyV (o d : Int) : Value := .agg #[.int .i64 o, .int .i64 d]
def wordS (d : Int) : ByteArray := ⟨(wordB d).toArray⟩
theorem ky_box (w : World) (o : Obj) : Keeps w (w.alloc o) := (Below.refl _ w).alloc (Nat.le_refl _) _
theorem kr_check (o d : Int) (w : World) : Calls Tryz.prog 82 #[kyV o d] w fun e w' => e = .returned (.bool (checkK o d)) ∧ Keeps w w' := by
  unfold kyV
  have no : ¬ Chk o d → checkK o d = false := fun h => by
    cases hc : checkK o d with
    | false => rfl
    | true => exact absurd (check_iff.1 hc) h
  by_cases h1 : 0 < o
  rotate_left
  · have H := Lib.hid (no fun h => h1 h.o0)
    clear no
    go_enter Tryz.func82, Tryz.ntmps82
    go_wp2
    go_ret
    exact ⟨by rw [H.out]; rfl, ky_box _ _⟩
  by_cases h2 : o < 61
  rotate_left
  · have H := Lib.hid (no fun h => h2 h.o1)
    clear no
    go_enter Tryz.func82, Tryz.ntmps82
    go_wp2
    go_ret
    exact ⟨by rw [H.out]; rfl, ky_box _ _⟩
  by_cases h3 : 0 ≤ d
  rotate_left
  · have H := Lib.hid (no fun h => h3 h.d0)
    clear no
    go_enter Tryz.func82, Tryz.ntmps82
    go_wp2
    go_ret
    exact ⟨by rw [H.out]; rfl, ky_box _ _⟩
  by_cases h4 : d < 6
  rotate_left
  · have H := Lib.hid (no fun h => h4 h.d1)
    clear no
    go_enter Tryz.func82, Tryz.ntmps82
    go_wp2
    go_ret
    exact ⟨by rw [H.out]; rfl, ky_box _ _⟩
  have H := Lib.hid (check_iff.2 (⟨h1, h2, h3, h4⟩ : Chk o d))
  clear no
  go_enter Tryz.func82, Tryz.ntmps82
  go_wp2
  go_ret
  exact ⟨by rw [H.out]; rfl, ky_box _ _⟩
/-- A number is one of the deeds', or below, or above. -/
theorem ky_parts (d : Int) : d < 0 ∨ 5 < d ∨ d = 0 ∨ d = 1 ∨ d = 2 ∨ d = 3 ∨ d = 4 ∨ d = 5 := by omega
theorem kr_party (d : Int) (w : World) : Calls Tryz.prog 83 #[.int .i64 d] w fun e w' => e = .returned (.int .i64 (partyK d)) ∧ w = w' := by
  rcases ky_parts d with h | h | rfl | rfl | rfl | rfl | rfl | rfl
  · have E : Hid (partyK d = -1) := Lib.hid (by unfold partyK; rw [if_neg (by omega)])
    go_enter Tryz.func83, Tryz.ntmps83
    go_wp2
    go_ret
    exact ⟨by rw [E.out]; rfl, rfl⟩
  · have E : Hid (partyK d = -1) := Lib.hid (by unfold partyK; rw [if_neg (by omega)])
    have h0 : ¬ d < 0 := by omega
    go_enter Tryz.func83, Tryz.ntmps83
    go_wp2
    go_ret
    exact ⟨by rw [E.out]; rfl, rfl⟩
  all_goals (go_enter Tryz.func83, Tryz.ntmps83; go_wp2; go_ret; exact ⟨rfl, rfl⟩)
def wordsV : Value := .agg #[.string ⟨#[114, 101, 115, 101, 114, 118, 101]⟩, .string ⟨#[99, 104, 97, 114, 103, 101]⟩, .string ⟨#[115, 104, 105, 112]⟩, .string ⟨#[114, 101, 108, 101, 97, 115, 101]⟩, .string ⟨#[114, 101, 102, 117, 110, 100]⟩, .string ⟨#[118, 111, 105, 100]⟩]
theorem kr_words (w : World) : Calls Tryz.prog 52 #[] w fun e w' => e = .returned wordsV ∧ Keeps w w' := by
  go_enter Tryz.func52, Tryz.ntmps52
  go_wp2
  exact bodyPost_ret (v := wordsV) (by simp [results, Tryz.results52, go_sem, wordsV]) rfl ⟨rfl, ky_box _ _⟩
theorem kidx_0 : ∀ w, (Instr.index 95 (.agg #[.string ⟨#[114, 101, 115, 101, 114, 118, 101]⟩, .string ⟨#[99, 104, 97, 114, 103, 101]⟩, .string ⟨#[115, 104, 105, 112]⟩, .string ⟨#[114, 101, 108, 101, 97, 115, 101]⟩, .string ⟨#[114, 101, 102, 117, 110, 100]⟩, .string ⟨#[118, 111, 105, 100]⟩]) (.int .i64 0)).run Tryz.prog w = .ok (.string ⟨#[114, 101, 115, 101, 114, 118, 101]⟩) w := fun _ => by kernel_rfl
theorem kidx_1 : ∀ w, (Instr.index 95 (.agg #[.string ⟨#[114, 101, 115, 101, 114, 118, 101]⟩, .string ⟨#[99, 104, 97, 114, 103, 101]⟩, .string ⟨#[115, 104, 105, 112]⟩, .string ⟨#[114, 101, 108, 101, 97, 115, 101]⟩, .string ⟨#[114, 101, 102, 117, 110, 100]⟩, .string ⟨#[118, 111, 105, 100]⟩]) (.int .i64 1)).run Tryz.prog w = .ok (.string ⟨#[99, 104, 97, 114, 103, 101]⟩) w := fun _ => by kernel_rfl
theorem kidx_2 : ∀ w, (Instr.index 95 (.agg #[.string ⟨#[114, 101, 115, 101, 114, 118, 101]⟩, .string ⟨#[99, 104, 97, 114, 103, 101]⟩, .string ⟨#[115, 104, 105, 112]⟩, .string ⟨#[114, 101, 108, 101, 97, 115, 101]⟩, .string ⟨#[114, 101, 102, 117, 110, 100]⟩, .string ⟨#[118, 111, 105, 100]⟩]) (.int .i64 2)).run Tryz.prog w = .ok (.string ⟨#[115, 104, 105, 112]⟩) w := fun _ => by kernel_rfl
theorem kidx_3 : ∀ w, (Instr.index 95 (.agg #[.string ⟨#[114, 101, 115, 101, 114, 118, 101]⟩, .string ⟨#[99, 104, 97, 114, 103, 101]⟩, .string ⟨#[115, 104, 105, 112]⟩, .string ⟨#[114, 101, 108, 101, 97, 115, 101]⟩, .string ⟨#[114, 101, 102, 117, 110, 100]⟩, .string ⟨#[118, 111, 105, 100]⟩]) (.int .i64 3)).run Tryz.prog w = .ok (.string ⟨#[114, 101, 108, 101, 97, 115, 101]⟩) w := fun _ => by kernel_rfl
theorem kidx_4 : ∀ w, (Instr.index 95 (.agg #[.string ⟨#[114, 101, 115, 101, 114, 118, 101]⟩, .string ⟨#[99, 104, 97, 114, 103, 101]⟩, .string ⟨#[115, 104, 105, 112]⟩, .string ⟨#[114, 101, 108, 101, 97, 115, 101]⟩, .string ⟨#[114, 101, 102, 117, 110, 100]⟩, .string ⟨#[118, 111, 105, 100]⟩]) (.int .i64 4)).run Tryz.prog w = .ok (.string ⟨#[114, 101, 102, 117, 110, 100]⟩) w := fun _ => by kernel_rfl
theorem kidx_5 : ∀ w, (Instr.index 95 (.agg #[.string ⟨#[114, 101, 115, 101, 114, 118, 101]⟩, .string ⟨#[99, 104, 97, 114, 103, 101]⟩, .string ⟨#[115, 104, 105, 112]⟩, .string ⟨#[114, 101, 108, 101, 97, 115, 101]⟩, .string ⟨#[114, 101, 102, 117, 110, 100]⟩, .string ⟨#[118, 111, 105, 100]⟩]) (.int .i64 5)).run Tryz.prog w = .ok (.string ⟨#[118, 111, 105, 100]⟩) w := fun _ => by kernel_rfl
theorem kr_word (d : Int) (w : World) : Calls Tryz.prog 21 #[.int .i64 d] w fun e w' => e = .returned (.string (wordS d)) ∧ Keeps w w' := by
  have HW := Lib.hid (kr_words w)
  unfold wordsV at HW
  have i0 := kidx_0
  have i1 := kidx_1
  have i2 := kidx_2
  have i3 := kidx_3
  have i4 := kidx_4
  have i5 := kidx_5
  rcases ky_parts d with h | h | rfl | rfl | rfl | rfl | rfl | rfl
  · have E : Hid (wordS d = ⟨#[]⟩) := Lib.hid (by unfold wordS; rw [word_none (by omega)])
    go_enter Tryz.func21, Tryz.ntmps21
    go_wp2
    go_ret
    exact ⟨by rw [E.out]; rfl, Keeps.refl _⟩
  · have E : Hid (wordS d = ⟨#[]⟩) := Lib.hid (by unfold wordS; rw [word_none (by omega)])
    have h0 : ¬ d < 0 := by omega
    go_enter Tryz.func21, Tryz.ntmps21
    go_wp2
    go_ret
    exact ⟨by rw [E.out]; rfl, Keeps.refl _⟩
  all_goals (go_enter Tryz.func21, Tryz.ntmps21; go_wp2_with fail; refine HW.out.mono ?_; rintro e w2 ⟨rfl, k2⟩; have K2 := Lib.hid k2; clear k2; go_wp2; go_ret; exact ⟨rfl, K2.out⟩)
/-- No deed below has the word. -/
def NoWord (s : ByteArray) (n : Int) : Prop := ∀ d, 0 ≤ d → d < n → wordB d ≠ s.data.toList
theorem NoWord.next {s : ByteArray} {n : Int} (h : NoWord s n) (hn : wordS n ≠ s) : NoWord s (n + 1) := fun d h0 h1 e => by
  by_cases hd : d = n
  · subst hd
    exact hn (bytes_inj (by unfold wordS; rw [← e]))
  · exact h d h0 (by omega) e
theorem bytes_eq {a b : ByteArray} (h : a ≠ b) : (a.toList == b.toList) = false := by
  rw [ByteArray.toList_eq, ByteArray.toList_eq, beq_eq_false_iff_ne]
  exact fun e => h (bytes_inj e)
set_option maxHeartbeats 4000000 in
theorem kr_deed (s : ByteArray) (w : World) : Calls Tryz.prog 63 #[.string s] w fun e w' => e = .returned (.tuple #[.int .i64 (deedV s.data.toList), .bool (deedB s.data.toList)]) ∧ Keeps w w' := by
  have HW := Lib.hid fun w => kr_words w
  unfold wordsV at HW
  go_enter Tryz.func63, Tryz.ntmps63
  go_wp2
  go_loopw [4] (fun v4 wr => ∃ n : Int, 0 ≤ n ∧ n ≤ 6 ∧ v4 = .int .i64 n ∧ NoWord s n ∧ Keeps w wr) (fun v4 _ => (6 - intOf v4).toNat)
  case atStart => exact ⟨0, by omega, by omega, rfl, (fun d h0 h1 => by omega), Keeps.refl _⟩
  case round =>
    obtain ⟨n, h0, h6, rfl, hno, hk⟩ := hrel
    have HNO := Lib.hid hno
    have HK := Lib.hid hk
    clear hno hk
    by_cases hn : n < 6
    · have step : ∀ m : Int, n = m → wordS m = s → Hid (deedV s.data.toList = m ∧ deedB s.data.toList = true) := fun m e hs => Lib.hid (by
        subst e
        have := deed_word h0 hn
        have e2 : wordB n = s.data.toList := by rw [← hs]; unfold wordS; rfl
        rw [← e2]
        exact ⟨this.2, this.1⟩)
      have STEP := Lib.hid step
      clear step
      rcases six h0 hn with rfl | rfl | rfl | rfl | rfl | rfl
      · obtain ⟨X, hX⟩ : ∃ X, wordS 0 = X := ⟨_, rfl⟩
        have ii : ∀ w, (Instr.index 95 (.agg #[.string ⟨#[114, 101, 115, 101, 114, 118, 101]⟩, .string ⟨#[99, 104, 97, 114, 103, 101]⟩, .string ⟨#[115, 104, 105, 112]⟩, .string ⟨#[114, 101, 108, 101, 97, 115, 101]⟩, .string ⟨#[114, 101, 102, 117, 110, 100]⟩, .string ⟨#[118, 111, 105, 100]⟩]) (.int .i64 0)).run Tryz.prog w = .ok (.string X) w := fun w => by rw [← hX]; exact kidx_0 w
        by_cases hs : X = s
        · have E := STEP.out 0 rfl (hX.trans hs)
          subst hs
          have t : (X.toList == X.toList) = true := by simp
          clear hX
          go_wp2_with fail
          refine (HW.out _).mono ?_
          rintro e w2 ⟨rfl, k2⟩
          have K2 := Lib.hid (HK.out.trans k2)
          clear k2
          go_wp2
          go_ret2
          exact ⟨by rw [E.out.1, E.out.2]; rfl, K2.out⟩
        · have HN2 := Lib.hid (HNO.out.next (fun e => hs (hX.symm.trans e)))
          have t := bytes_eq hs
          clear hs hX
          go_wp2_with fail
          refine (HW.out _).mono ?_
          rintro e w2 ⟨rfl, k2⟩
          have K2 := Lib.hid (HK.out.trans k2)
          clear k2
          go_wp2
          exact ⟨⟨1, by omega, by omega, rfl, HN2.out, K2.out⟩, by simp [intOf]⟩
      · obtain ⟨X, hX⟩ : ∃ X, wordS 1 = X := ⟨_, rfl⟩
        have ii : ∀ w, (Instr.index 95 (.agg #[.string ⟨#[114, 101, 115, 101, 114, 118, 101]⟩, .string ⟨#[99, 104, 97, 114, 103, 101]⟩, .string ⟨#[115, 104, 105, 112]⟩, .string ⟨#[114, 101, 108, 101, 97, 115, 101]⟩, .string ⟨#[114, 101, 102, 117, 110, 100]⟩, .string ⟨#[118, 111, 105, 100]⟩]) (.int .i64 1)).run Tryz.prog w = .ok (.string X) w := fun w => by rw [← hX]; exact kidx_1 w
        by_cases hs : X = s
        · have E := STEP.out 1 rfl (hX.trans hs)
          subst hs
          have t : (X.toList == X.toList) = true := by simp
          clear hX
          go_wp2_with fail
          refine (HW.out _).mono ?_
          rintro e w2 ⟨rfl, k2⟩
          have K2 := Lib.hid (HK.out.trans k2)
          clear k2
          go_wp2
          go_ret2
          exact ⟨by rw [E.out.1, E.out.2]; rfl, K2.out⟩
        · have HN2 := Lib.hid (HNO.out.next (fun e => hs (hX.symm.trans e)))
          have t := bytes_eq hs
          clear hs hX
          go_wp2_with fail
          refine (HW.out _).mono ?_
          rintro e w2 ⟨rfl, k2⟩
          have K2 := Lib.hid (HK.out.trans k2)
          clear k2
          go_wp2
          exact ⟨⟨2, by omega, by omega, rfl, HN2.out, K2.out⟩, by simp [intOf]⟩
      · obtain ⟨X, hX⟩ : ∃ X, wordS 2 = X := ⟨_, rfl⟩
        have ii : ∀ w, (Instr.index 95 (.agg #[.string ⟨#[114, 101, 115, 101, 114, 118, 101]⟩, .string ⟨#[99, 104, 97, 114, 103, 101]⟩, .string ⟨#[115, 104, 105, 112]⟩, .string ⟨#[114, 101, 108, 101, 97, 115, 101]⟩, .string ⟨#[114, 101, 102, 117, 110, 100]⟩, .string ⟨#[118, 111, 105, 100]⟩]) (.int .i64 2)).run Tryz.prog w = .ok (.string X) w := fun w => by rw [← hX]; exact kidx_2 w
        by_cases hs : X = s
        · have E := STEP.out 2 rfl (hX.trans hs)
          subst hs
          have t : (X.toList == X.toList) = true := by simp
          clear hX
          go_wp2_with fail
          refine (HW.out _).mono ?_
          rintro e w2 ⟨rfl, k2⟩
          have K2 := Lib.hid (HK.out.trans k2)
          clear k2
          go_wp2
          go_ret2
          exact ⟨by rw [E.out.1, E.out.2]; rfl, K2.out⟩
        · have HN2 := Lib.hid (HNO.out.next (fun e => hs (hX.symm.trans e)))
          have t := bytes_eq hs
          clear hs hX
          go_wp2_with fail
          refine (HW.out _).mono ?_
          rintro e w2 ⟨rfl, k2⟩
          have K2 := Lib.hid (HK.out.trans k2)
          clear k2
          go_wp2
          exact ⟨⟨3, by omega, by omega, rfl, HN2.out, K2.out⟩, by simp [intOf]⟩
      · obtain ⟨X, hX⟩ : ∃ X, wordS 3 = X := ⟨_, rfl⟩
        have ii : ∀ w, (Instr.index 95 (.agg #[.string ⟨#[114, 101, 115, 101, 114, 118, 101]⟩, .string ⟨#[99, 104, 97, 114, 103, 101]⟩, .string ⟨#[115, 104, 105, 112]⟩, .string ⟨#[114, 101, 108, 101, 97, 115, 101]⟩, .string ⟨#[114, 101, 102, 117, 110, 100]⟩, .string ⟨#[118, 111, 105, 100]⟩]) (.int .i64 3)).run Tryz.prog w = .ok (.string X) w := fun w => by rw [← hX]; exact kidx_3 w
        by_cases hs : X = s
        · have E := STEP.out 3 rfl (hX.trans hs)
          subst hs
          have t : (X.toList == X.toList) = true := by simp
          clear hX
          go_wp2_with fail
          refine (HW.out _).mono ?_
          rintro e w2 ⟨rfl, k2⟩
          have K2 := Lib.hid (HK.out.trans k2)
          clear k2
          go_wp2
          go_ret2
          exact ⟨by rw [E.out.1, E.out.2]; rfl, K2.out⟩
        · have HN2 := Lib.hid (HNO.out.next (fun e => hs (hX.symm.trans e)))
          have t := bytes_eq hs
          clear hs hX
          go_wp2_with fail
          refine (HW.out _).mono ?_
          rintro e w2 ⟨rfl, k2⟩
          have K2 := Lib.hid (HK.out.trans k2)
          clear k2
          go_wp2
          exact ⟨⟨4, by omega, by omega, rfl, HN2.out, K2.out⟩, by simp [intOf]⟩
      · obtain ⟨X, hX⟩ : ∃ X, wordS 4 = X := ⟨_, rfl⟩
        have ii : ∀ w, (Instr.index 95 (.agg #[.string ⟨#[114, 101, 115, 101, 114, 118, 101]⟩, .string ⟨#[99, 104, 97, 114, 103, 101]⟩, .string ⟨#[115, 104, 105, 112]⟩, .string ⟨#[114, 101, 108, 101, 97, 115, 101]⟩, .string ⟨#[114, 101, 102, 117, 110, 100]⟩, .string ⟨#[118, 111, 105, 100]⟩]) (.int .i64 4)).run Tryz.prog w = .ok (.string X) w := fun w => by rw [← hX]; exact kidx_4 w
        by_cases hs : X = s
        · have E := STEP.out 4 rfl (hX.trans hs)
          subst hs
          have t : (X.toList == X.toList) = true := by simp
          clear hX
          go_wp2_with fail
          refine (HW.out _).mono ?_
          rintro e w2 ⟨rfl, k2⟩
          have K2 := Lib.hid (HK.out.trans k2)
          clear k2
          go_wp2
          go_ret2
          exact ⟨by rw [E.out.1, E.out.2]; rfl, K2.out⟩
        · have HN2 := Lib.hid (HNO.out.next (fun e => hs (hX.symm.trans e)))
          have t := bytes_eq hs
          clear hs hX
          go_wp2_with fail
          refine (HW.out _).mono ?_
          rintro e w2 ⟨rfl, k2⟩
          have K2 := Lib.hid (HK.out.trans k2)
          clear k2
          go_wp2
          exact ⟨⟨5, by omega, by omega, rfl, HN2.out, K2.out⟩, by simp [intOf]⟩
      · obtain ⟨X, hX⟩ : ∃ X, wordS 5 = X := ⟨_, rfl⟩
        have ii : ∀ w, (Instr.index 95 (.agg #[.string ⟨#[114, 101, 115, 101, 114, 118, 101]⟩, .string ⟨#[99, 104, 97, 114, 103, 101]⟩, .string ⟨#[115, 104, 105, 112]⟩, .string ⟨#[114, 101, 108, 101, 97, 115, 101]⟩, .string ⟨#[114, 101, 102, 117, 110, 100]⟩, .string ⟨#[118, 111, 105, 100]⟩]) (.int .i64 5)).run Tryz.prog w = .ok (.string X) w := fun w => by rw [← hX]; exact kidx_5 w
        by_cases hs : X = s
        · have E := STEP.out 5 rfl (hX.trans hs)
          subst hs
          have t : (X.toList == X.toList) = true := by simp
          clear hX
          go_wp2_with fail
          refine (HW.out _).mono ?_
          rintro e w2 ⟨rfl, k2⟩
          have K2 := Lib.hid (HK.out.trans k2)
          clear k2
          go_wp2
          go_ret2
          exact ⟨by rw [E.out.1, E.out.2]; rfl, K2.out⟩
        · have HN2 := Lib.hid (HNO.out.next (fun e => hs (hX.symm.trans e)))
          have t := bytes_eq hs
          clear hs hX
          go_wp2_with fail
          refine (HW.out _).mono ?_
          rintro e w2 ⟨rfl, k2⟩
          have K2 := Lib.hid (HK.out.trans k2)
          clear k2
          go_wp2
          exact ⟨⟨6, by omega, by omega, rfl, HN2.out, K2.out⟩, by simp [intOf]⟩
    · obtain rfl : n = 6 := by omega
      have E := Lib.hid (deed_none (s := s.data.toList) fun d h0 h1 => HNO.out d h0 h1)
      go_wp2
      go_ret2
      exact ⟨by rw [E.out.1, E.out.2]; rfl, HK.out⟩
theorem kr_less (o d o' d' : Int) (w : World) : Calls Tryz.prog 64 #[kyV o d, kyV o' d'] w fun e w' => e = .returned (.bool (lessK o d o' d')) ∧ Keeps w w' := by
  unfold kyV
  have K := Lib.hid (Keeps.trans (ky_box w (.cells #[.int .i64 o, .int .i64 d] tKy)) (ky_box _ (.cells #[.int .i64 o', .int .i64 d'] tKy)))
  by_cases h : o = o'
  · subst h
    have E : Hid (lessK o d o d' = decide (d < d')) := Lib.hid (by unfold lessK; simp)
    go_enter Tryz.func64, Tryz.ntmps64
    go_wp2
    go_ret
    exact ⟨by rw [E.out]; rfl, K.out⟩
  · have E : Hid (lessK o d o' d' = decide (o < o')) := Lib.hid (by unfold lessK; simp [h])
    have t : (o != o') = true := by simpa using h
    clear h
    go_enter Tryz.func64, Tryz.ntmps64
    go_wp2
    go_ret
    exact ⟨by rw [E.out]; rfl, K.out⟩
end Go.Proofs.YtomonhghioamfaaGreatDoor
