/- The program's rows: isParty, may. -/
import Derived.Test.YthnjjeofpemdoaaDoorRwMem
import Derived.Test.YthnjjeofpemdoaaDoorKyC1
set_option linter.unusedVariables false
namespace Go.Proofs.YthnjjeofpemdoaaDoor
open Go.ChangeShapes Go.WideShapes Go.ChangeAt Go.RowKit Bit Ky Rw Csv

theorem pw_isParty (p : Int) (b : Bool) (w : World) (h : decide (0 ≤ p ∧ p ≤ 2) = b) : Calls Tryd.prog 20 #[.int .i64 p] w fun e w' => e = .returned (.bool b) ∧ w = w' := by
  have E := Lib.hid h
  clear h
  rcases (show p = 0 ∨ p = 1 ∨ p = 2 ∨ (p ≠ 0 ∧ p ≠ 1 ∧ p ≠ 2) from by omega) with rfl | rfl | rfl | ⟨h0, h1, h2⟩
  · go_enter Tryd.func20, Tryd.ntmps20
    go_wp2
    go_ret
    exact ⟨ret_bool E.out, rfl⟩
  · go_enter Tryd.func20, Tryd.ntmps20
    go_wp2
    go_ret
    exact ⟨ret_bool E.out, rfl⟩
  · go_enter Tryd.func20, Tryd.ntmps20
    go_wp2
    go_ret
    exact ⟨ret_bool E.out, rfl⟩
  · have F : Hid (false = b) := Lib.hid (by rw [← E.out]; exact (decide_eq_false (by omega)).symm)
    have t0 := beq_eq_false_iff_ne.2 h0
    have t1 := beq_eq_false_iff_ne.2 h1
    have t2 := beq_eq_false_iff_ne.2 h2
    clear h0 h1 h2
    go_enter Tryd.func20, Tryd.ntmps20
    go_wp2
    go_ret
    exact ⟨ret_bool F.out, rfl⟩
set_option maxHeartbeats 4000000 in
set_option maxRecDepth 100000 in
theorem pw_may (x : R) (p : Int) (b : Bool) (w : World) (hp : HasP w) (h : rowB p x = b) : Calls Tryd.prog 21 #[rwV x, .int .i64 p] w fun e w' => e = .returned (.bool b) ∧ Keeps w w' := by
  have KB := Lib.hid (ky_box w (.cells #[.int .i64 x.o, .int .i64 x.d, .int .i64 x.c, .int .i64 x.a, .int .i64 x.q] tRw))
  have CX := Lib.hid (rw_cells w x)
  have HP := Lib.hid hp
  have YES : Hid (Row1 p x → true = b) := Lib.hid fun r => by rw [← h]; exact (row_iff.2 r).symm
  have NO : Hid (¬ Row1 p x → false = b) := Lib.hid fun r => by
    cases b with
    | false => rfl
    | true => exact absurd (row_iff.1 h) r
  obtain ⟨b1, hb⟩ : ∃ b, checkK x.o x.d = b := ⟨_, rfl⟩
  have HB := Lib.hid hb
  have C1 := Lib.hid fun W => hb ▸ pk_check x.o x.d W
  obtain ⟨t, ht⟩ : ∃ b, partyK x.d = b := ⟨_, rfl⟩
  have HT := Lib.hid ht
  have C2 : Hid (∀ W, HasP W → Calls Tryd.prog 36 #[.int .i64 x.d] W fun e w' => e = .returned (.int .i64 t) ∧ W = w') := Lib.hid fun W hW => ht ▸ pk_party x.d W hW
  unfold kyV at C1
  unfold rwV
  clear hb ht h hp
  go_enter Tryd.func21, Tryd.ntmps21
  go_wp2_with fail
  refine (C1.out _).mono ?_
  rintro e w2 ⟨rfl, k2⟩
  have KX := Lib.hid k2
  have K2 := Lib.hid (KB.out.trans k2)
  have HP2 := Lib.hid (HP.out.keeps K2.out)
  obtain ⟨z0, z1, z2, z3, z4⟩ := CX.out _ k2
  clear k2 C1
  cases b1 with
  | false =>
    have E := Lib.hid (NO.out fun r => by have := HB.out; rw [check_iff.2 r.key] at this; cases this)
    go_wp2
    go_ret
    exact ⟨ret_bool E.out, K2.out⟩
  | true =>
    go_wp2_with fail
    refine (C2.out _ HP2.out).mono ?_
    rintro e w3 ⟨rfl, rfl⟩
    by_cases htp : t = p
    rotate_left
    · have E := Lib.hid (NO.out fun r => htp (by rw [← HT.out]; exact r.party))
      have T1 : (t == p) = false := by rw [beq_eq_false_iff_ne]; exact htp
      have T2 : (t != p) = true := by rw [bne, T1]; rfl
      clear htp
      go_wp2
      go_ret
      exact ⟨ret_bool E.out, K2.out⟩
    subst htp
    clear C2
    obtain ⟨o, d, c, a, q⟩ := x
    dsimp only at z0 z1 z2 z3 z4 HB HT
    have HK : Hid (Chk o d) := Lib.hid (check_iff.1 HB.out)
    rcases (show (c ≠ 1 ∧ c ≠ 2) ∨ (c = 2 ∧ a = 0 ∧ q = 0) ∨ (c = 2 ∧ a ≠ 0) ∨ (c = 2 ∧ a = 0 ∧ q ≠ 0) ∨ c = 1 from by omega) with ⟨h1, h2⟩ | ⟨rfl, rfl, rfl⟩ | ⟨rfl, h1⟩ | ⟨rfl, rfl, h1⟩ | rfl
    · have E := Lib.hid (NO.out fun r => by have := r.c1; have := r.c2; simp only at *; omega)
      have t1 := beq_eq_false_iff_ne.2 h1
      have t2 := beq_eq_false_iff_ne.2 h2
      clear h1 h2
      go_wp2
      go_ret
      exact ⟨ret_bool E.out, K2.out⟩
    · have E := Lib.hid (YES.out ⟨HK.out, HT.out, by simp, by simp, by simp, by simp, by simp, by simp, by simp, by simp⟩)
      go_wp2
      go_ret
      exact ⟨ret_bool E.out, K2.out⟩
    · have E := Lib.hid (NO.out fun r => by have := r.za h1; simp at this)
      have t1 := beq_eq_false_iff_ne.2 h1
      clear h1
      go_wp2
      go_ret
      exact ⟨ret_bool E.out, K2.out⟩
    · have E := Lib.hid (NO.out fun r => by have := r.zq h1; simp at this)
      have t1 := beq_eq_false_iff_ne.2 h1
      clear h1
      go_wp2
      go_ret
      exact ⟨ret_bool E.out, K2.out⟩
    by_cases hp0 : t = 0
    · subst hp0
      rcases (show q ≠ 0 ∨ (q = 0 ∧ a < 0) ∨ (q = 0 ∧ 0 ≤ a ∧ 1099511627776 < a) ∨ (q = 0 ∧ 0 ≤ a ∧ a ≤ 1099511627776) from by omega) with h1 | ⟨rfl, h1⟩ | ⟨rfl, h1, h2⟩ | ⟨rfl, h1, h2⟩
      · have E := Lib.hid (NO.out fun r => by have := r.zq h1; simp at this)
        have t1 := beq_eq_false_iff_ne.2 h1
        clear h1
        go_wp2
        go_ret
        exact ⟨ret_bool E.out, K2.out⟩
      · have E := Lib.hid (NO.out fun r => by have := r.a0; simp only at this; omega)
        go_wp2
        go_ret
        exact ⟨ret_bool E.out, K2.out⟩
      · have E := Lib.hid (NO.out fun r => by have := r.a1; simp only at this; omega)
        go_wp2
        go_ret
        exact ⟨ret_bool (by rw [← E.out]; exact decide_eq_false (by omega)), K2.out⟩
      · have E := Lib.hid (YES.out ⟨HK.out, HT.out, by simp, by simp, h1, h2, by simp, by simp, by simp, by simp⟩)
        go_wp2
        go_ret
        exact ⟨ret_bool E.out, K2.out⟩
    · have HP0 := Lib.hid hp0
      have t0 := beq_eq_false_iff_ne.2 hp0
      clear hp0
      rcases (show a ≠ 0 ∨ (a = 0 ∧ q < 0) ∨ (a = 0 ∧ 0 ≤ q ∧ 999 < q) ∨ (a = 0 ∧ 0 ≤ q ∧ q ≤ 999) from by omega) with h1 | ⟨rfl, h1⟩ | ⟨rfl, h1, h2⟩ | ⟨rfl, h1, h2⟩
      · have E := Lib.hid (NO.out fun r => HP0.out (r.za h1).1)
        have t1 := beq_eq_false_iff_ne.2 h1
        clear h1
        go_wp2
        go_ret
        exact ⟨ret_bool E.out, K2.out⟩
      · have E := Lib.hid (NO.out fun r => by have := r.q0; simp only at this; omega)
        go_wp2
        go_ret
        exact ⟨ret_bool E.out, K2.out⟩
      · have E := Lib.hid (NO.out fun r => by have := r.q1; simp only at this; omega)
        go_wp2
        go_ret
        exact ⟨ret_bool (by rw [← E.out]; exact decide_eq_false (by omega)), K2.out⟩
      · have E := Lib.hid (YES.out ⟨HK.out, HT.out, by simp, by simp, by simp, by simp, h1, h2, by simp, fun _ => ⟨HP0.out, by simp⟩⟩)
        go_wp2
        go_ret
        exact ⟨ret_bool E.out, K2.out⟩
end Go.Proofs.YthnjjeofpemdoaaDoor
