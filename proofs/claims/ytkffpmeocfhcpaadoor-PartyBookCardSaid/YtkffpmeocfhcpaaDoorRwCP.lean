
/- The program's rows: isParty, may. The program's rows: Check, Valid. The program's rows: Same, Net. -/
import Derived.Test.YtkffpmeocfhcpaaDoorRwMem
import Derived.Test.YtkffpmeocfhcpaaDoorKyCP
import Derived.Test.YtkffpmeocfhcpaaDoorRwRefC
import Derived.Test.YtkffpmeocfhcpaaDoorHeldSteps
import Derived.Test.YtkffpmeocfhcpaaDoorRwRefV
set_option linter.unusedVariables false
namespace Go.Proofs.YtkffpmeocfhcpaaDoor
open Go.ChangeShapes Go.WideShapes Go.ChangeAt Go.RowKit Bit Ky Rw Csv

theorem pw_isParty (p : Int) (b : Bool) (w : World) (h : decide (0 ≤ p ∧ p ≤ 2) = b) : Calls Tryd.prog 48 #[.int .i64 p] w fun e w' => e = .returned (.bool b) ∧ w = w' := by
  have E := Lib.hid h
  clear h
  rcases (show p = 0 ∨ p = 1 ∨ p = 2 ∨ (p ≠ 0 ∧ p ≠ 1 ∧ p ≠ 2) from by omega) with rfl | rfl | rfl | ⟨h0, h1, h2⟩
  · go_enter Tryd.func48, Tryd.ntmps48
    go_wp2
    go_ret
    exact ⟨ret_bool E.out, rfl⟩
  · go_enter Tryd.func48, Tryd.ntmps48
    go_wp2
    go_ret
    exact ⟨ret_bool E.out, rfl⟩
  · go_enter Tryd.func48, Tryd.ntmps48
    go_wp2
    go_ret
    exact ⟨ret_bool E.out, rfl⟩
  · have F : Hid (false = b) := Lib.hid (by rw [← E.out]; exact (decide_eq_false (by omega)).symm)
    have t0 := beq_eq_false_iff_ne.2 h0
    have t1 := beq_eq_false_iff_ne.2 h1
    have t2 := beq_eq_false_iff_ne.2 h2
    clear h0 h1 h2
    go_enter Tryd.func48, Tryd.ntmps48
    go_wp2
    go_ret
    exact ⟨ret_bool F.out, rfl⟩
set_option maxHeartbeats 4000000 in
set_option maxRecDepth 100000 in
theorem pw_may (x : R) (p : Int) (b : Bool) (w : World) (hp : HasP w) (h : rowB p x = b) : Calls Tryd.prog 49 #[rwV x, .int .i64 p] w fun e w' => e = .returned (.bool b) ∧ Keeps w w' := by
  have KB := Lib.hid (ky_box w (.cells #[.int .i64 x.o, .int .i64 x.d, .int .i64 x.c, .int .i64 x.a, .int .i64 x.q] tRw))
  have CX := Lib.hid (rw_cells w x)
  have HP := Lib.hid hp
  have YES : Hid (Row1 p x → true = b) := Lib.hid fun r => by rw [← h]; exact (row_iff.2 r).symm
  have NO : Hid (¬ Row1 p x → false = b) := Lib.hid fun r => by
    cases b with
    | false => rfl
    | true => exact absurd (row_iff.1 h) r
  obtain ⟨b1, hb⟩ : ∃ b, checkK x.o x.d = b := ⟨_, rfl⟩
  have HB := Lib.hid hb
  have C1 := Lib.hid fun W => hb ▸ pk_check x.o x.d W
  obtain ⟨t, ht⟩ : ∃ b, partyK x.d = b := ⟨_, rfl⟩
  have HT := Lib.hid ht
  have C2 : Hid (∀ W, HasP W → Calls Tryd.prog 51 #[.int .i64 x.d] W fun e w' => e = .returned (.int .i64 t) ∧ W = w') := Lib.hid fun W hW => ht ▸ pk_party x.d W hW
  unfold kyV at C1
  unfold rwV
  clear hb ht h hp
  go_enter Tryd.func49, Tryd.ntmps49
  go_wp2_with fail
  refine (C1.out _).mono ?_
  rintro e w2 ⟨rfl, k2⟩
  have KX := Lib.hid k2
  have K2 := Lib.hid (KB.out.trans k2)
  have HP2 := Lib.hid (HP.out.keeps K2.out)
  obtain ⟨z0, z1, z2, z3, z4⟩ := CX.out _ k2
  clear k2 C1
  cases b1 with
  | false =>
    have E := Lib.hid (NO.out fun r => by have := HB.out; rw [check_iff.2 r.key] at this; cases this)
    go_wp2
    go_ret
    exact ⟨ret_bool E.out, K2.out⟩
  | true =>
    go_wp2_with fail
    refine (C2.out _ HP2.out).mono ?_
    rintro e w3 ⟨rfl, rfl⟩
    by_cases htp : t = p
    rotate_left
    · have E := Lib.hid (NO.out fun r => htp (by rw [← HT.out]; exact r.party))
      have T1 : (t == p) = false := by rw [beq_eq_false_iff_ne]; exact htp
      have T2 : (t != p) = true := by rw [bne, T1]; rfl
      clear htp
      go_wp2
      go_ret
      exact ⟨ret_bool E.out, K2.out⟩
    subst htp
    clear C2
    obtain ⟨o, d, c, a, q⟩ := x
    dsimp only at z0 z1 z2 z3 z4 HB HT
    have HK : Hid (Chk o d) := Lib.hid (check_iff.1 HB.out)
    rcases (show (c ≠ 1 ∧ c ≠ 2) ∨ (c = 2 ∧ a = 0 ∧ q = 0) ∨ (c = 2 ∧ a ≠ 0) ∨ (c = 2 ∧ a = 0 ∧ q ≠ 0) ∨ c = 1 from by omega) with ⟨h1, h2⟩ | ⟨rfl, rfl, rfl⟩ | ⟨rfl, h1⟩ | ⟨rfl, rfl, h1⟩ | rfl
    · have E := Lib.hid (NO.out fun r => by have := r.c1; have := r.c2; simp only at *; omega)
      have t1 := beq_eq_false_iff_ne.2 h1
      have t2 := beq_eq_false_iff_ne.2 h2
      clear h1 h2
      go_wp2
      go_ret
      exact ⟨ret_bool E.out, K2.out⟩
    · have E := Lib.hid (YES.out ⟨HK.out, HT.out, by simp, by simp, by simp, by simp, by simp, by simp, by simp, by simp⟩)
      go_wp2
      go_ret
      exact ⟨ret_bool E.out, K2.out⟩
    · have E := Lib.hid (NO.out fun r => by have := r.za h1; simp at this)
      have t1 := beq_eq_false_iff_ne.2 h1
      clear h1
      go_wp2
      go_ret
      exact ⟨ret_bool E.out, K2.out⟩
    · have E := Lib.hid (NO.out fun r => by have := r.zq h1; simp at this)
      have t1 := beq_eq_false_iff_ne.2 h1
      clear h1
      go_wp2
      go_ret
      exact ⟨ret_bool E.out, K2.out⟩
    by_cases hp0 : t = 0
    · subst hp0
      rcases (show q ≠ 0 ∨ (q = 0 ∧ a < 0) ∨ (q = 0 ∧ 0 ≤ a ∧ 1099511627776 < a) ∨ (q = 0 ∧ 0 ≤ a ∧ a ≤ 1099511627776) from by omega) with h1 | ⟨rfl, h1⟩ | ⟨rfl, h1, h2⟩ | ⟨rfl, h1, h2⟩
      · have E := Lib.hid (NO.out fun r => by have := r.zq h1; simp at this)
        have t1 := beq_eq_false_iff_ne.2 h1
        clear h1
        go_wp2
        go_ret
        exact ⟨ret_bool E.out, K2.out⟩
      · have E := Lib.hid (NO.out fun r => by have := r.a0; simp only at this; omega)
        go_wp2
        go_ret
        exact ⟨ret_bool E.out, K2.out⟩
      · have E := Lib.hid (NO.out fun r => by have := r.a1; simp only at this; omega)
        go_wp2
        go_ret
        exact ⟨ret_bool (by rw [← E.out]; exact decide_eq_false (by omega)), K2.out⟩
      · have E := Lib.hid (YES.out ⟨HK.out, HT.out, by simp, by simp, h1, h2, by simp, by simp, by simp, by simp⟩)
        go_wp2
        go_ret
        exact ⟨ret_bool E.out, K2.out⟩
    · have HP0 := Lib.hid hp0
      have t0 := beq_eq_false_iff_ne.2 hp0
      clear hp0
      rcases (show a ≠ 0 ∨ (a = 0 ∧ q < 0) ∨ (a = 0 ∧ 0 ≤ q ∧ 999 < q) ∨ (a = 0 ∧ 0 ≤ q ∧ q ≤ 999) from by omega) with h1 | ⟨rfl, h1⟩ | ⟨rfl, h1, h2⟩ | ⟨rfl, h1, h2⟩
      · have E := Lib.hid (NO.out fun r => HP0.out (r.za h1).1)
        have t1 := beq_eq_false_iff_ne.2 h1
        clear h1
        go_wp2
        go_ret
        exact ⟨ret_bool E.out, K2.out⟩
      · have E := Lib.hid (NO.out fun r => by have := r.q0; simp only at this; omega)
        go_wp2
        go_ret
        exact ⟨ret_bool E.out, K2.out⟩
      · have E := Lib.hid (NO.out fun r => by have := r.q1; simp only at this; omega)
        go_wp2
        go_ret
        exact ⟨ret_bool (by rw [← E.out]; exact decide_eq_false (by omega)), K2.out⟩
      · have E := Lib.hid (YES.out ⟨HK.out, HT.out, by simp, by simp, by simp, by simp, h1, h2, by simp, fun _ => ⟨HP0.out, by simp⟩⟩)
        go_wp2
        go_ret
        exact ⟨ret_bool E.out, K2.out⟩
end Go.Proofs.YtkffpmeocfhcpaaDoor
namespace Go.Proofs.YtkffpmeocfhcpaaDoor
open Go.ChangeShapes Go.WideShapes Go.ChangeAt Go.RowKit Bit Ky Rw Csv

theorem front_on {p : Int} {L : List R} {k : Nat} {x : R} (h : Front p L k) (hx : L[k]? = some x) (hr : rowB p x = true) (hl : k = 0 ∨ ∃ y, L[k - 1]? = some y ∧ less y x = true) : Front p L (k + 1) :=
  h.next hx (row_iff.1 hr) fun y hk hy => by
    rcases hl with rfl | ⟨z, hz, hl⟩
    · omega
    · rw [hy] at hz
      cases hz
      exact hl
set_option maxHeartbeats 16000000 in
set_option maxRecDepth 100000 in
theorem pw_check (v : Value) (L : List R) (p : Int) (w : World) (hp : HasP w) (h : RowsIn w v L) :
    Calls Tryd.prog 22 #[v, .int .i64 p] w fun e w' => e = .returned (.bool (goodB p L)) ∧ Keeps w w' := by
  have HR := Lib.hid h
  have HP := Lib.hid hp
  clear hp
  obtain ⟨pp, cp, rfl, hmx, _, _⟩ := h
  obtain ⟨N, hN⟩ : ∃ N, L.length = N := ⟨_, rfl⟩
  have HN := Lib.hid hN
  rw [hN] at hmx HR ⊢
  clear hN
  unfold maxLen at hmx
  by_cases hpp : 0 ≤ p ∧ p ≤ 2
  rotate_left
  · have E : Hid (goodB p L = false) := Lib.hid (not_good fun g => hpp ⟨g.p0, g.p2⟩)
    have C0 := Lib.hid fun W => pw_isParty p false W (decide_eq_false hpp)
    clear hpp
    go_enter Tryd.func22, Tryd.ntmps22
    go_wp2_with fail
    refine (C0.out _).mono ?_
    rintro e w1 ⟨rfl, rfl⟩
    go_wp2
    go_ret
    exact ⟨ret_bool E.out.symm, Keeps.refl _⟩
  have C0 := Lib.hid fun W => pw_isParty p true W (decide_eq_true hpp)
  obtain ⟨p0, p2⟩ := hpp
  have P0 := Lib.hid p0
  have P2 := Lib.hid p2
  by_cases n400 : N ≤ 400
  rotate_left
  · have E : Hid (goodB p L = false) := Lib.hid (not_good fun g => by have := g.len; have := HN.out; omega)
    clear p0 p2
    go_enter Tryd.func22, Tryd.ntmps22
    go_wp2_with fail
    refine (C0.out _).mono ?_
    rintro e w1 ⟨rfl, rfl⟩
    go_wp2
    go_ret
    exact ⟨ret_bool E.out.symm, Keeps.refl _⟩
  have N4 := Lib.hid n400
  clear p0 p2
  go_enter Tryd.func22, Tryd.ntmps22
  go_wp2_with fail
  refine (C0.out _).mono ?_
  rintro e w1 ⟨rfl, rfl⟩
  go_wp2_with fail
  go_loopw [17] (fun v17 W => ∃ k : Nat, k ≤ N ∧ v17 = .int .i64 (k : Int) ∧ Front p L k ∧ Keeps w W) (fun v17 _ => N - (intOf v17).toNat)
  case atStart => exact ⟨0, by omega, rfl, front_zero _ _, Keeps.refl _⟩
  case round =>
    obtain ⟨k, hk, rfl, hf, hw⟩ := hrel
    have HF := Lib.hid hf
    have HV := Lib.hid hw
    clear hf hw
    by_cases hlt : k < N
    rotate_left
    · obtain rfl : k = N := by omega
      have E : Hid (goodB p L = true) := Lib.hid (good_iff.2 (Front.good (by rw [HN.out]; exact HF.out) P0.out P2.out (by have := HN.out; have := N4.out; omega)))
      go_wp2
      go_ret
      exact ⟨ret_bool E.out.symm, HV.out⟩
    have HK := Lib.hid hlt
    obtain ⟨x, hx⟩ : ∃ x, L[k]? = some x := ⟨_, List.getElem?_eq_getElem (by have := HN.out; omega)⟩
    obtain ⟨p', c', e', _, hcc, hc⟩ := HR.out.keeps HV.out
    rw [HN.out] at e'
    simp only [Value.slice.injEq] at e'
    obtain ⟨rfl, _, rfl⟩ := e'
    obtain ⟨ad, rfl, q⟩ := hc k x hx
    have HX := Lib.hid hx
    have HCC := Lib.hid hc
    obtain ⟨q0, q1, q2, q3, q4⟩ := q
    have hi1 : (k : Int) < (N : Int) := by omega
    have hi0 : (0 : Int) ≤ (k : Int) := by omega
    obtain ⟨b, hb⟩ : ∃ b, rowB p x = b := ⟨_, rfl⟩
    have HB := Lib.hid hb
    have A1 := Lib.hid (ky_box wr (.cells #[.int .i64 x.o, .int .i64 x.d, .int .i64 x.c, .int .i64 x.a, .int .i64 x.q] tRw))
    have CX := Lib.hid (rw_cells wr x)
    have C1 : Hid (∀ W, Keeps (wr.alloc (.cells #[.int .i64 x.o, .int .i64 x.d, .int .i64 x.c, .int .i64 x.a, .int .i64 x.q] tRw)) W → Calls Tryd.prog 49 #[rwV x, .int .i64 p] W fun e w' => e = .returned (.bool b) ∧ Keeps (wr.alloc (.cells #[.int .i64 x.o, .int .i64 x.d, .int .i64 x.c, .int .i64 x.a, .int .i64 x.q] tRw)) w') := Lib.hid fun W kk => (pw_may x p b W (HP.out.keeps (HV.out.trans (A1.out.trans kk))) hb).mono fun e w' h => ⟨h.1, kk.trans h.2⟩
    unfold rwV at C1
    clear hc hx hb
    go_upto_region 6 with (fail)
    clear q0 q1 q2 q3 q4
    cases b with
    | false =>
      refine wp_region_held_drew (S := fun W => Keeps (wr.alloc (.cells #[.int .i64 x.o, .int .i64 x.d, .int .i64 x.c, .int .i64 x.a, .int .i64 x.q] tRw)) W) (by kernel_rfl) (ky_drew _) (fun hHeld => ?_)
      refine takeH (i := 0) (d := some 22) (v := ?av0) rfl rfl (by kernel_rfl) (by kernel_rfl) (by kernel_rfl) (fun _ _ _ h => h) (Or.inl ⟨by rfl, ?ay0⟩) (by assumption) ?ar0
      case ay0 => (intro W hSw; obtain ⟨z0, z1, z2, z3, z4⟩ := CX.out W hSw; go_simp; try with_reducible rfl)
      try simp only [Act.put, List.setIfInBounds_toArray, List.set_cons_zero, List.set_cons_succ]
      refine takeH (i := 1) (d := some 23) (v := ?av1) rfl rfl (by kernel_rfl) (by kernel_rfl) (by kernel_rfl) (fun _ _ _ h => h) (Or.inl ⟨by rfl, ?ay1⟩) (by assumption) ?ar1
      case ay1 => (intro W hSw; obtain ⟨z0, z1, z2, z3, z4⟩ := CX.out W hSw; go_simp; try with_reducible rfl)
      try simp only [Act.put, List.setIfInBounds_toArray, List.set_cons_zero, List.set_cons_succ]
      refine wpAnyH_ready (rs := [2]) (by kernel_rfl) (by simp) ?_
      refine AllReadyH.cons rfl (fun K hK => ?_) AllReadyH.nil
      go_simp
      refine (C1.out _ hHeld).mono ?_
      rintro e wv ⟨rfl, hv⟩
      first | done | skip
      refine hK.out _ _ hv (fun hHeld => ?_)
      clear hK K hv
      try simp only [Act.put, List.setIfInBounds_toArray, List.set_cons_zero, List.set_cons_succ]
      refine takeH (i := 3) (d := some 25) (v := ?av3) rfl rfl (by kernel_rfl) (by kernel_rfl) (by kernel_rfl) (fun _ _ _ h => h) (Or.inl ⟨by rfl, ?ay3⟩) (by assumption) ?ar3
      case ay3 => (intro W hSw; obtain ⟨z0, z1, z2, z3, z4⟩ := CX.out W hSw; go_simp; try with_reducible rfl)
      try simp only [Act.put, List.setIfInBounds_toArray, List.set_cons_zero, List.set_cons_succ]
      refine takeH (i := 4) (d := some 26) (v := ?av4) rfl rfl (by kernel_rfl) (by kernel_rfl) (by kernel_rfl) (fun _ _ _ h => h) (Or.inl ⟨by rfl, ?ay4⟩) (by assumption) ?ar4
      case ay4 => (intro W hSw; obtain ⟨z0, z1, z2, z3, z4⟩ := CX.out W hSw; go_simp; try with_reducible rfl)
      try simp only [Act.put, List.setIfInBounds_toArray, List.set_cons_zero, List.set_cons_succ]
      refine skipH (i := 5) (d := some 27) rfl rfl (by kernel_rfl) (by kernel_rfl) (by kernel_rfl) (fun _ _ _ h => h) (by rfl) (by assumption) ?_
      try simp only [Act.put, List.setIfInBounds_toArray, List.set_cons_zero, List.set_cons_succ]
      refine skipH (i := 6) (d := some 28) rfl rfl (by kernel_rfl) (by kernel_rfl) (by kernel_rfl) (fun _ _ _ h => h) (by rfl) (by assumption) ?_
      try simp only [Act.put, List.setIfInBounds_toArray, List.set_cons_zero, List.set_cons_succ]
      refine skipH (i := 7) (d := some 29) rfl rfl (by kernel_rfl) (by kernel_rfl) (by kernel_rfl) (fun _ _ _ h => h) (by rfl) (by assumption) ?_
      try simp only [Act.put, List.setIfInBounds_toArray, List.set_cons_zero, List.set_cons_succ]
      refine skipH (i := 8) (d := some 30) rfl rfl (by kernel_rfl) (by kernel_rfl) (by kernel_rfl) (fun _ _ _ h => h) (by rfl) (by assumption) ?_
      try simp only [Act.put, List.setIfInBounds_toArray, List.set_cons_zero, List.set_cons_succ]
      refine skipH (i := 9) (d := some 31) rfl rfl (by kernel_rfl) (by kernel_rfl) (by kernel_rfl) (fun _ _ _ h => h) (by rfl) (by assumption) ?_
      try simp only [Act.put, List.setIfInBounds_toArray, List.set_cons_zero, List.set_cons_succ]
      refine skipH (i := 10) (d := some 32) rfl rfl (by kernel_rfl) (by kernel_rfl) (by kernel_rfl) (fun _ _ _ h => h) (by rfl) (by assumption) ?_
      try simp only [Act.put, List.setIfInBounds_toArray, List.set_cons_zero, List.set_cons_succ]
      refine skipH (i := 11) (d := some 33) rfl rfl (by kernel_rfl) (by kernel_rfl) (by kernel_rfl) (fun _ _ _ h => h) (by rfl) (by assumption) ?_
      try simp only [Act.put, List.setIfInBounds_toArray, List.set_cons_zero, List.set_cons_succ]
      refine skipH (i := 12) (d := some 34) rfl rfl (by kernel_rfl) (by kernel_rfl) (by kernel_rfl) (fun _ _ _ h => h) (by rfl) (by assumption) ?_
      try simp only [Act.put, List.setIfInBounds_toArray, List.set_cons_zero, List.set_cons_succ]
      refine skipH (i := 13) (d := some 35) rfl rfl (by kernel_rfl) (by kernel_rfl) (by kernel_rfl) (fun _ _ _ h => h) (by rfl) (by assumption) ?_
      try simp only [Act.put, List.setIfInBounds_toArray, List.set_cons_zero, List.set_cons_succ]
      refine skipH (i := 14) (d := some 36) rfl rfl (by kernel_rfl) (by kernel_rfl) (by kernel_rfl) (fun _ _ _ h => h) (by rfl) (by assumption) ?_
      try simp only [Act.put, List.setIfInBounds_toArray, List.set_cons_zero, List.set_cons_succ]
      refine skipH (i := 15) (d := some 37) rfl rfl (by kernel_rfl) (by kernel_rfl) (by kernel_rfl) (fun _ _ _ h => h) (by rfl) (by assumption) ?_
      try simp only [Act.put, List.setIfInBounds_toArray, List.set_cons_zero, List.set_cons_succ]
      refine skipH (i := 16) (d := some 38) rfl rfl (by kernel_rfl) (by kernel_rfl) (by kernel_rfl) (fun _ _ _ h => h) (by rfl) (by assumption) ?_
      try simp only [Act.put, List.setIfInBounds_toArray, List.set_cons_zero, List.set_cons_succ]
      refine skipH (i := 17) (d := some 39) rfl rfl (by kernel_rfl) (by kernel_rfl) (by kernel_rfl) (fun _ _ _ h => h) (by rfl) (by assumption) ?_
      try simp only [Act.put, List.setIfInBounds_toArray, List.set_cons_zero, List.set_cons_succ]
      refine skipH (i := 18) (d := some 40) rfl rfl (by kernel_rfl) (by kernel_rfl) (by kernel_rfl) (fun _ _ _ h => h) (by rfl) (by assumption) ?_
      try simp only [Act.put, List.setIfInBounds_toArray, List.set_cons_zero, List.set_cons_succ]
      refine takeH (i := 19) (d := some 41) (v := ?av19) rfl rfl (by kernel_rfl) (by kernel_rfl) (by kernel_rfl) (fun _ _ _ h => h) (Or.inl ⟨by rfl, ?ay19⟩) (by assumption) ?ar19
      case ay19 => (intro W hSw; obtain ⟨z0, z1, z2, z3, z4⟩ := CX.out W hSw; go_simp; try with_reducible rfl)
      try simp only [Act.put, List.setIfInBounds_toArray, List.set_cons_zero, List.set_cons_succ]
      refine wpAnyH_done (by kernel_rfl) ?_ _
      have K9 := Lib.hid (HV.out.trans (A1.out.trans hHeld))
      clear hHeld
      have E : Hid (goodB p L = false) := Lib.hid (bad_row HX.out fun r => by have := HB.out; rw [row_iff.2 r] at this; cases this)
      go_wp2
      go_ret
      exact ⟨ret_bool E.out.symm, K9.out⟩
    | true =>
      rcases Nat.eq_zero_or_pos k with hk0 | hk0
      · have hd : decide (0 < (k : Int)) = false := decide_eq_false (by omega)
        have hd2 : decide (0 < k) = false := decide_eq_false (by omega)
        have hd3 : ¬ 0 < k := by omega
        have YES := Lib.hid (front_on HF.out HX.out HB.out (Or.inl hk0))
        clear hk0
        refine wp_region_held_drew (S := fun W => Keeps (wr.alloc (.cells #[.int .i64 x.o, .int .i64 x.d, .int .i64 x.c, .int .i64 x.a, .int .i64 x.q] tRw)) W) (by kernel_rfl) (ky_drew _) (fun hHeld => ?_)
        refine takeH (i := 0) (d := some 22) (v := ?bv0) rfl rfl (by kernel_rfl) (by kernel_rfl) (by kernel_rfl) (fun _ _ _ h => h) (Or.inl ⟨by rfl, ?by0⟩) (by assumption) ?br0
        case by0 => (intro W hSw; obtain ⟨z0, z1, z2, z3, z4⟩ := CX.out W hSw; go_simp; try with_reducible rfl)
        try simp only [Act.put, List.setIfInBounds_toArray, List.set_cons_zero, List.set_cons_succ]
        refine takeH (i := 1) (d := some 23) (v := ?bv1) rfl rfl (by kernel_rfl) (by kernel_rfl) (by kernel_rfl) (fun _ _ _ h => h) (Or.inl ⟨by rfl, ?by1⟩) (by assumption) ?br1
        case by1 => (intro W hSw; obtain ⟨z0, z1, z2, z3, z4⟩ := CX.out W hSw; go_simp; try with_reducible rfl)
        try simp only [Act.put, List.setIfInBounds_toArray, List.set_cons_zero, List.set_cons_succ]
        refine wpAnyH_ready (rs := [2]) (by kernel_rfl) (by simp) ?_
        refine AllReadyH.cons rfl (fun K hK => ?_) AllReadyH.nil
        go_simp
        refine (C1.out _ hHeld).mono ?_
        rintro e wv ⟨rfl, hv⟩
        first | done | skip
        refine hK.out _ _ hv (fun hHeld => ?_)
        clear hK K hv
        try simp only [Act.put, List.setIfInBounds_toArray, List.set_cons_zero, List.set_cons_succ]
        refine takeH (i := 3) (d := some 25) (v := ?bv3) rfl rfl (by kernel_rfl) (by kernel_rfl) (by kernel_rfl) (fun _ _ _ h => h) (Or.inl ⟨by rfl, ?by3⟩) (by assumption) ?br3
        case by3 => (intro W hSw; obtain ⟨z0, z1, z2, z3, z4⟩ := CX.out W hSw; go_simp; try with_reducible rfl)
        try simp only [Act.put, List.setIfInBounds_toArray, List.set_cons_zero, List.set_cons_succ]
        refine takeH (i := 4) (d := some 26) (v := ?bv4) rfl rfl (by kernel_rfl) (by kernel_rfl) (by kernel_rfl) (fun _ _ _ h => h) (Or.inl ⟨by rfl, ?by4⟩) (by assumption) ?br4
        case by4 => (intro W hSw; obtain ⟨z0, z1, z2, z3, z4⟩ := CX.out W hSw; go_simp; try with_reducible rfl)
        try simp only [Act.put, List.setIfInBounds_toArray, List.set_cons_zero, List.set_cons_succ]
        refine takeH (i := 5) (d := some 27) (v := ?bv5) rfl rfl (by kernel_rfl) (by kernel_rfl) (by kernel_rfl) (fun _ _ _ h => h) (Or.inl ⟨by rfl, ?by5⟩) (by assumption) ?br5
        case by5 => (intro W hSw; obtain ⟨z0, z1, z2, z3, z4⟩ := CX.out W hSw; go_simp; try with_reducible rfl)
        try simp only [Act.put, List.setIfInBounds_toArray, List.set_cons_zero, List.set_cons_succ]
        refine takeH (i := 6) (d := some 28) (v := ?bv6) rfl rfl (by kernel_rfl) (by kernel_rfl) (by kernel_rfl) (fun _ _ _ h => h) (Or.inl ⟨by rfl, ?by6⟩) (by assumption) ?br6
        case by6 => (intro W hSw; obtain ⟨z0, z1, z2, z3, z4⟩ := CX.out W hSw; go_simp; try with_reducible rfl)
        try simp only [Act.put, List.setIfInBounds_toArray, List.set_cons_zero, List.set_cons_succ]
        refine takeH (i := 7) (d := some 29) (v := ?bv7) rfl rfl (by kernel_rfl) (by kernel_rfl) (by kernel_rfl) (fun _ _ _ h => h) (Or.inl ⟨by rfl, ?by7⟩) (by assumption) ?br7
        case by7 => (intro W hSw; obtain ⟨z0, z1, z2, z3, z4⟩ := CX.out W hSw; go_simp; try with_reducible rfl)
        try simp only [Act.put, List.setIfInBounds_toArray, List.set_cons_zero, List.set_cons_succ]
        refine skipH (i := 8) (d := some 30) rfl rfl (by kernel_rfl) (by kernel_rfl) (by kernel_rfl) (fun _ _ _ h => h) (by rfl) (by assumption) ?_
        try simp only [Act.put, List.setIfInBounds_toArray, List.set_cons_zero, List.set_cons_succ]
        refine skipH (i := 9) (d := some 31) rfl rfl (by kernel_rfl) (by kernel_rfl) (by kernel_rfl) (fun _ _ _ h => h) (by rfl) (by assumption) ?_
        try simp only [Act.put, List.setIfInBounds_toArray, List.set_cons_zero, List.set_cons_succ]
        refine skipH (i := 10) (d := some 32) rfl rfl (by kernel_rfl) (by kernel_rfl) (by kernel_rfl) (fun _ _ _ h => h) (by rfl) (by assumption) ?_
        try simp only [Act.put, List.setIfInBounds_toArray, List.set_cons_zero, List.set_cons_succ]
        refine skipH (i := 11) (d := some 33) rfl rfl (by kernel_rfl) (by kernel_rfl) (by kernel_rfl) (fun _ _ _ h => h) (by rfl) (by assumption) ?_
        try simp only [Act.put, List.setIfInBounds_toArray, List.set_cons_zero, List.set_cons_succ]
        refine skipH (i := 12) (d := some 34) rfl rfl (by kernel_rfl) (by kernel_rfl) (by kernel_rfl) (fun _ _ _ h => h) (by rfl) (by assumption) ?_
        try simp only [Act.put, List.setIfInBounds_toArray, List.set_cons_zero, List.set_cons_succ]
        refine skipH (i := 13) (d := some 35) rfl rfl (by kernel_rfl) (by kernel_rfl) (by kernel_rfl) (fun _ _ _ h => h) (by rfl) (by assumption) ?_
        try simp only [Act.put, List.setIfInBounds_toArray, List.set_cons_zero, List.set_cons_succ]
        refine skipH (i := 14) (d := some 36) rfl rfl (by kernel_rfl) (by kernel_rfl) (by kernel_rfl) (fun _ _ _ h => h) (by rfl) (by assumption) ?_
        try simp only [Act.put, List.setIfInBounds_toArray, List.set_cons_zero, List.set_cons_succ]
        refine skipH (i := 15) (d := some 37) rfl rfl (by kernel_rfl) (by kernel_rfl) (by kernel_rfl) (fun _ _ _ h => h) (by rfl) (by assumption) ?_
        try simp only [Act.put, List.setIfInBounds_toArray, List.set_cons_zero, List.set_cons_succ]
        refine skipH (i := 16) (d := some 38) rfl rfl (by kernel_rfl) (by kernel_rfl) (by kernel_rfl) (fun _ _ _ h => h) (by rfl) (by assumption) ?_
        try simp only [Act.put, List.setIfInBounds_toArray, List.set_cons_zero, List.set_cons_succ]
        refine skipH (i := 17) (d := some 39) rfl rfl (by kernel_rfl) (by kernel_rfl) (by kernel_rfl) (fun _ _ _ h => h) (by rfl) (by assumption) ?_
        try simp only [Act.put, List.setIfInBounds_toArray, List.set_cons_zero, List.set_cons_succ]
        refine takeH (i := 18) (d := some 40) (v := ?bv18) rfl rfl (by kernel_rfl) (by kernel_rfl) (by kernel_rfl) (fun _ _ _ h => h) (Or.inl ⟨by rfl, ?by18⟩) (by assumption) ?br18
        case by18 => (intro W hSw; obtain ⟨z0, z1, z2, z3, z4⟩ := CX.out W hSw; go_simp; try with_reducible rfl)
        try simp only [Act.put, List.setIfInBounds_toArray, List.set_cons_zero, List.set_cons_succ]
        refine takeH (i := 19) (d := some 41) (v := ?bv19) rfl rfl (by kernel_rfl) (by kernel_rfl) (by kernel_rfl) (fun _ _ _ h => h) (Or.inl ⟨by rfl, ?by19⟩) (by assumption) ?br19
        case by19 => (intro W hSw; obtain ⟨z0, z1, z2, z3, z4⟩ := CX.out W hSw; go_simp; try with_reducible rfl)
        try simp only [Act.put, List.setIfInBounds_toArray, List.set_cons_zero, List.set_cons_succ]
        refine wpAnyH_done (by kernel_rfl) ?_ _
        have K9 := Lib.hid (HV.out.trans (A1.out.trans hHeld))
        clear hHeld
        go_wp2
        exact ⟨⟨k + 1, by have := HK.out; omega, by go_num, YES.out, K9.out⟩, by have := HK.out; simp [intOf]; omega⟩
      · obtain ⟨j, hj⟩ : ∃ j, k - 1 = j := ⟨_, rfl⟩
        obtain ⟨y, hy⟩ : ∃ y, L[k - 1]? = some y := ⟨_, List.getElem?_eq_getElem (by have := HN.out; have := HK.out; omega)⟩
        obtain ⟨ad', ea, qy⟩ := HCC.out _ y hy
        obtain rfl := Option.some.inj ea
        rw [hj] at qy
        have QY := Lib.hid qy
        have CS : Hid (∀ W, Keeps (wr.alloc (.cells #[.int .i64 x.o, .int .i64 x.d, .int .i64 x.c, .int .i64 x.a, .int .i64 x.q] tRw)) W → (W.cell? ⟨wr.heap.size, 0, none⟩ = some (.int .i64 x.o) ∧ W.cell? ⟨wr.heap.size, 1, none⟩ = some (.int .i64 x.d) ∧ W.cell? ⟨wr.heap.size, 2, none⟩ = some (.int .i64 x.c) ∧ W.cell? ⟨wr.heap.size, 3, none⟩ = some (.int .i64 x.a) ∧ W.cell? ⟨wr.heap.size, 4, none⟩ = some (.int .i64 x.q)) ∧ W.cell? (ad.add (j * 5)) = some (.int .i64 y.o) ∧ W.cell? ⟨(ad.add (j * 5)).block, (ad.add (j * 5)).off + 1, none⟩ = some (.int .i64 y.d)) := Lib.hid fun W kk => by
          obtain ⟨d0, d1, _⟩ := QY.out.keeps (A1.out.trans kk)
          exact ⟨CX.out W kk, d0, d1⟩
        have hd : decide (0 < (k : Int)) = true := decide_eq_true (by omega)
        have hd2 : decide (0 < k) = true := decide_eq_true hk0
        obtain ⟨w1, w2'⟩ := pred_wrap (k := k) (j := j) hk0 hj (by have := N4.out; have := HK.out; omega)
        have hj1 : (j : Int) < (N : Int) := by have := HK.out; omega
        have hj0 : (0 : Int) ≤ (j : Int) := by omega
        obtain ⟨l, hl⟩ : ∃ b, lessK y.o y.d x.o x.d = b := ⟨_, rfl⟩
        have C3 : Hid (∀ W, Keeps (wr.alloc (.cells #[.int .i64 x.o, .int .i64 x.d, .int .i64 x.c, .int .i64 x.a, .int .i64 x.q] tRw)) W → Calls Tryd.prog 42 #[.agg #[.int .i64 y.o, .int .i64 y.d], .agg #[.int .i64 x.o, .int .i64 x.d]] W fun e w' => e = .returned (.bool l) ∧ Keeps (wr.alloc (.cells #[.int .i64 x.o, .int .i64 x.d, .int .i64 x.c, .int .i64 x.a, .int .i64 x.q] tRw)) w') := Lib.hid fun W kk => Calls.mono (hl ▸ pk_less y.o y.d x.o x.d W) fun e w' h => ⟨h.1, kk.trans h.2⟩
        have HL := Lib.hid hl
        have HY := Lib.hid hy
        have HK0 := Lib.hid hk0
        clear hl hy hj qy hk0
        refine wp_region_held_drew (S := fun W => Keeps (wr.alloc (.cells #[.int .i64 x.o, .int .i64 x.d, .int .i64 x.c, .int .i64 x.a, .int .i64 x.q] tRw)) W) (by kernel_rfl) (ky_drew _) (fun hHeld => ?_)
        refine takeH (i := 0) (d := some 22) (v := ?cv0) rfl rfl (by kernel_rfl) (by kernel_rfl) (by kernel_rfl) (fun _ _ _ h => h) (Or.inl ⟨by rfl, ?cy0⟩) (by assumption) ?cr0
        case cy0 => (intro W hSw; obtain ⟨⟨z0, z1, z2, z3, z4⟩, y0, y1⟩ := CS.out W hSw; go_simp; try with_reducible rfl)
        try simp only [Act.put, List.setIfInBounds_toArray, List.set_cons_zero, List.set_cons_succ]
        refine takeH (i := 1) (d := some 23) (v := ?cv1) rfl rfl (by kernel_rfl) (by kernel_rfl) (by kernel_rfl) (fun _ _ _ h => h) (Or.inl ⟨by rfl, ?cy1⟩) (by assumption) ?cr1
        case cy1 => (intro W hSw; obtain ⟨⟨z0, z1, z2, z3, z4⟩, y0, y1⟩ := CS.out W hSw; go_simp; try with_reducible rfl)
        try simp only [Act.put, List.setIfInBounds_toArray, List.set_cons_zero, List.set_cons_succ]
        refine wpAnyH_ready (rs := [2]) (by kernel_rfl) (by simp) ?_
        refine AllReadyH.cons rfl (fun K hK => ?_) AllReadyH.nil
        go_simp
        refine (C1.out _ hHeld).mono ?_
        rintro e wv ⟨rfl, hv⟩
        first | done | skip
        refine hK.out _ _ hv (fun hHeld => ?_)
        clear hK K hv
        try simp only [Act.put, List.setIfInBounds_toArray, List.set_cons_zero, List.set_cons_succ]
        refine takeH (i := 3) (d := some 25) (v := ?cv3) rfl rfl (by kernel_rfl) (by kernel_rfl) (by kernel_rfl) (fun _ _ _ h => h) (Or.inl ⟨by rfl, ?cy3⟩) (by assumption) ?cr3
        case cy3 => (intro W hSw; obtain ⟨⟨z0, z1, z2, z3, z4⟩, y0, y1⟩ := CS.out W hSw; go_simp; try with_reducible rfl)
        try simp only [Act.put, List.setIfInBounds_toArray, List.set_cons_zero, List.set_cons_succ]
        refine takeH (i := 4) (d := some 26) (v := ?cv4) rfl rfl (by kernel_rfl) (by kernel_rfl) (by kernel_rfl) (fun _ _ _ h => h) (Or.inl ⟨by rfl, ?cy4⟩) (by assumption) ?cr4
        case cy4 => (intro W hSw; obtain ⟨⟨z0, z1, z2, z3, z4⟩, y0, y1⟩ := CS.out W hSw; go_simp; try with_reducible rfl)
        try simp only [Act.put, List.setIfInBounds_toArray, List.set_cons_zero, List.set_cons_succ]
        refine takeH (i := 5) (d := some 27) (v := ?cv5) rfl rfl (by kernel_rfl) (by kernel_rfl) (by kernel_rfl) (fun _ _ _ h => h) (Or.inl ⟨by rfl, ?cy5⟩) (by assumption) ?cr5
        case cy5 => (intro W hSw; obtain ⟨⟨z0, z1, z2, z3, z4⟩, y0, y1⟩ := CS.out W hSw; go_simp; try with_reducible rfl)
        try simp only [Act.put, List.setIfInBounds_toArray, List.set_cons_zero, List.set_cons_succ]
        refine takeH (i := 6) (d := some 28) (v := ?cv6) rfl rfl (by kernel_rfl) (by kernel_rfl) (by kernel_rfl) (fun _ _ _ h => h) (Or.inl ⟨by rfl, ?cy6⟩) (by assumption) ?cr6
        case cy6 => (intro W hSw; obtain ⟨⟨z0, z1, z2, z3, z4⟩, y0, y1⟩ := CS.out W hSw; go_simp; try with_reducible rfl)
        try simp only [Act.put, List.setIfInBounds_toArray, List.set_cons_zero, List.set_cons_succ]
        refine takeH (i := 7) (d := some 29) (v := ?cv7) rfl rfl (by kernel_rfl) (by kernel_rfl) (by kernel_rfl) (fun _ _ _ h => h) (Or.inl ⟨by rfl, ?cy7⟩) (by assumption) ?cr7
        case cy7 => (intro W hSw; obtain ⟨⟨z0, z1, z2, z3, z4⟩, y0, y1⟩ := CS.out W hSw; go_simp; try with_reducible rfl)
        try simp only [Act.put, List.setIfInBounds_toArray, List.set_cons_zero, List.set_cons_succ]
        refine takeH (i := 8) (d := some 30) (v := ?cv8) rfl rfl (by kernel_rfl) (by kernel_rfl) (by kernel_rfl) (fun _ _ _ h => h) (Or.inl ⟨by rfl, ?cy8⟩) (by assumption) ?cr8
        case cy8 => (intro W hSw; obtain ⟨⟨z0, z1, z2, z3, z4⟩, y0, y1⟩ := CS.out W hSw; go_simp; try with_reducible rfl)
        try simp only [Act.put, List.setIfInBounds_toArray, List.set_cons_zero, List.set_cons_succ]
        refine takeH (i := 9) (d := some 31) (v := ?cv9) rfl rfl (by kernel_rfl) (by kernel_rfl) (by kernel_rfl) (fun _ _ _ h => h) (Or.inl ⟨by rfl, ?cy9⟩) (by assumption) ?cr9
        case cy9 => (intro W hSw; obtain ⟨⟨z0, z1, z2, z3, z4⟩, y0, y1⟩ := CS.out W hSw; go_simp; try with_reducible rfl)
        try simp only [Act.put, List.setIfInBounds_toArray, List.set_cons_zero, List.set_cons_succ]
        refine takeH (i := 10) (d := some 32) (v := ?cv10) rfl rfl (by kernel_rfl) (by kernel_rfl) (by kernel_rfl) (fun _ _ _ h => h) (Or.inl ⟨by rfl, ?cy10⟩) (by assumption) ?cr10
        case cy10 => (intro W hSw; obtain ⟨⟨z0, z1, z2, z3, z4⟩, y0, y1⟩ := CS.out W hSw; go_simp; try with_reducible rfl)
        try simp only [Act.put, List.setIfInBounds_toArray, List.set_cons_zero, List.set_cons_succ]
        refine takeH (i := 11) (d := some 33) (v := ?cv11) rfl rfl (by kernel_rfl) (by kernel_rfl) (by kernel_rfl) (fun _ _ _ h => h) (Or.inl ⟨by rfl, ?cy11⟩) (by assumption) ?cr11
        case cy11 => (intro W hSw; obtain ⟨⟨z0, z1, z2, z3, z4⟩, y0, y1⟩ := CS.out W hSw; go_simp; try with_reducible rfl)
        try simp only [Act.put, List.setIfInBounds_toArray, List.set_cons_zero, List.set_cons_succ]
        refine takeH (i := 12) (d := some 34) (v := ?cv12) rfl rfl (by kernel_rfl) (by kernel_rfl) (by kernel_rfl) (fun _ _ _ h => h) (Or.inl ⟨by rfl, ?cy12⟩) (by assumption) ?cr12
        case cy12 => (intro W hSw; obtain ⟨⟨z0, z1, z2, z3, z4⟩, y0, y1⟩ := CS.out W hSw; go_simp; try with_reducible rfl)
        try simp only [Act.put, List.setIfInBounds_toArray, List.set_cons_zero, List.set_cons_succ]
        refine takeH (i := 13) (d := some 35) (v := ?cv13) rfl rfl (by kernel_rfl) (by kernel_rfl) (by kernel_rfl) (fun _ _ _ h => h) (Or.inl ⟨by rfl, ?cy13⟩) (by assumption) ?cr13
        case cy13 => (intro W hSw; obtain ⟨⟨z0, z1, z2, z3, z4⟩, y0, y1⟩ := CS.out W hSw; go_simp; try with_reducible rfl)
        try simp only [Act.put, List.setIfInBounds_toArray, List.set_cons_zero, List.set_cons_succ]
        refine takeH (i := 14) (d := some 36) (v := ?cv14) rfl rfl (by kernel_rfl) (by kernel_rfl) (by kernel_rfl) (fun _ _ _ h => h) (Or.inl ⟨by rfl, ?cy14⟩) (by assumption) ?cr14
        case cy14 => (intro W hSw; obtain ⟨⟨z0, z1, z2, z3, z4⟩, y0, y1⟩ := CS.out W hSw; go_simp; try with_reducible rfl)
        try simp only [Act.put, List.setIfInBounds_toArray, List.set_cons_zero, List.set_cons_succ]
        refine takeH (i := 15) (d := some 37) (v := ?cv15) rfl rfl (by kernel_rfl) (by kernel_rfl) (by kernel_rfl) (fun _ _ _ h => h) (Or.inl ⟨by rfl, ?cy15⟩) (by assumption) ?cr15
        case cy15 => (intro W hSw; obtain ⟨⟨z0, z1, z2, z3, z4⟩, y0, y1⟩ := CS.out W hSw; go_simp; try with_reducible rfl)
        try simp only [Act.put, List.setIfInBounds_toArray, List.set_cons_zero, List.set_cons_succ]
        refine wpAnyH_ready (rs := [16]) (by kernel_rfl) (by simp) ?_
        refine AllReadyH.cons rfl (fun K hK => ?_) AllReadyH.nil
        go_simp
        refine (C3.out _ hHeld).mono ?_
        rintro e wv ⟨rfl, hv⟩
        first | done | skip
        refine hK.out _ _ hv (fun hHeld => ?_)
        clear hK K hv
        try simp only [Act.put, List.setIfInBounds_toArray, List.set_cons_zero, List.set_cons_succ]
        refine takeH (i := 17) (d := some 39) (v := ?cv17) rfl rfl (by kernel_rfl) (by kernel_rfl) (by kernel_rfl) (fun _ _ _ h => h) (Or.inl ⟨by rfl, ?cy17⟩) (by assumption) ?cr17
        case cy17 => (intro W hSw; obtain ⟨⟨z0, z1, z2, z3, z4⟩, y0, y1⟩ := CS.out W hSw; go_simp; try with_reducible rfl)
        try simp only [Act.put, List.setIfInBounds_toArray, List.set_cons_zero, List.set_cons_succ]
        refine takeH (i := 18) (d := some 40) (v := ?cv18) rfl rfl (by kernel_rfl) (by kernel_rfl) (by kernel_rfl) (fun _ _ _ h => h) (Or.inl ⟨by rfl, ?cy18⟩) (by assumption) ?cr18
        case cy18 => (intro W hSw; obtain ⟨⟨z0, z1, z2, z3, z4⟩, y0, y1⟩ := CS.out W hSw; go_simp; try with_reducible rfl)
        try simp only [Act.put, List.setIfInBounds_toArray, List.set_cons_zero, List.set_cons_succ]
        refine takeH (i := 19) (d := some 41) (v := ?cv19) rfl rfl (by kernel_rfl) (by kernel_rfl) (by kernel_rfl) (fun _ _ _ h => h) (Or.inl ⟨by rfl, ?cy19⟩) (by assumption) ?cr19
        case cy19 => (intro W hSw; obtain ⟨⟨z0, z1, z2, z3, z4⟩, y0, y1⟩ := CS.out W hSw; go_simp; try with_reducible rfl)
        try simp only [Act.put, List.setIfInBounds_toArray, List.set_cons_zero, List.set_cons_succ]
        refine wpAnyH_done (by kernel_rfl) ?_ _
        have K9 := Lib.hid (HV.out.trans (A1.out.trans hHeld))
        clear hHeld
        cases l with
        | false =>
          have E : Hid (goodB p L = false) := Lib.hid (bad_turn (j := k - 1) (k := k) HY.out HX.out (by have := HK0.out; omega) (by unfold less; exact HL.out))
          go_wp2
          go_ret
          exact ⟨ret_bool E.out.symm, K9.out⟩
        | true =>
          have YES := Lib.hid (front_on HF.out HX.out HB.out (Or.inr ⟨y, HY.out, by unfold less; exact HL.out⟩))
          go_wp2
          exact ⟨⟨k + 1, by have := HK.out; omega, by go_num, YES.out, K9.out⟩, by have := HK.out; simp [intOf]; omega⟩
end Go.Proofs.YtkffpmeocfhcpaaDoor
namespace Go.Proofs.YtkffpmeocfhcpaaDoor
open Go.ChangeShapes Go.WideShapes Go.ChangeAt Go.RowKit Bit Ky Rw Csv

/-- Two statements in their boxes. -/
theorem two_st (w : World) (p s p' s' : Int) (v v' : Value) : ∀ W, Keeps ((w.alloc (stBox p s v)).alloc (stBox p' s' v')) W → (W.cell? ⟨w.heap.size, 0, none⟩ = some (.int .i64 p) ∧ W.cell? ⟨w.heap.size, 1, none⟩ = some (.int .i64 s) ∧ W.cell? ⟨w.heap.size, 2, none⟩ = some v) ∧ W.cell? ⟨w.heap.size + 1, 0, none⟩ = some (.int .i64 p') ∧ W.cell? ⟨w.heap.size + 1, 1, none⟩ = some (.int .i64 s') ∧ W.cell? ⟨w.heap.size + 1, 2, none⟩ = some v' := fun W k => by
  have h0 : (w.alloc (stBox p s v)).heap.size = w.heap.size + 1 := by simp
  have c2 := st_cells (w.alloc (stBox p s v)) p' s' v' W k
  rw [h0] at c2
  exact ⟨st_cells w p s v W ((ky_box _ _).trans k), c2⟩
theorem pay_deed {x : R} (h : Row1 0 x) : x.d = 1 ∨ x.d = 4 := by
  have hp := h.party
  rcases six h.key.d0 h.key.d1 with e | e | e | e | e | e
  all_goals rw [e] at hp ⊢
  all_goals simp [partyK] at hp ⊢
end Go.Proofs.YtkffpmeocfhcpaaDoor
