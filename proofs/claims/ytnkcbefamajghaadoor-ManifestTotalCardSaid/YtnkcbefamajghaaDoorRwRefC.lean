
/- The document's rows: Check, Valid. -/
import Derived.Test.YtnkcbefamajghaaDoorRwMem
import Derived.LoopN
import Derived.Deep.RegionHeld3
import Derived.Deep.QuietTactic
import Derived.BigQuiet
import Derived.Deep.Cut
import Derived.Test.YtnkcbefamajghaaDoorKyRefG
import Derived.Test.YtnkcbefamajghaaDoorBitsRefC
set_option linter.unusedVariables false
namespace Go.Proofs.YtnkcbefamajghaaDoor
open Go.ChangeShapes Go.WideShapes Go.ChangeAt Go.RowKit Bit Ky Rw Csv

theorem row_next {p : Int} {L : List R} {k : Nat} {x : R} (h : Front p L k) (hx : L[k]? = some x) (hc : checkK x.o x.d = true) (hp : partyK x.d = p) (hl : k = 0 ∨ ∃ y, L[k - 1]? = some y ∧ less y x = true) (h1 : 1 ≤ x.c) (h2 : x.c ≤ 2) :
    0 ≤ x.a → x.a ≤ 1099511627776 → 0 ≤ x.q → x.q ≤ 999 → (x.a ≠ 0 → p = 0 ∧ x.c ≠ 2) → (x.q ≠ 0 → p ≠ 0 ∧ x.c ≠ 2) → Front p L (k + 1) := fun a0 a1 q0 q1 za zq =>
  h.next hx ⟨check_iff.1 hc, hp, h1, h2, a0, a1, q0, q1, za, zq⟩ fun y hk hy => by
    rcases hl with rfl | ⟨z, hz, hl⟩
    · omega
    · rw [hy] at hz
      cases hz
      exact hl
theorem row_stop {p : Int} {L : List R} {k : Nat} {x : R} (hx : L[k]? = some x) : ¬ (0 ≤ x.a ∧ x.a ≤ 1099511627776 ∧ 0 ≤ x.q ∧ x.q ≤ 999 ∧ (x.a ≠ 0 → p = 0 ∧ x.c ≠ 2) ∧ (x.q ≠ 0 → p ≠ 0 ∧ x.c ≠ 2)) → goodB p L = false := fun h =>
  bad_row hx fun r => h ⟨r.a0, r.a1, r.q0, r.q1, r.za, r.zq⟩
theorem pred_wrap {k j : Nat} (h0 : 0 < k) (h : k - 1 = j) (h4 : k ≤ 1000000) : IntKind.i64.wrap ((k : Int) - 1) = (j : Int) ∧ wrap64 ((k : Int) - 1) = (j : Int) := by
  have e : (k : Int) - 1 = (j : Int) := by omega
  rw [e]
  refine ⟨?_, i64w (by unfold top; omega) (by unfold top; omega)⟩
  unfold IntKind.wrap
  simp [IntKind.signed, IntKind.bits]
  omega
set_option maxHeartbeats 16000000 in
set_option maxRecDepth 100000 in
theorem rr_check (v : Value) (L : List R) (p : Int) (w : World) (h : RowsIn w v L) :
    Calls Tryd.prog 45 #[v, .int .i64 p] w fun e w' => e = .returned (.bool (goodB p L)) ∧ Keeps w w' := by
  have HR := Lib.hid h
  obtain ⟨pp, cp, rfl, hmx, _, _⟩ := h
  obtain ⟨N, hN⟩ : ∃ N, L.length = N := ⟨_, rfl⟩
  have HN := Lib.hid hN
  rw [hN] at hmx HR ⊢
  clear hN
  unfold maxLen at hmx
  by_cases hall : 0 ≤ p ∧ p ≤ 2 ∧ N ≤ 400
  rotate_left
  · have E : Hid (goodB p L = false) := Lib.hid (not_good fun g => hall ⟨g.p0, g.p2, by have := g.len; have := HN.out; omega⟩)
    rcases (show p < 0 ∨ (0 ≤ p ∧ 2 < p) ∨ (0 ≤ p ∧ p ≤ 2 ∧ 400 < N) from by omega) with h1 | ⟨h1, h2⟩ | ⟨h1, h2, h3⟩
    all_goals
      clear hall
      go_enter Tryd.func45, Tryd.ntmps45
      go_wp2
      go_ret
      exact ⟨ret_bool E.out.symm, Keeps.refl _⟩
  obtain ⟨p0, p2, n400⟩ := hall
  have P0 := Lib.hid p0
  have P2 := Lib.hid p2
  have N4 := Lib.hid n400
  go_enter Tryd.func45, Tryd.ntmps45
  go_wp2_with fail
  go_loopw [5] (fun v5 W => ∃ k : Nat, k ≤ N ∧ v5 = .int .i64 (k : Int) ∧ Front p L k ∧ Keeps w W) (fun v5 _ => N - (intOf v5).toNat)
  case atStart => exact ⟨0, by omega, rfl, front_zero _ _, Keeps.refl _⟩
  case round =>
    obtain ⟨k, hk, rfl, hf, hw⟩ := hrel
    have HF := Lib.hid hf
    have HV := Lib.hid hw
    clear hf hw
    by_cases hlt : k < N
    rotate_left
    · obtain rfl : k = N := by omega
      have E : Hid (goodB p L = true) := Lib.hid (good_iff.2 (Front.good (by rw [HN.out]; exact HF.out) P0.out P2.out (by have := HN.out; have := N4.out; omega)))
      go_wp2
      go_ret
      exact ⟨ret_bool E.out.symm, HV.out⟩
    have HK := Lib.hid hlt
    obtain ⟨x, hx⟩ : ∃ x, L[k]? = some x := ⟨_, List.getElem?_eq_getElem (by have := HN.out; omega)⟩
    obtain ⟨p', c', e', _, hcc, hc⟩ := HR.out.keeps HV.out
    rw [HN.out] at e'
    simp only [Value.slice.injEq] at e'
    obtain ⟨rfl, _, rfl⟩ := e'
    obtain ⟨ad, rfl, q⟩ := hc k x hx
    have HX := Lib.hid hx
    have HCC := Lib.hid hc
    obtain ⟨q0, q1, q2, q3, q4⟩ := q
    have hi1 : (k : Int) < (N : Int) := by omega
    have hi0 : (0 : Int) ≤ (k : Int) := by omega
    obtain ⟨b, hb⟩ : ∃ b, checkK x.o x.d = b := ⟨_, rfl⟩
    have HB := Lib.hid hb
    have C1 := Lib.hid fun W => hb ▸ kr_check x.o x.d W
    obtain ⟨t, ht⟩ : ∃ b, partyK x.d = b := ⟨_, rfl⟩
    have HT := Lib.hid ht
    have C2 := Lib.hid fun W => ht ▸ kr_party x.d W
    have A1 := Lib.hid (ky_box wr (.cells #[.int .i64 x.o, .int .i64 x.d, .int .i64 x.c, .int .i64 x.a, .int .i64 x.q] tRw))
    have CX := Lib.hid (rw_cells wr x)
    unfold kyV at C1
    clear hc hx hb ht
    go_wp2_with fail
    refine (C1.out _).mono ?_
    rintro e w2 ⟨rfl, k2⟩
    have K2 := Lib.hid (HV.out.trans (A1.out.trans k2))
    obtain ⟨z0, z1, z2, z3, z4⟩ := CX.out _ k2
    have KX := Lib.hid k2
    clear k2 C1 q0 q1 q2 q3 q4
    cases b with
    | false =>
      have E : Hid (goodB p L = false) := Lib.hid (bad_row HX.out fun r => by have := HB.out; rw [check_iff.2 r.key] at this; cases this)
      go_wp2
      go_ret
      exact ⟨ret_bool E.out.symm, K2.out⟩
    | true =>
      go_wp2_with fail
      refine (C2.out _).mono ?_
      rintro e w3 ⟨rfl, rfl⟩
      by_cases htp : t = p
      rotate_left
      · have E : Hid (goodB p L = false) := Lib.hid (bad_row HX.out fun r => htp (by rw [← HT.out]; exact r.party))
        have T1 : (t == p) = false := by rw [beq_eq_false_iff_ne]; exact htp
        have T2 : (t != p) = true := by rw [bne, T1]; rfl
        clear htp
        go_wp2
        go_ret
        exact ⟨ret_bool E.out.symm, K2.out⟩
      subst htp
      by_cases hcr : 1 ≤ x.c ∧ x.c ≤ 2
      rotate_left
      · have E : Hid (goodB t L = false) := Lib.hid (bad_row HX.out fun r => hcr ⟨r.c1, r.c2⟩)
        rcases (show x.c < 1 ∨ (1 ≤ x.c ∧ 2 < x.c) from by omega) with h1 | ⟨h1, h2⟩
        all_goals
          clear hcr
          go_wp2
          go_ret
          exact ⟨ret_bool E.out.symm, K2.out⟩
      have HC := Lib.hid hcr
      obtain ⟨hc1, hc2⟩ := hcr
      go_upto_region 9 with (fail)
      clear hc1 hc2
      rcases Nat.eq_zero_or_pos k with hk0 | hk0
      · have LE : Hid (k = 0 ∨ ∃ y, L[k - 1]? = some y ∧ less y x = true) := Lib.hid (Or.inl hk0)
        have hd : decide (0 < (k : Int)) = false := decide_eq_false (by omega)
        have hd2 : decide (0 < k) = false := decide_eq_false (by omega)
        have hd3 : ¬ 0 < k := by omega
        clear hk0
        go_quiet (fail)
        have K9 := Lib.hid (keeps_drewN K2.out nq)
        have YES := Lib.hid (row_next HF.out HX.out HB.out HT.out LE.out HC.out.1 HC.out.2)
        have NO := Lib.hid (row_stop (p := t) HX.out)
        clear HC
        by_cases ht0 : t = 0
        · have T1 : (t == 0) = true := by simp [ht0]
          have T2 : (t != 0) = false := by simp [ht0]
          have HT0 := Lib.hid ht0
          clear ht0
          go_wp2
          all_goals first
            | exact ⟨⟨k + 1, by have := HK.out; omega, by go_num, YES.out (by have := HT0.out; simp_all <;> omega) (by have := HT0.out; simp_all <;> omega) (by have := HT0.out; simp_all <;> omega) (by have := HT0.out; simp_all <;> omega) (by have := HT0.out; simp_all <;> omega) (by have := HT0.out; simp_all <;> omega), K9.out⟩, by have := HK.out; simp [intOf]; omega⟩
            | (go_ret; exact ⟨ret_bool (NO.out (fun h => by obtain ⟨h1, h2, h3, h4, h5, h6⟩ := h; have := HT0.out; simp_all <;> omega)).symm, K9.out⟩)
        · have T1 : (t == 0) = false := by simp [ht0]
          have T2 : (t != 0) = true := by simp [ht0]
          have HT0 := Lib.hid ht0
          clear ht0
          go_wp2
          all_goals first
            | exact ⟨⟨k + 1, by have := HK.out; omega, by go_num, YES.out (by have := HT0.out; simp_all <;> omega) (by have := HT0.out; simp_all <;> omega) (by have := HT0.out; simp_all <;> omega) (by have := HT0.out; simp_all <;> omega) (by have := HT0.out; simp_all <;> omega) (by have := HT0.out; simp_all <;> omega), K9.out⟩, by have := HK.out; simp [intOf]; omega⟩
            | (go_ret; exact ⟨ret_bool (NO.out (fun h => by obtain ⟨h1, h2, h3, h4, h5, h6⟩ := h; have := HT0.out; simp_all <;> omega)).symm, K9.out⟩)
      · obtain ⟨j, hj⟩ : ∃ j, k - 1 = j := ⟨_, rfl⟩
        obtain ⟨y, hy⟩ : ∃ y, L[k - 1]? = some y := ⟨_, List.getElem?_eq_getElem (by have := HN.out; have := HK.out; omega)⟩
        obtain ⟨ad', ea, qy⟩ := HCC.out _ y hy
        obtain rfl := Option.some.inj ea
        rw [hj] at qy
        have QY := Lib.hid qy
        have CS : Hid (∀ W, Keeps (wr.alloc (.cells #[.int .i64 x.o, .int .i64 x.d, .int .i64 x.c, .int .i64 x.a, .int .i64 x.q] tRw)) W → (W.cell? ⟨wr.heap.size, 0, none⟩ = some (.int .i64 x.o) ∧ W.cell? ⟨wr.heap.size, 1, none⟩ = some (.int .i64 x.d)) ∧ W.cell? (ad.add (j * 5)) = some (.int .i64 y.o) ∧ W.cell? ⟨(ad.add (j * 5)).block, (ad.add (j * 5)).off + 1, none⟩ = some (.int .i64 y.d)) := Lib.hid fun W kk => by
          obtain ⟨c0, c1, _⟩ := CX.out W kk
          obtain ⟨d0, d1, _⟩ := QY.out.keeps (A1.out.trans kk)
          exact ⟨⟨c0, c1⟩, d0, d1⟩
        have hd : decide (0 < (k : Int)) = true := decide_eq_true (by omega)
        have hd2 : decide (0 < k) = true := decide_eq_true hk0
        obtain ⟨w1, w2'⟩ := pred_wrap (k := k) (j := j) hk0 hj (by have := N4.out; have := HK.out; omega)
        have hj1 : (j : Int) < (N : Int) := by have := HK.out; omega
        have hj0 : (0 : Int) ≤ (j : Int) := by omega
        obtain ⟨l, hl⟩ : ∃ b, lessK y.o y.d x.o x.d = b := ⟨_, rfl⟩
        have C3 : Hid (∀ W, Keeps (wr.alloc (.cells #[.int .i64 x.o, .int .i64 x.d, .int .i64 x.c, .int .i64 x.a, .int .i64 x.q] tRw)) W → Calls Tryd.prog 68 #[.agg #[.int .i64 y.o, .int .i64 y.d], .agg #[.int .i64 x.o, .int .i64 x.d]] W fun e w' => e = .returned (.bool l) ∧ Keeps (wr.alloc (.cells #[.int .i64 x.o, .int .i64 x.d, .int .i64 x.c, .int .i64 x.a, .int .i64 x.q] tRw)) w') := Lib.hid fun W kk => Calls.mono (hl ▸ kr_less y.o y.d x.o x.d W) fun e w' h => ⟨h.1, kk.trans h.2⟩
        have HL := Lib.hid hl
        have HY := Lib.hid hy
        have HJ := Lib.hid hj
        have HK0 := Lib.hid hk0
        clear hl hy hj qy hk0 z0 z1 z2 z3 z4
        obtain ⟨⟨z0, z1⟩, y0, y1⟩ := CS.out _ KX.out
        go_region_held3 (fun W => (W.cell? ⟨wr.heap.size, 0, none⟩ = some (.int .i64 x.o) ∧ W.cell? ⟨wr.heap.size, 1, none⟩ = some (.int .i64 x.d)) ∧ W.cell? (ad.add (j * 5)) = some (.int .i64 y.o) ∧ W.cell? ⟨(ad.add (j * 5)).block, (ad.add (j * 5)).off + 1, none⟩ = some (.int .i64 y.d))
          (first | exact CS.out _ KX.out | exact CS.out _ (KX.out.trans (ky_drew _)) | assumption)
          ((go_at_call 68; refine (C3.out _ (KX.out.trans (ky_drew _))).mono ?_; clear KX C3; rintro e wv ⟨rfl, hv⟩; have KX := Lib.hid hv; have zv := CS.out _ hv; clear hv))
        clear w1 w2' hd hd2 hj1 hj0 z0 z1 y0 y1
        have K9 := Lib.hid (HV.out.trans (A1.out.trans KX.out))
        obtain ⟨z0, z1, z2, z3, z4⟩ := CX.out _ KX.out
        cases l with
        | false =>
          have E : Hid (goodB t L = false) := Lib.hid (bad_turn (j := k - 1) (k := k) HY.out HX.out (by have := HK0.out; omega) (by unfold less; exact HL.out))
          go_wp2
          go_ret
          exact ⟨ret_bool E.out.symm, K9.out⟩
        | true =>
          have LE : Hid (k = 0 ∨ ∃ y, L[k - 1]? = some y ∧ less y x = true) := Lib.hid (Or.inr ⟨y, HY.out, by unfold less; exact HL.out⟩)
          clear HY HJ HK0 HL QY CS KX
          have YES := Lib.hid (row_next HF.out HX.out HB.out HT.out LE.out HC.out.1 HC.out.2)
          have NO := Lib.hid (row_stop (p := t) HX.out)
          clear HC
          by_cases ht0 : t = 0
          · have T1 : (t == 0) = true := by simp [ht0]
            have T2 : (t != 0) = false := by simp [ht0]
            have HT0 := Lib.hid ht0
            clear ht0
            go_wp2
            all_goals first
              | exact ⟨⟨k + 1, by have := HK.out; omega, by go_num, YES.out (by have := HT0.out; simp_all <;> omega) (by have := HT0.out; simp_all <;> omega) (by have := HT0.out; simp_all <;> omega) (by have := HT0.out; simp_all <;> omega) (by have := HT0.out; simp_all <;> omega) (by have := HT0.out; simp_all <;> omega), K9.out⟩, by have := HK.out; simp [intOf]; omega⟩
              | (go_ret; exact ⟨ret_bool (NO.out (fun h => by obtain ⟨h1, h2, h3, h4, h5, h6⟩ := h; have := HT0.out; simp_all <;> omega)).symm, K9.out⟩)
          · have T1 : (t == 0) = false := by simp [ht0]
            have T2 : (t != 0) = true := by simp [ht0]
            have HT0 := Lib.hid ht0
            clear ht0
            go_wp2
            all_goals first
              | exact ⟨⟨k + 1, by have := HK.out; omega, by go_num, YES.out (by have := HT0.out; simp_all <;> omega) (by have := HT0.out; simp_all <;> omega) (by have := HT0.out; simp_all <;> omega) (by have := HT0.out; simp_all <;> omega) (by have := HT0.out; simp_all <;> omega) (by have := HT0.out; simp_all <;> omega), K9.out⟩, by have := HK.out; simp [intOf]; omega⟩
              | (go_ret; exact ⟨ret_bool (NO.out (fun h => by obtain ⟨h1, h2, h3, h4, h5, h6⟩ := h; have := HT0.out; simp_all <;> omega)).symm, K9.out⟩)
end Go.Proofs.YtnkcbefamajghaaDoor
