
/- RowsFew, out of what the program answers (RwP): the walk. -/
import Derived.Test.YtomonhghioamfaaDoorRwBackL
import Derived.Test.YtomonhghioamfaaDoorRwFewM
import Derived.Test.YtomonhghioamfaaDoorRwFewH
import Derived.Test.YtomonhghioamfaaDoorRwFewS
import Derived.Test.YtomonhghioamfaaDoorHeldSteps
set_option linter.unusedVariables false
set_option linter.unusedSimpArgs false
namespace Go.Proofs.YtomonhghioamfaaDoor
open Go.ChangeShapes Go.WideShapes Go.ChangeAt Go.RowKit Bit Ky Rw Csv

theorem bit_is {C k m : Nat} (hm : k % 16 = m) : (Int.tmod ((C : Int) / (2 : Int) ^ m) 2 == 0) = keepB C k := by
  have e : (C : Int) / (2 : Int) ^ m = ((C / 2 ^ m : Nat) : Int) := by push_cast; rfl
  rw [e, Int.tmod_eq_emod_of_nonneg (Int.natCast_nonneg _)]
  unfold keepB
  rw [hm, Nat.shiftRight_eq_div_pow]
  rw [Bool.eq_iff_iff]
  simp only [beq_iff_eq]
  omega
set_option maxHeartbeats 16000000 in
set_option maxRecDepth 100000 in
theorem rowsFew_go (P : RwP) (v : Value) (L : List R) (p : Int) (C : Nat) (w : World) (hp : HasP w) (hl : RowsIn w v L) (hC : C < 65536) :
    Calls Tryd.prog 6 #[v, .int .i64 p, .int .u16 C] w fun e w' => e = .returned (.bool true) ∧ Keeps w w' := by
  have I0 := Lib.hid hl
  obtain ⟨q, c, rfl, hmx, _, _⟩ := hl
  obtain ⟨N, hN⟩ : ∃ N, L.length = N := ⟨_, rfl⟩
  have HN := Lib.hid hN
  rw [hN] at hmx I0 ⊢
  clear hN
  have SF := Lib.hid (stated_from P w hp)
  have ST := Lib.hid (SF.out _ (Keeps.refl _))
  have HP := Lib.hid hp
  have PP := Lib.hid P
  obtain ⟨b, hb⟩ : ∃ b, goodB p L = b := ⟨_, rfl⟩
  have HB := Lib.hid hb
  have C1 := Lib.hid (hb ▸ P.check _ L p w hp I0.out)
  unfold maxLen at hmx
  clear hp P hb
  by_cases hbig : N ≤ 100
  rotate_left
  · go_enter Tryd.func6, Tryd.ntmps6
    go_wp2_with fail
    refine (ST.out _ (Keeps.refl _)).mono ?_
    rintro e w1 ⟨rfl, k1⟩
    go_wp2
    go_ret
    exact ⟨rfl, k1⟩
  go_enter Tryd.func6, Tryd.ntmps6
  go_wp2_with fail
  refine C1.out.mono ?_
  rintro e w1 ⟨rfl, k1⟩
  have K1 := Lib.hid k1
  clear k1 C1
  cases b with
  | false =>
    go_wp2_with fail
    refine (ST.out _ K1.out).mono ?_
    rintro e w2 ⟨rfl, k2⟩
    go_wp2
    go_ret
    exact ⟨rfl, k2⟩
  | true =>
    have G := Lib.hid (good_iff.1 HB.out)
    have I1 := Lib.hid (I0.out.keeps K1.out)
    go_wp2_with fail
    go_loopw [7, 8] (fun v7 v8 W => ∃ (k n : Nat) (qf : Option Addr) (cf : Nat), k ≤ N ∧ v7 = .slice qf n cf ∧ v8 = .int .i64 (k : Int) ∧ (fewL C L k).length = n ∧ rowK.Own w1.heap.size W (.slice qf n cf) (fewL C L k) ∧ Keeps w1 W) (fun _ v8 _ => N - (intOf v8).toNat)
    case atStart => exact ⟨0, 0, none, 0, by omega, rfl, rfl, rfl, rowK.own_nil _ _, Keeps.refl _⟩
    case round =>
      obtain ⟨k, n, qf, cf, hk, rfl, rfl, hn, ho, hw⟩ := hrel
      have HNF := Lib.hid hn
      have HO := Lib.hid ho
      have HW := Lib.hid hw
      clear hn ho hw
      by_cases hlt : k < N
      · have HK := Lib.hid hlt
        obtain ⟨m, hm⟩ : ∃ m, k % 16 = m := ⟨_, rfl⟩
        have hm1 : (k : Int) % 16 = (m : Int) := by omega
        have hm2 : Int.tmod (k : Int) 16 = (m : Int) := by rw [Int.tmod_eq_emod_of_nonneg (by omega)]; exact hm1
        have hm16 : m < 16 := by omega
        obtain ⟨kb, hkb⟩ : ∃ b, keepB C k = b := ⟨_, rfl⟩
        have tb := bit_is (C := C) hm
        rw [hkb] at tb
        obtain ⟨x, hx⟩ : ∃ x, L[k]? = some x := ⟨_, List.getElem?_eq_getElem (by have := HN.out; omega)⟩
        cases kb with
        | false =>
          have NX : Hid (fewL C L (k + 1) = fewL C L k) := Lib.hid (few_no hkb)
          clear hm hkb hx
          go_wp2_with fail
          exact ⟨⟨k + 1, n, qf, cf, by have := HK.out; omega, rfl, by go_num, by rw [NX.out, HNF.out], by rw [NX.out]; exact HO.out, HW.out⟩, by have := HK.out; simp [intOf]; omega⟩
        | true =>
          have NX : Hid (fewL C L (k + 1) = fewL C L k ++ [x]) := Lib.hid (few_yes hx hkb)
          obtain ⟨p1, c1, e1, _, _, hc1⟩ := I1.out.keeps HW.out
          rw [HN.out] at e1
          simp only [Value.slice.injEq] at e1
          obtain ⟨rfl, _, rfl⟩ := e1
          obtain ⟨ad, rfl, q0, q1, q2, q3, q4⟩ := hc1 k x hx
          have LEN : Hid (n + 1 ≤ 100000) := Lib.hid (by
            have h1 := (few_sub C L k).length_le
            rw [List.length_take] at h1
            have := HNF.out
            have := HK.out
            omega)
          have hO : rowK.Own w1.heap.size wr (.slice qf (fewL C L k).length cf) (fewL C L k) := by rw [HNF.out]; exact HO.out
          obtain ⟨p5, c5, w5, R1, R2, R3⟩ := rowK.app_row (wr.alloc (.cells #[.int .i64 x.o, .int .i64 x.d, .int .i64 x.c, .int .i64 x.a, .int .i64 x.q] tRw)) w1.heap.size (.slice qf n cf) (fewL C L k) (.slice (some ⟨wr.heap.size, 0, none⟩) 1 1) [x] (rowK.own_keeps HO.out (ky_box _ _)) (rsrc_one (heap_alloc_new _ _)) (by rw [HNF.out]; exact LEN.out) (by have := HW.out.size; have := (ky_box wr (.cells #[.int .i64 x.o, .int .i64 x.d, .int .i64 x.c, .int .i64 x.a, .int .i64 x.q] tRw)).size; omega)
          rw [HNF.out] at R1 R2
          have HR : Hid ((Builtin.append_ #[tRs, tRs] tRs #[.slice qf n cf, .slice (some ⟨wr.heap.size, 0, none⟩) 1 1]).run Tryd.prog (wr.alloc (.cells #[.int .i64 x.o, .int .i64 x.d, .int .i64 x.c, .int .i64 x.a, .int .i64 x.q] tRw)) = .ok (.slice p5 (n + 1) c5) w5) := Lib.hid R1
          have O5 : Hid (rowK.Own w1.heap.size w5 (.slice p5 (n + 1) c5) (fewL C L (k + 1))) := Lib.hid (by rw [NX.out]; exact R2)
          have K5 : Hid (Keeps w1 w5) := Lib.hid (mono_grown (HW.out.trans (ky_box wr _)) R3 fun j hj => (rowK.own_lt hO j (by rw [HNF.out]; exact hj)).1)
          have hi1 : (k : Int) < (N : Int) := by omega
          have hi0 : (0 : Int) ≤ (k : Int) := by omega
          clear hm hkb hx hc1 R1 R2 R3 hO
          go_wp2_with (at_builtin; refine wpAppKnown rfl _ _ _ _ rfl _ _ _ _ rfl rfl HR.out ?_)
          exact ⟨⟨k + 1, n + 1, p5, c5, by have := HK.out; omega, rfl, by go_num, by rw [NX.out, List.length_append, HNF.out]; rfl, O5.out, K5.out⟩, by have := HK.out; simp [intOf]; omega⟩
      · obtain rfl : k = N := by omega
        have HV := HW
        have RF := Lib.hid (own_rows HO.out (by have h1 := (few_sub C L k).length_le; rw [List.length_take] at h1; omega))
        have GF := Lib.hid (good_iff.2 (few_good (out := C) G.out k))
        have C2 := Lib.hid (GF.out ▸ PP.out.check _ _ p wr (HP.out.keeps (K1.out.trans HW.out)) RF.out)
        go_wp2_with fail
        refine C2.out.mono ?_
        rintro e w3 ⟨rfl, k3⟩
        have K3 := Lib.hid (HW.out.trans k3)
        clear k3 C2
        go_wp2_with fail
        have k8 : True := trivial
        go_loopw [9] (fun v9 W => ∃ i : Nat, i ≤ k ∧ v9 = .int .i64 (i : Int) ∧ Keeps w3 W) (fun v9 _ => k - (intOf v9).toNat)
        case atStart => exact ⟨0, by omega, rfl, Keeps.refl _⟩
        case round =>
          obtain ⟨i, hi, rfl, hw⟩ := hrel
          have HW2 := Lib.hid hw
          clear hw
          by_cases hlt2 : i < k
          · have HI := Lib.hid hlt2
            obtain ⟨x, hx⟩ : ∃ x, L[i]? = some x := ⟨_, List.getElem?_eq_getElem (by have := HN.out; omega)⟩
            have IR := Lib.hid (I1.out.keeps (K3.out.trans HW2.out))
            obtain ⟨p1, c1, e1, _, hcc, hc1⟩ := IR.out
            rw [HN.out] at e1
            simp only [Value.slice.injEq] at e1
            obtain ⟨rfl, _, rfl⟩ := e1
            obtain ⟨ad, rfl, _⟩ := hc1 i x hx
            have hcap : k ≤ c := by have := hcc.1; rw [HN.out] at this; exact this
            obtain ⟨i1, hi1⟩ : ∃ j, i + 1 = j := ⟨_, rfl⟩
            obtain ⟨d, hd⟩ : ∃ j, k - i = j := ⟨_, rfl⟩
            obtain ⟨e, he⟩ : ∃ j, c - i = j := ⟨_, rfl⟩
            have u1 : IntKind.i64.wrap ((i : Int) + 1) = (i1 : Int) := (wrap_add (t := 1) hi1 (by omega) (by omega)).1
            have g1 : i1 ≤ c := by omega
            have g2 : i ≤ k := by omega
            have g3 : i < c := by omega
            have g4 : ¬ c = i := by omega
            have g5 : (k : Int) - (i : Int) = (d : Int) := by omega
            have g6 : (c : Int) - (i : Int) = (e : Int) := by omega
            have S1 : Hid (rowK.Src wr (.slice (some ad) i1 c) (L.take i1)) := Lib.hid (IR.out.front (by omega)).src
            have S2 : Hid (rowK.Src wr (.slice (some (ad.add (i * 5))) d e) (L.drop i)) := Lib.hid (by rw [← hd, ← he]; exact (IR.out.back (by omega)).src)
            have S3 : Hid (rowK.Src wr (.slice (some (ad.add (i * 5))) (k - i) (c - i)) (L.drop i)) := Lib.hid (IR.out.back (by omega)).src
            have L1 : Hid ((L.take i1).length = i1) := Lib.hid (by rw [List.length_take, HN.out]; omega)
            have L2 : Hid ((L.take i1).length ≤ 100000) := Lib.hid (by rw [L1.out]; omega)
            have L3 : Hid ((L.take i1).length + (L.drop i).length = i1 + d) := Lib.hid (by rw [L1.out, List.length_drop, HN.out, hd])
            have L4 : Hid ((L.take i1).length + (L.drop i).length ≤ 100000) := Lib.hid (by rw [L3.out]; omega)
            have HI1 := Lib.hid hi1
            have BAD : Hid (goodB p (L.take i1 ++ L.drop i) = false) := Lib.hid (by rw [← hi1]; exact twice_bad (by have := HN.out; omega))
            have L4' : Hid ((L.take i1 ++ L.drop i).length ≤ 100000) := Lib.hid (by rw [List.length_append]; exact L4.out)
            have HD := Lib.hid hd
            have HE := Lib.hid he
            clear hi1 hd he hc1 hx
            go_upto_region 14 with (fail)
            refine wp_region_held_drew (S := fun W => True) (by kernel_rfl) trivial (fun hHeld => ?_)
            refine takeH (i := 0) (d := some 52) (v := ?v0) rfl rfl (by kernel_rfl) (by kernel_rfl) (by kernel_rfl) (fun _ _ _ h => h) (Or.inl ⟨by rfl, ?y0⟩) (by assumption) ?r0
            case y0 => (intro W hSw; go_simp; try with_reducible rfl)
            try simp only [Act.put, List.setIfInBounds_toArray, List.set_cons_zero, List.set_cons_succ]
            refine takeH (i := 1) (d := some 53) (v := ?v1) rfl rfl (by kernel_rfl) (by kernel_rfl) (by kernel_rfl) (fun _ _ _ h => h) (Or.inl ⟨by rfl, ?y1⟩) (by assumption) ?r1
            case y1 => (intro W hSw; go_simp; try with_reducible rfl)
            try simp only [Act.put, List.setIfInBounds_toArray, List.set_cons_zero, List.set_cons_succ]
            refine takeH (i := 2) (d := some 54) (v := ?v2) rfl rfl (by kernel_rfl) (by kernel_rfl) (by kernel_rfl) (fun _ _ _ h => h) (Or.inl ⟨by rfl, ?y2⟩) (by assumption) ?r2
            case y2 => (intro W hSw; go_simp; try with_reducible rfl)
            try simp only [Act.put, List.setIfInBounds_toArray, List.set_cons_zero, List.set_cons_succ]
            refine takeH (i := 3) (d := some 55) (v := ?v3) rfl rfl (by kernel_rfl) (by kernel_rfl) (by kernel_rfl) (fun _ _ _ h => h) (Or.inl ⟨by rfl, ?y3⟩) (by assumption) ?r3
            case y3 => (intro W hSw; go_simp; try with_reducible rfl)
            try simp only [Act.put, List.setIfInBounds_toArray, List.set_cons_zero, List.set_cons_succ]
            refine takeH (i := 5) (d := some 57) (v := ?v5) rfl rfl (by kernel_rfl) (by kernel_rfl) (by kernel_rfl) (fun _ _ _ h => h) (Or.inl ⟨by rfl, ?y5⟩) (by assumption) ?r5
            case y5 => (intro W hSw; go_simp; try with_reducible rfl)
            try simp only [Act.put, List.setIfInBounds_toArray, List.set_cons_zero, List.set_cons_succ]
            refine takeH (i := 6) (d := some 58) (v := ?v6) rfl rfl (by kernel_rfl) (by kernel_rfl) (by kernel_rfl) (fun _ _ _ h => h) (Or.inl ⟨by rfl, ?y6⟩) (by assumption) ?r6
            case y6 => (intro W hSw; go_simp; try with_reducible rfl)
            try simp only [Act.put, List.setIfInBounds_toArray, List.set_cons_zero, List.set_cons_succ]
            refine takeH (i := 7) (d := some 59) (v := ?v7) rfl rfl (by kernel_rfl) (by kernel_rfl) (by kernel_rfl) (fun _ _ _ h => h) (Or.inl ⟨by rfl, ?y7⟩) (by assumption) ?r7
            case y7 => (intro W hSw; go_simp; try with_reducible rfl)
            try simp only [Act.put, List.setIfInBounds_toArray, List.set_cons_zero, List.set_cons_succ]
            refine wpAnyH_ready (rs := [4]) (by kernel_rfl) (by simp) ?_
            refine AllReadyH.cons rfl (fun K hK => ?_) AllReadyH.nil
            refine stepCopyK rowK rfl _ _ rfl rfl wr (ky_drew wr) (.slice (some ad) i1 c) (L.take i1) i1 L1.out rfl rfl S1.out L2.out ?_
            intro p5 c5 w5 o5 b5 _
            have O5 := Lib.hid o5
            have B5 := Lib.hid b5
            clear o5 b5
            refine hK.out _ _ trivial (fun hHeld => ?_)
            clear hK K
            try simp only [Act.put, List.setIfInBounds_toArray, List.set_cons_zero, List.set_cons_succ]
            refine wpAnyH_ready (rs := [8]) (by kernel_rfl) (by simp) ?_
            refine AllReadyH.cons rfl (fun K hK => ?_) AllReadyH.nil
            refine stepAppOwnK rowK rfl _ _ rfl rfl wr.heap.size B5.out.size _ _ (L.take i1) (L.drop i) (i1 + d) L3.out rfl rfl O5.out ?hsrc L4.out ?_
            case hsrc => first | exact RowK.Src.keeps rowK S2.out B5.out | exact RowK.Src.keeps rowK S3.out B5.out
            intro p6 c6 w6 o6 b6
            have O6 := Lib.hid o6
            have hO5 : rowK.Own wr.heap.size w5 (.slice p5 (L.take i1).length c5) (L.take i1) := by rw [L1.out]; exact O5.out
            have B6 := Lib.hid (mono_grown B5.out b6 (fun j hj => (rowK.own_lt hO5 j (by rw [L1.out]; exact hj)).1))
            clear hO5
            clear o6 b6
            refine hK.out _ _ trivial (fun hHeld => ?_)
            clear hK K
            try simp only [Act.put, List.setIfInBounds_toArray, List.set_cons_zero, List.set_cons_succ]
            refine wpAnyH_ready (rs := [9]) (by kernel_rfl) (by simp) ?_
            refine AllReadyH.cons rfl (fun K hK => ?_) AllReadyH.nil
            go_simp
            refine hK.out _ _ trivial (fun hHeld => ?_)
            clear hK K
            try simp only [Act.put, List.setIfInBounds_toArray, List.set_cons_zero, List.set_cons_succ]
            refine wpAnyH_done (by kernel_rfl) ?_ _
            have RT := Lib.hid (own_rows O6.out L4'.out)
            have C3 : Hid (Calls Tryd.prog 9 #[.slice p6 (i1 + d) c6, .int .i64 p] w6 fun e w' => e = .returned (.bool false) ∧ Keeps w6 w') := Lib.hid (BAD.out ▸ PP.out.check _ _ p w6 (HP.out.keeps (K1.out.trans (K3.out.trans (HW2.out.trans B6.out)))) RT.out)
            clear hHeld
            go_wp2_with fail
            refine C3.out.mono ?_
            rintro e w7 ⟨rfl, k7⟩
            have K7 := Lib.hid (B6.out.trans k7)
            clear k7 C3 RT O6 O5 B5 B6 S1 S2 S3 g5 g6 u1
            obtain ⟨x, hx⟩ : ∃ x, L[i]? = some x := ⟨_, List.getElem?_eq_getElem (by have := HN.out; have := HI.out; omega)⟩
            have HX := Lib.hid hx
            clear hx
            rcases Nat.eq_zero_or_pos i with h0 | h0
            case' inl =>
              have hd : decide (0 < (i : Int)) = false := decide_eq_false (by omega)
              have hd2 : decide (0 < i) = false := decide_eq_false (by omega)
              have hd3 : ¬ 0 < i := by omega
              have K9 := Lib.hid K7.out
              clear h0 K7
            case' inr =>
              have hd : decide (0 < (i : Int)) = true := decide_eq_true (by omega)
              have hd2 : decide (0 < i) = true := decide_eq_true h0
              have H0 := Lib.hid h0
              obtain ⟨j, hj⟩ : ∃ j, i - 1 = j := ⟨_, rfl⟩
              have HJ := Lib.hid hj
              obtain ⟨y, hy⟩ : ∃ y, L[i - 1]? = some y := ⟨_, List.getElem?_eq_getElem (by have := HN.out; have := HI.out; omega)⟩
              have HY := Lib.hid hy
              obtain ⟨u1, u2⟩ := pred_wrap (k := i) (j := j) h0 hj (by have := HI.out; omega)
              have hj1 : (j : Int) < (k : Int) := by have := HI.out; omega
              have hj0 : (0 : Int) ≤ (j : Int) := by omega
              have hi1 : (i : Int) < (k : Int) := by have := HI.out; omega
              have hi0 : (0 : Int) ≤ (i : Int) := by omega
              have TB := Lib.hid (turned_bad G.out h0 hy HX.out)
              obtain ⟨qo, co, w8, R1, R2, R3⟩ := rowK.copy_row w7 (.slice (some ad) k c) L (IR.out.keeps K7.out).src (by have := HN.out; omega)
              rw [HN.out] at R1
              have R2' : rowK.Own w7.heap.size w8 (.slice qo k co) L := by have := R2; rw [HN.out] at this; exact this
              have hg : ∃ g, qo = some ⟨g, 0, none⟩ := by
                rcases R2'.2 with ⟨_, h⟩ | ⟨g, cap, cur, e, _⟩
                · have := HN.out; have := HI.out; omega
                · simp only [Value.slice.injEq] at e
                  exact ⟨g, e.1⟩
              obtain ⟨g, rfl⟩ := hg
              have HR : Hid ((Builtin.append_ #[tRs, tRs] tRs #[.slice none 0 0, .slice (some ad) k c]).run Tryd.prog w7 = .ok (.slice (some ⟨g, 0, none⟩) k co) w8) := Lib.hid R1
              have O8 := Lib.hid R2'
              have K8 := Lib.hid R3
              clear h0 hj hy R1 R2 R2' R3
              go_wp2_with (at_builtin; refine wpAppKnown rfl _ _ _ _ rfl _ _ _ _ rfl rfl HR.out ?_)
              have x8 := own_at5 O8.out (i := j) (x := y) (by rw [← HJ.out]; exact HY.out)
              have y8 := own_at5 O8.out (i := i) (x := x) HX.out
              obtain ⟨⟨x0, x1, x2, x3, x4⟩, f0, f1, f2, f3, f4⟩ := x8
              obtain ⟨⟨y0, y1, y2, y3, y4⟩, g0, g1, g2, g3, g4⟩ := y8
              have GB : Hid (w7.heap.size ≤ g) := Lib.hid (rowK.own_lt O8.out g rfl).1
              have IL : Hid (i < L.length) := Lib.hid (by have := HN.out; have := HI.out; omega)
              have JL : Hid (j < (L.set i y).length) := Lib.hid (by rw [List.length_set]; have := HN.out; have := HI.out; have := HJ.out; omega)
              have SJ : Hid ((L.set i y)[j]? = some y) := Lib.hid (by rw [List.getElem?_set_ne (by have := HJ.out; have := H0.out; omega), ← HJ.out]; exact HY.out)
              refine wp_region_held_drew (S := fun W => True) (by kernel_rfl) trivial (fun hHeld => ?_)
              refine takeH (i := 0) (d := some 68) (v := ?zv0) rfl rfl (by kernel_rfl) (by kernel_rfl) (by kernel_rfl) (fun _ _ _ h => h) (Or.inl ⟨by rfl, ?zy0⟩) (by assumption) ?zr0
              case zy0 => (intro W hSw; go_simp; try with_reducible rfl)
              try simp only [Act.put, List.setIfInBounds_toArray, List.set_cons_zero, List.set_cons_succ]
              refine takeH (i := 1) (d := some 69) (v := ?zv1) rfl rfl (by kernel_rfl) (by kernel_rfl) (by kernel_rfl) (fun _ _ _ h => h) (Or.inl ⟨by rfl, ?zy1⟩) (by assumption) ?zr1
              case zy1 => (intro W hSw; go_simp; try with_reducible rfl)
              try simp only [Act.put, List.setIfInBounds_toArray, List.set_cons_zero, List.set_cons_succ]
              refine takeH (i := 2) (d := some 70) (v := ?zv2) rfl rfl (by kernel_rfl) (by kernel_rfl) (by kernel_rfl) (fun _ _ _ h => h) (Or.inl ⟨by rfl, ?zy2⟩) (by assumption) ?zr2
              case zy2 => (intro W hSw; go_simp; try with_reducible rfl)
              try simp only [Act.put, List.setIfInBounds_toArray, List.set_cons_zero, List.set_cons_succ]
              refine takeH (i := 3) (d := some 71) (v := ?zv3) rfl rfl (by kernel_rfl) (by kernel_rfl) (by kernel_rfl) (fun _ _ _ h => h) (Or.inl ⟨by rfl, ?zy3⟩) (by assumption) ?zr3
              case zy3 => (intro W hSw; go_simp; try with_reducible rfl)
              try simp only [Act.put, List.setIfInBounds_toArray, List.set_cons_zero, List.set_cons_succ]
              refine takeH (i := 4) (d := some 72) (v := ?zv4) rfl rfl (by kernel_rfl) (by kernel_rfl) (by kernel_rfl) (fun _ _ _ h => h) (Or.inl ⟨by rfl, ?zy4⟩) (by assumption) ?zr4
              case zy4 => (intro W hSw; go_simp; try with_reducible rfl)
              try simp only [Act.put, List.setIfInBounds_toArray, List.set_cons_zero, List.set_cons_succ]
              refine takeH (i := 5) (d := some 73) (v := ?zv5) rfl rfl (by kernel_rfl) (by kernel_rfl) (by kernel_rfl) (fun _ _ _ h => h) (Or.inl ⟨by rfl, ?zy5⟩) (by assumption) ?zr5
              case zy5 => (intro W hSw; go_simp; try with_reducible rfl)
              try simp only [Act.put, List.setIfInBounds_toArray, List.set_cons_zero, List.set_cons_succ]
              refine takeH (i := 6) (d := some 74) (v := ?zv6) rfl rfl (by kernel_rfl) (by kernel_rfl) (by kernel_rfl) (fun _ _ _ h => h) (Or.inl ⟨by rfl, ?zy6⟩) (by assumption) ?zr6
              case zy6 => (intro W hSw; go_simp; try with_reducible rfl)
              try simp only [Act.put, List.setIfInBounds_toArray, List.set_cons_zero, List.set_cons_succ]
              refine takeH (i := 7) (d := some 75) (v := ?zv7) rfl rfl (by kernel_rfl) (by kernel_rfl) (by kernel_rfl) (fun _ _ _ h => h) (Or.inl ⟨by rfl, ?zy7⟩) (by assumption) ?zr7
              case zy7 => (intro W hSw; go_simp; try with_reducible rfl)
              try simp only [Act.put, List.setIfInBounds_toArray, List.set_cons_zero, List.set_cons_succ]
              refine takeH (i := 8) (d := some 76) (v := ?zv8) rfl rfl (by kernel_rfl) (by kernel_rfl) (by kernel_rfl) (fun _ _ _ h => h) (Or.inl ⟨by rfl, ?zy8⟩) (by assumption) ?zr8
              case zy8 => (intro W hSw; go_simp; try with_reducible rfl)
              try simp only [Act.put, List.setIfInBounds_toArray, List.set_cons_zero, List.set_cons_succ]
              refine takeH (i := 10) (d := some 78) (v := ?zv10) rfl rfl (by kernel_rfl) (by kernel_rfl) (by kernel_rfl) (fun _ _ _ h => h) (Or.inl ⟨by rfl, ?zy10⟩) (by assumption) ?zr10
              case zy10 => (intro W hSw; go_simp; try with_reducible rfl)
              try simp only [Act.put, List.setIfInBounds_toArray, List.set_cons_zero, List.set_cons_succ]
              refine takeH (i := 11) (d := some 79) (v := ?zv11) rfl rfl (by kernel_rfl) (by kernel_rfl) (by kernel_rfl) (fun _ _ _ h => h) (Or.inl ⟨by rfl, ?zy11⟩) (by assumption) ?zr11
              case zy11 => (intro W hSw; go_simp; try with_reducible rfl)
              try simp only [Act.put, List.setIfInBounds_toArray, List.set_cons_zero, List.set_cons_succ]
              refine takeH (i := 12) (d := some 80) (v := ?zv12) rfl rfl (by kernel_rfl) (by kernel_rfl) (by kernel_rfl) (fun _ _ _ h => h) (Or.inl ⟨by rfl, ?zy12⟩) (by assumption) ?zr12
              case zy12 => (intro W hSw; go_simp; try with_reducible rfl)
              try simp only [Act.put, List.setIfInBounds_toArray, List.set_cons_zero, List.set_cons_succ]
              refine wpAnyH_ready (rs := [9, 13]) (by kernel_rfl) (by simp) ?_
              refine AllReadyH.cons rfl (fun K hK => ?_) (AllReadyH.cons rfl (fun K hK => ?_) AllReadyH.nil)
              focus
                go_simp
                refine hK.out _ _ trivial (fun hHeld => ?_)
                clear hK K
                try simp only [Act.put, List.setIfInBounds_toArray, List.set_cons_zero, List.set_cons_succ]
                refine wpAnyH_ready (rs := [13]) (by kernel_rfl) (by simp) ?_
                refine AllReadyH.cons rfl (fun K hK => ?_) AllReadyH.nil
                go_simp
                refine hK.out _ _ trivial (fun hHeld => ?_)
                clear hK K
                try simp only [Act.put, List.setIfInBounds_toArray, List.set_cons_zero, List.set_cons_succ]
                refine takeH (i := 14) (d := some 82) (v := ?av14) rfl rfl (by kernel_rfl) (by kernel_rfl) (by kernel_rfl) (fun _ _ _ h => h) (Or.inl ⟨by rfl, ?ay14⟩) (by assumption) ?ar14
                case ay14 => (intro W hSw; go_simp; try with_reducible rfl)
                try simp only [Act.put, List.setIfInBounds_toArray, List.set_cons_zero, List.set_cons_succ]
                refine wpAnyH_ready (rs := [15]) (by kernel_rfl) (by simp) ?_
                refine AllReadyH.cons rfl (fun K hK => ?_) AllReadyH.nil
                go_simp
                refine hK.out _ _ trivial (fun hHeld => ?_)
                clear hK K
                try simp only [Act.put, List.setIfInBounds_toArray, List.set_cons_zero, List.set_cons_succ]
                clear x0 x1 x2 x3 x4 y0 y1 y2 y3 y4 f0 f1 f2 f3 f4 g0 g1 g2 g3 g4
                obtain ⟨W1, hW1⟩ : ∃ W1, fiveR w8 g (i * 5) y = W1 := ⟨_, rfl⟩
                have OS1 := Lib.hid (hW1 ▸ own_set5 (x := y) O8.out IL.out)
                have KS1 := Lib.hid (hW1 ▸ fiveR_keeps (m := i * 5) K8.out GB.out y)
                unfold fiveR at hW1
                rw [hW1]
                clear hW1
                obtain ⟨⟨x0, x1, x2, x3, x4⟩, f0, f1, f2, f3, f4⟩ := own_at5 OS1.out (i := j) (x := y) SJ.out
                refine takeH (i := 16) (d := some 83) (v := ?av16) rfl rfl (by kernel_rfl) (by kernel_rfl) (by kernel_rfl) (fun _ _ _ h => h) (Or.inl ⟨by rfl, ?ay16⟩) (by assumption) ?ar16
                case ay16 => (intro W hSw; go_simp; try with_reducible rfl)
                try simp only [Act.put, List.setIfInBounds_toArray, List.set_cons_zero, List.set_cons_succ]
                refine wpAnyH_ready (rs := [17]) (by kernel_rfl) (by simp) ?_
                refine AllReadyH.cons rfl (fun K hK => ?_) AllReadyH.nil
                go_simp
                refine hK.out _ _ trivial (fun hHeld => ?_)
                clear hK K
                try simp only [Act.put, List.setIfInBounds_toArray, List.set_cons_zero, List.set_cons_succ]
                refine wpAnyH_done (by kernel_rfl) ?_ _
                clear x0 x1 x2 x3 x4 f0 f1 f2 f3 f4
                obtain ⟨W2, hW2⟩ : ∃ W2, fiveR W1 g (j * 5) x = W2 := ⟨_, rfl⟩
                have OS2 := Lib.hid (hW2 ▸ own_set5 (x := x) OS1.out JL.out)
                have KS2 := Lib.hid (Keeps.trans (hW2 ▸ fiveR_keeps (m := j * 5) KS1.out GB.out x) (ky_drew W2))
                have OS2 := Lib.hid (rowK.own_keeps OS2.out (ky_drew W2))
                unfold fiveR at hW2
                rw [hW2]
                clear hW2 hHeld
              rotate_left
              focus
                go_simp
                refine hK.out _ _ trivial (fun hHeld => ?_)
                clear hK K
                try simp only [Act.put, List.setIfInBounds_toArray, List.set_cons_zero, List.set_cons_succ]
                refine wpAnyH_ready (rs := [9]) (by kernel_rfl) (by simp) ?_
                refine AllReadyH.cons rfl (fun K hK => ?_) AllReadyH.nil
                go_simp
                refine hK.out _ _ trivial (fun hHeld => ?_)
                clear hK K
                try simp only [Act.put, List.setIfInBounds_toArray, List.set_cons_zero, List.set_cons_succ]
                refine takeH (i := 14) (d := some 82) (v := ?bv14) rfl rfl (by kernel_rfl) (by kernel_rfl) (by kernel_rfl) (fun _ _ _ h => h) (Or.inl ⟨by rfl, ?by14⟩) (by assumption) ?br14
                case by14 => (intro W hSw; go_simp; try with_reducible rfl)
                try simp only [Act.put, List.setIfInBounds_toArray, List.set_cons_zero, List.set_cons_succ]
                refine wpAnyH_ready (rs := [15]) (by kernel_rfl) (by simp) ?_
                refine AllReadyH.cons rfl (fun K hK => ?_) AllReadyH.nil
                go_simp
                refine hK.out _ _ trivial (fun hHeld => ?_)
                clear hK K
                try simp only [Act.put, List.setIfInBounds_toArray, List.set_cons_zero, List.set_cons_succ]
                clear x0 x1 x2 x3 x4 y0 y1 y2 y3 y4 f0 f1 f2 f3 f4 g0 g1 g2 g3 g4
                obtain ⟨W1, hW1⟩ : ∃ W1, fiveR w8 g (i * 5) y = W1 := ⟨_, rfl⟩
                have OS1 := Lib.hid (hW1 ▸ own_set5 (x := y) O8.out IL.out)
                have KS1 := Lib.hid (hW1 ▸ fiveR_keeps (m := i * 5) K8.out GB.out y)
                unfold fiveR at hW1
                rw [hW1]
                clear hW1
                obtain ⟨⟨x0, x1, x2, x3, x4⟩, f0, f1, f2, f3, f4⟩ := own_at5 OS1.out (i := j) (x := y) SJ.out
                refine takeH (i := 16) (d := some 83) (v := ?bv16) rfl rfl (by kernel_rfl) (by kernel_rfl) (by kernel_rfl) (fun _ _ _ h => h) (Or.inl ⟨by rfl, ?by16⟩) (by assumption) ?br16
                case by16 => (intro W hSw; go_simp; try with_reducible rfl)
                try simp only [Act.put, List.setIfInBounds_toArray, List.set_cons_zero, List.set_cons_succ]
                refine wpAnyH_ready (rs := [17]) (by kernel_rfl) (by simp) ?_
                refine AllReadyH.cons rfl (fun K hK => ?_) AllReadyH.nil
                go_simp
                refine hK.out _ _ trivial (fun hHeld => ?_)
                clear hK K
                try simp only [Act.put, List.setIfInBounds_toArray, List.set_cons_zero, List.set_cons_succ]
                refine wpAnyH_done (by kernel_rfl) ?_ _
                clear x0 x1 x2 x3 x4 f0 f1 f2 f3 f4
                obtain ⟨W2, hW2⟩ : ∃ W2, fiveR W1 g (j * 5) x = W2 := ⟨_, rfl⟩
                have OS2 := Lib.hid (hW2 ▸ own_set5 (x := x) OS1.out JL.out)
                have KS2 := Lib.hid (Keeps.trans (hW2 ▸ fiveR_keeps (m := j * 5) KS1.out GB.out x) (ky_drew W2))
                have OS2 := Lib.hid (rowK.own_keeps OS2.out (ky_drew W2))
                unfold fiveR at hW2
                rw [hW2]
                clear hW2 hHeld
              all_goals
                have RX := Lib.hid (own_rows OS2.out (by rw [List.length_set, List.length_set]; have := HN.out; have := HI.out; omega))
                have C4 : Hid (Calls Tryd.prog 9 #[.slice (some ⟨g, 0, none⟩) k co, .int .i64 p] W2.drew fun e w' => e = .returned (.bool false) ∧ Keeps W2.drew w') := Lib.hid (by
                  have t := TB.out
                  rw [HJ.out] at t
                  exact t ▸ PP.out.check _ _ p W2.drew (HP.out.keeps (K1.out.trans (K3.out.trans (HW2.out.trans (K7.out.trans KS2.out))))) RX.out)
                clear hj1 hj0 hi1 hi0 u1 u2
                go_wp2_with fail
                refine C4.out.mono ?_
                rintro e w9 ⟨rfl, k9⟩
                have K9 := Lib.hid ((K7.out.trans KS2.out).trans k9)
                clear k9 C4 RX OS1 OS2 KS1 KS2 K7 K8 O8 HR SJ JL TB
            all_goals
              clear hd hd2
              obtain ⟨p9, c9, e9, _, _, hc9⟩ := IR.out.keeps K9.out
              rw [HN.out] at e9
              simp only [Value.slice.injEq] at e9
              obtain ⟨rfl, _, rfl⟩ := e9
              obtain ⟨a9, ea9, q0, q1, q2, q3, q4⟩ := hc9 i x HX.out
              cases ea9
              have KW := Lib.hid (K1.out.trans (K3.out.trans (HW2.out.trans K9.out)))
              obtain ⟨nn, hnn⟩ : ∃ nn, netR x.o L = nn := ⟨_, rfl⟩
              obtain ⟨nb1, nb2⟩ := net_reach x.o L
              have OT := Lib.hid fun h : p ≠ 0 => net_other (o := x.o) G.out h
              rw [hnn] at nb1 nb2 OT
              have CN := Lib.hid (hnn ▸ PP.out.net _ L x.o _ (HP.out.keeps KW.out) (IR.out.keeps K9.out))
              have hi1 : (i : Int) < (k : Int) := by have := HI.out; omega
              have hi0 : (0 : Int) ≤ (i : Int) := by omega
              have nb3 : ¬ (1099511627776 < nn) := by omega
              have nb4 : ¬ (nn < -1099511627776) := by omega
              clear hnn hc9
              by_cases hp0 : p = 0
              · have t : (p == 0) = true := by rw [hp0]; rfl
                have t2 : (p != 0) = false := by rw [bne, t]; rfl
                clear hp0
                go_wp2_with fail
                refine CN.out.mono ?_
                rintro e wz ⟨rfl, kz⟩
                have KZ := Lib.hid ((HW2.out.trans K9.out).trans kz)
                clear kz CN
                go_wp2_with fail
                exact ⟨⟨i + 1, by have := HI.out; omega, by go_num, KZ.out⟩, by have := HI.out; simp [intOf]; omega⟩
              · obtain rfl := OT.out hp0
                have t : (p == 0) = false := by rw [beq_eq_false_iff_ne]; exact hp0
                have t2 : (p != 0) = true := by rw [bne, t]; rfl
                clear hp0
                go_wp2_with fail
                refine CN.out.mono ?_
                rintro e wz ⟨rfl, kz⟩
                have KZ := Lib.hid ((HW2.out.trans K9.out).trans kz)
                clear kz CN
                go_wp2_with fail
                exact ⟨⟨i + 1, by have := HI.out; omega, by go_num, KZ.out⟩, by have := HI.out; simp [intOf]; omega⟩
          · obtain rfl : i = k := by omega
            go_wp2_with fail
            refine (ST.out _ (K1.out.trans (K3.out.trans HW2.out))).mono ?_
            rintro e w9 ⟨rfl, k9⟩
            go_wp2
            go_ret
            exact ⟨rfl, k9⟩
end Go.Proofs.YtomonhghioamfaaDoor
