/- The program's rows: Same, Net. -/
import Derived.Test.YthnjjeofpemdoaaDoorRwRefV
import Derived.Test.YthnjjeofpemdoaaDoorRwRefN
import Derived.Test.YthnjjeofpemdoaaDoorRwC1
set_option linter.unusedVariables false
namespace Go.Proofs.YthnjjeofpemdoaaDoor
open Go.ChangeShapes Go.WideShapes Go.ChangeAt Go.RowKit Bit Ky Rw Csv

set_option maxHeartbeats 16000000 in
set_option maxRecDepth 100000 in
theorem pw_equal (v v' : Value) (L M : List R) (w : World) (h : RowsIn w v L) (g : RowsIn w v' M) :
    Calls Tryd.prog 34 #[v, v'] w fun e w' => e = .returned (.bool (decide (L = M))) ∧ Keeps w w' := by
  have HL := Lib.hid h
  have HM := Lib.hid g
  obtain ⟨pl, cl, rfl, hlm, _, _⟩ := h
  obtain ⟨pm, cm, rfl, hmm, _, _⟩ := g
  obtain ⟨N, hN⟩ : ∃ N, L.length = N := ⟨_, rfl⟩
  obtain ⟨N', hN'⟩ : ∃ N, M.length = N := ⟨_, rfl⟩
  have HN := Lib.hid hN
  have HN' := Lib.hid hN'
  rw [hN] at HL hlm
  rw [hN'] at HM hmm
  unfold maxLen at hlm hmm
  rw [hN, hN']
  clear hN hN'
  by_cases hall : N = N'
  rotate_left
  · have E : Hid (decide (L = M) = false) := Lib.hid (decide_eq_false fun e => hall (by rw [← HN.out, ← HN'.out, e]))
    have t : ((N : Int) == (N' : Int)) = false := by rw [beq_eq_false_iff_ne]; omega
    have t2 : ((N : Int) != (N' : Int)) = true := by rw [bne, t]; rfl
    clear hall
    go_enter Tryd.func34, Tryd.ntmps34
    go_wp2
    go_ret
    exact ⟨ret_bool E.out.symm, Keeps.refl _⟩
  subst hall
  go_enter Tryd.func34, Tryd.ntmps34
  go_wp2_with fail
  go_loopw [13] (fun v13 W => ∃ k : Nat, k ≤ N ∧ v13 = .int .i64 (k : Int) ∧ L.take k = M.take k ∧ Keeps w W) (fun v13 _ => N - (intOf v13).toNat)
  case atStart => exact ⟨0, by omega, rfl, by simp, Keeps.refl _⟩
  case round =>
    obtain ⟨k, hk, rfl, hf, hw⟩ := hrel
    have HF := Lib.hid hf
    have HW := Lib.hid hw
    clear hf hw
    by_cases hlt : k < N
    rotate_left
    · obtain rfl : k = N := by omega
      have E : Hid (decide (L = M) = true) := Lib.hid (by
        have := HF.out
        rw [List.take_of_length_le (by rw [HN.out]; exact Nat.le_refl _), List.take_of_length_le (by rw [HN'.out]; exact Nat.le_refl _)] at this
        exact decide_eq_true this)
      go_wp2
      go_ret
      exact ⟨ret_bool E.out.symm, HW.out⟩
    have HK := Lib.hid hlt
    obtain ⟨x, hx⟩ : ∃ x, L[k]? = some x := ⟨_, List.getElem?_eq_getElem (by have := HN.out; omega)⟩
    obtain ⟨y, hy⟩ : ∃ x, M[k]? = some x := ⟨_, List.getElem?_eq_getElem (by have := HN'.out; omega)⟩
    obtain ⟨p1, c1, e1, _, _, hc1⟩ := HL.out.keeps HW.out
    obtain ⟨p2, c2, e2, _, _, hc2⟩ := HM.out.keeps HW.out
    rw [HN.out] at e1
    rw [HN'.out] at e2
    simp only [Value.slice.injEq] at e1 e2
    obtain ⟨rfl, _, rfl⟩ := e1
    obtain ⟨rfl, _, rfl⟩ := e2
    obtain ⟨ad, rfl, q⟩ := hc1 k x hx
    obtain ⟨bd, rfl, r⟩ := hc2 k y hy
    have HX := Lib.hid hx
    have HY := Lib.hid hy
    obtain ⟨q0, q1, q2, q3, q4⟩ := q
    obtain ⟨r0, r1, r2, r3, r4⟩ := r
    have hi1 : (k : Int) < (N : Int) := by omega
    have hi0 : (0 : Int) ≤ (k : Int) := by omega
    clear hc1 hc2 hx hy
    go_upto_region 6 with (fail)
    obtain ⟨xo, xd, xc, xa, xq⟩ := x
    obtain ⟨yo, yd, yc, ya, yq⟩ := y
    dsimp only at q0 q1 q2 q3 q4 r0 r1 r2 r3 r4
    by_cases hxy : xo = yo ∧ xd = yd ∧ xc = yc ∧ xa = ya ∧ xq = yq
    · obtain ⟨rfl, rfl, rfl, rfl, rfl⟩ := hxy
      have NX := Lib.hid (same_next HF.out HX.out HY.out)
      go_quiet (fail)
      have HW2 := Lib.hid (keeps_drewN HW.out nq)
      go_wp2_with fail
      exact ⟨⟨k + 1, by have := HK.out; omega, by go_num, NX.out, HW2.out⟩, by have := HK.out; simp [intOf]; omega⟩
    · have E : Hid (decide (L = M) = false) := Lib.hid (decide_eq_false fun e => hxy (by
        have e2 := HX.out
        rw [e, HY.out] at e2
        simp only [Option.some.injEq, R.mk.injEq] at e2
        exact ⟨e2.1.symm, e2.2.1.symm, e2.2.2.1.symm, e2.2.2.2.1.symm, e2.2.2.2.2.symm⟩))
      rcases (show xo ≠ yo ∨ (xo = yo ∧ xd ≠ yd) ∨ (xo = yo ∧ xd = yd ∧ xc ≠ yc) ∨ (xo = yo ∧ xd = yd ∧ xc = yc ∧ xa ≠ ya) ∨ (xo = yo ∧ xd = yd ∧ xc = yc ∧ xa = ya ∧ xq ≠ yq) from by omega) with e | ⟨rfl, e⟩ | ⟨rfl, rfl, e⟩ | ⟨rfl, rfl, rfl, e⟩ | ⟨rfl, rfl, rfl, rfl, e⟩
      all_goals
        have e4 := beq_eq_false_iff_ne.2 e
        clear e hxy
        go_quiet (fail)
        go_wp2
        go_ret
        exact ⟨ret_bool E.out.symm, keeps_drewN HW.out _⟩
/-- Two statements in their boxes. -/
theorem two_st (w : World) (p s p' s' : Int) (v v' : Value) : ∀ W, Keeps ((w.alloc (stBox p s v)).alloc (stBox p' s' v')) W → (W.cell? ⟨w.heap.size, 0, none⟩ = some (.int .i64 p) ∧ W.cell? ⟨w.heap.size, 1, none⟩ = some (.int .i64 s) ∧ W.cell? ⟨w.heap.size, 2, none⟩ = some v) ∧ W.cell? ⟨w.heap.size + 1, 0, none⟩ = some (.int .i64 p') ∧ W.cell? ⟨w.heap.size + 1, 1, none⟩ = some (.int .i64 s') ∧ W.cell? ⟨w.heap.size + 1, 2, none⟩ = some v' := fun W k => by
  have h0 : (w.alloc (stBox p s v)).heap.size = w.heap.size + 1 := by simp
  have c2 := st_cells (w.alloc (stBox p s v)) p' s' v' W k
  rw [h0] at c2
  exact ⟨st_cells w p s v W ((ky_box _ _).trans k), c2⟩
set_option maxHeartbeats 4000000 in
theorem pw_same (p s p' s' : Int) (v v' : Value) (L M : List R) (w : World) (h : RowsIn w v L) (g : RowsIn w v' M) :
    Calls Tryd.prog 19 #[stV p s v, stV p' s' v'] w fun e w' => e = .returned (.bool (sameB p s p' s' L M)) ∧ Keeps w w' := by
  have KB := Lib.hid ((ky_box w (stBox p s v)).trans (ky_box _ (stBox p' s' v')))
  have CX := Lib.hid (two_st w p s p' s' v v')
  obtain ⟨b, hb⟩ : ∃ b, decide (L = M) = b := ⟨_, rfl⟩
  have HB := Lib.hid hb
  have C : Hid (∀ W, Keeps ((w.alloc (stBox p s v)).alloc (stBox p' s' v')) W → Calls Tryd.prog 34 #[v, v'] W fun e w' => e = .returned (.bool b) ∧ Keeps w w') := Lib.hid fun W k => (hb ▸ pw_equal v v' L M W (h.keeps (KB.out.trans k)) (g.keeps (KB.out.trans k))).mono fun e w' g => ⟨g.1, KB.out.trans (k.trans g.2)⟩
  unfold stBox at KB CX C
  unfold stV
  clear hb h g
  obtain ⟨⟨x0, x1, x2⟩, y0, y1, y2⟩ := CX.out _ (Keeps.refl _)
  rcases (show p ≠ p' ∨ (p = p' ∧ s ≠ s') ∨ (p = p' ∧ s = s') from by omega) with h1 | ⟨h1, h2⟩ | ⟨h1, h2⟩
  · have E : Hid (sameB p s p' s' L M = false) := Lib.hid (same_no fun e => h1 e.1)
    have t : (p == p') = false := by rw [beq_eq_false_iff_ne]; exact h1
    clear h1
    go_enter Tryd.func19, Tryd.ntmps19
    go_wp2
    go_ret
    exact ⟨ret_bool E.out.symm, KB.out⟩
  · subst h1
    have E : Hid (sameB p s p s' L M = false) := Lib.hid (same_no fun e => h2 e.2.1)
    have t : (s == s') = false := by rw [beq_eq_false_iff_ne]; exact h2
    clear h2
    go_enter Tryd.func19, Tryd.ntmps19
    go_wp2
    go_ret
    exact ⟨ret_bool E.out.symm, KB.out⟩
  · subst h1 h2
    have E : Hid (sameB p s p s L M = b) := Lib.hid (by unfold sameB; rw [← HB.out]; simp)
    go_enter Tryd.func19, Tryd.ntmps19
    go_wp2_with fail
    refine (C.out _ (Keeps.refl _)).mono ?_
    rintro e w1 ⟨rfl, k1⟩
    go_wp2
    go_ret
    exact ⟨ret_bool E.out.symm, k1⟩
theorem pay_deed {x : R} (h : Row1 0 x) : x.d = 1 ∨ x.d = 4 := by
  have hp := h.party
  rcases six h.key.d0 h.key.d1 with e | e | e | e | e | e
  all_goals rw [e] at hp ⊢
  all_goals simp [partyK] at hp ⊢
set_option maxHeartbeats 16000000 in
set_option maxRecDepth 100000 in
theorem pw_net (v : Value) (L : List R) (order : Int) (w : World) (hp : HasP w) (h : RowsIn w v L) :
    Calls Tryd.prog 14 #[v, .int .i64 order] w fun e w' => e = .returned (.int .i64 (netR order L)) ∧ Keeps w w' := by
  have HR := Lib.hid h
  obtain ⟨b, hb⟩ : ∃ b, goodB 0 L = b := ⟨_, rfl⟩
  have C1 : Hid (Calls Tryd.prog 8 #[v, .int .i64 0] w fun e w' => e = .returned (.bool b) ∧ Keeps w w') := Lib.hid (hb ▸ pw_check v L 0 w hp h)
  obtain ⟨pp, cp, rfl, hmx, _, _⟩ := h
  obtain ⟨N, hN⟩ : ∃ N, L.length = N := ⟨_, rfl⟩
  have HN := Lib.hid hN
  rw [hN] at hmx HR C1 ⊢
  clear hN
  unfold maxLen at hmx
  have HB := Lib.hid hb
  clear hb hp
  cases b with
  | false =>
    have E : Hid (netR order L = 0) := Lib.hid (by unfold netR; rw [HB.out]; rfl)
    go_enter Tryd.func14, Tryd.ntmps14
    go_wp2_with fail
    refine (C1.out).mono ?_
    rintro e w2 ⟨rfl, k2⟩
    go_wp2
    go_ret
    exact ⟨ret_int E.out.symm, k2⟩
  | true =>
    have G := Lib.hid (good_iff.1 HB.out)
    have N4 : N ≤ 400 := by have := G.out.len; rw [HN.out] at this; exact this
    have HN4 := Lib.hid N4
    go_enter Tryd.func14, Tryd.ntmps14
    go_wp2_with fail
    refine (C1.out).mono ?_
    rintro e w2 ⟨rfl, k2⟩
    have HV := Lib.hid k2
    clear k2 C1
    go_wp2_with fail
    go_loopw [4, 12] (fun v4 v12 W => ∃ (k : Nat) (n : Int), k ≤ N ∧ v4 = .int .i64 n ∧ v12 = .int .i64 (k : Int) ∧ n = netN order (L.take k) ∧ Keeps w W) (fun _ v12 _ => N - (intOf v12).toNat)
    case atStart => exact ⟨0, 0, by omega, rfl, rfl, rfl, HV.out⟩
    case round =>
      obtain ⟨k, n, hk, rfl, rfl, hn, hw⟩ := hrel
      have HW := Lib.hid hw
      have HNN := Lib.hid hn
      obtain ⟨b1, b2⟩ := net_bound (order := order) G.out k
      rw [← hn] at b1 b2
      clear hw hn HV
      by_cases hlt : k < N
      rotate_left
      · obtain rfl : k = N := by omega
        have E : Hid (netR order L = n) := Lib.hid (by unfold netR; rw [HB.out, HNN.out, List.take_of_length_le (by rw [HN.out]; exact Nat.le_refl _)]; rfl)
        go_wp2
        go_ret
        exact ⟨ret_int E.out.symm, HW.out⟩
      have HK := Lib.hid hlt
      obtain ⟨x, hx⟩ : ∃ x, L[k]? = some x := ⟨_, List.getElem?_eq_getElem (by have := HN.out; omega)⟩
      obtain ⟨p1, c1, e1, _, _, hc1⟩ := HR.out.keeps HW.out
      rw [HN.out] at e1
      simp only [Value.slice.injEq] at e1
      obtain ⟨rfl, _, rfl⟩ := e1
      obtain ⟨ad, rfl, q⟩ := hc1 k x hx
      have hr := G.out.each x (List.mem_of_getElem? hx)
      have a0 := hr.a0
      have a1 := hr.a1
      have hd := pay_deed hr
      have HS := Lib.hid (net_take (order := order) hx)
      obtain ⟨q0, q1, q2, q3, q4⟩ := q
      have hi1 : (k : Int) < (N : Int) := by omega
      have hi0 : (0 : Int) ≤ (k : Int) := by omega
      have K2 := Lib.hid (HW.out.trans (ky_box wr (.cells #[.int .i64 x.o, .int .i64 x.d, .int .i64 x.c, .int .i64 x.a, .int .i64 x.q] tRw)))
      have CX := Lib.hid (rw_cells wr x)
      obtain ⟨z0, z1, z2, z3, z4⟩ := CX.out _ (Keeps.refl _)
      clear hc1 hx hr
      rcases (show (x.o ≠ order) ∨ (x.o = order ∧ x.d = 1) ∨ (x.o = order ∧ x.d = 4) from by omega) with e | ⟨e, f⟩ | ⟨e, f⟩
      · have E : Hid (netN order (L.take (k + 1)) = n) := Lib.hid (by rw [HS.out, ← HNN.out]; unfold netStep; rw [if_neg e])
        have t := beq_eq_false_iff_ne.2 e
        clear e hd
        go_wp2_with fail
        exact ⟨⟨k + 1, n, by have := HK.out; omega, rfl, by go_num, E.out.symm, K2.out⟩, by have := HK.out; simp [intOf]; omega⟩
      · have E : Hid (netN order (L.take (k + 1)) = n + x.a) := Lib.hid (by rw [HS.out, ← HNN.out]; unfold netStep; rw [if_pos e, if_pos f])
        have t : (x.o == order) = true := by rw [e]; simp
        have u : (x.d == 1) = true := by rw [f]; rfl
        clear e f hd
        go_wp2_with fail
        exact ⟨⟨k + 1, n + x.a, by have := HK.out; omega, rfl, by go_num, E.out.symm, K2.out⟩, by have := HK.out; simp [intOf]; omega⟩
      · have E : Hid (netN order (L.take (k + 1)) = n - x.a) := Lib.hid (by rw [HS.out, ← HNN.out]; unfold netStep; rw [if_pos e, if_neg (by omega)])
        have t : (x.o == order) = true := by rw [e]; simp
        have u : (x.d == 1) = false := by rw [f]; rfl
        have u4 : (x.d == 4) = true := by rw [f]; rfl
        clear e f hd
        go_wp2_with fail
        exact ⟨⟨k + 1, n - x.a, by have := HK.out; omega, rfl, by go_num, E.out.symm, K2.out⟩, by have := HK.out; simp [intOf]; omega⟩
end Go.Proofs.YthnjjeofpemdoaaDoor
