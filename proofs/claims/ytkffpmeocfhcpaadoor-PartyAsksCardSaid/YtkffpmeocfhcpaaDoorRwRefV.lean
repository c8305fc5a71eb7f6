
/- The document's rows: Valid, Same, Net. The document's rows: Net. -/
import Derived.Test.YtkffpmeocfhcpaaDoorRwRefC
set_option linter.unusedVariables false
namespace Go.Proofs.YtkffpmeocfhcpaaDoor
open Go.ChangeShapes Go.WideShapes Go.ChangeAt Go.RowKit Bit Ky Rw Csv

/-- The first k rows are the same. -/
theorem same_next {L M : List R} {k : Nat} {x : R} (h : L.take k = M.take k) (hx : L[k]? = some x) (hy : M[k]? = some x) : L.take (k + 1) = M.take (k + 1) := by
  rw [List.take_add_one, List.take_add_one, h, hx, hy]
def sameB (p s p' s' : Int) (L M : List R) : Bool := decide (p = p' ∧ s = s' ∧ L = M)
theorem same_no {p s p' s' : Int} {L M : List R} (h : ¬ (p = p' ∧ s = s' ∧ L = M)) : sameB p s p' s' L M = false := by unfold sameB; exact decide_eq_false h
set_option maxHeartbeats 16000000 in
set_option maxRecDepth 100000 in
theorem rr_same (p s p' s' : Int) (v v' : Value) (L M : List R) (w : World) (h : RowsIn w v L) (g : RowsIn w v' M) :
    Calls Tryd.prog 17 #[stV p s v, stV p' s' v'] w fun e w' => e = .returned (.bool (sameB p s p' s' L M)) ∧ Keeps w w' := by
  have KB := Lib.hid ((ky_box w (stBox p s v)).trans (ky_box _ (stBox p' s' v')))
  have HL := Lib.hid (h.keeps KB.out)
  have HM := Lib.hid (g.keeps KB.out)
  obtain ⟨pl, cl, rfl, hlm, _, _⟩ := h
  obtain ⟨pm, cm, rfl, hmm, _, _⟩ := g
  have CX : Hid (∀ W, Keeps ((w.alloc (stBox p s (.slice pl L.length cl))).alloc (stBox p' s' (.slice pm M.length cm))) W → (W.cell? ⟨w.heap.size, 0, none⟩ = some (.int .i64 p) ∧ W.cell? ⟨w.heap.size, 1, none⟩ = some (.int .i64 s) ∧ W.cell? ⟨w.heap.size, 2, none⟩ = some (.slice pl L.length cl)) ∧ W.cell? ⟨w.heap.size + 1, 0, none⟩ = some (.int .i64 p') ∧ W.cell? ⟨w.heap.size + 1, 1, none⟩ = some (.int .i64 s') ∧ W.cell? ⟨w.heap.size + 1, 2, none⟩ = some (.slice pm M.length cm)) := Lib.hid fun W k => by
    have h0 : (w.alloc (stBox p s (.slice pl L.length cl))).heap.size = w.heap.size + 1 := by simp
    have c2 := st_cells (w.alloc (stBox p s (.slice pl L.length cl))) p' s' (.slice pm M.length cm) W k
    rw [h0] at c2
    exact ⟨st_cells w p s (.slice pl L.length cl) W ((ky_box _ _).trans k), c2⟩
  obtain ⟨N, hN⟩ : ∃ N, L.length = N := ⟨_, rfl⟩
  obtain ⟨N', hN'⟩ : ∃ N, M.length = N := ⟨_, rfl⟩
  have HN := Lib.hid hN
  have HN' := Lib.hid hN'
  rw [hN] at KB HL HM CX hlm
  rw [hN'] at KB HL HM CX hmm
  unfold maxLen at hlm hmm
  rw [hN, hN']
  clear hN hN'
  unfold stBox at KB HL HM CX
  unfold stV
  by_cases hall : p = p' ∧ s = s' ∧ N = N'
  rotate_left
  · have E : Hid (sameB p s p' s' L M = false) := Lib.hid (same_no fun e => hall ⟨e.1, e.2.1, by rw [← HN.out, ← HN'.out, e.2.2]⟩)
    rcases (show p ≠ p' ∨ (p = p' ∧ s ≠ s') ∨ (p = p' ∧ s = s' ∧ N ≠ N') from by omega) with h1 | ⟨h1, h2⟩ | ⟨h1, h2, h3⟩
    · have t : (p == p') = false := by rw [beq_eq_false_iff_ne]; exact h1
      have t2 : (p != p') = true := by rw [bne, t]; rfl
      clear hall h1
      go_enter Tryd.func17, Tryd.ntmps17
      go_wp2
      go_ret
      exact ⟨ret_bool E.out.symm, KB.out⟩
    · subst h1
      have t : (s == s') = false := by rw [beq_eq_false_iff_ne]; exact h2
      have t2 : (s != s') = true := by rw [bne, t]; rfl
      clear hall h2
      go_enter Tryd.func17, Tryd.ntmps17
      go_wp2
      go_ret
      exact ⟨ret_bool E.out.symm, KB.out⟩
    · subst h1 h2
      have t : ((N : Int) == (N' : Int)) = false := by rw [beq_eq_false_iff_ne]; omega
      have t2 : ((N : Int) != (N' : Int)) = true := by rw [bne, t]; rfl
      clear hall h3
      go_enter Tryd.func17, Tryd.ntmps17
      go_wp2
      go_ret
      exact ⟨ret_bool E.out.symm, KB.out⟩
  obtain ⟨rfl, rfl, rfl⟩ := hall
  have HV := Lib.hid (Keeps.refl ((w.alloc (.cells #[.int .i64 p, .int .i64 s, .slice pl N cl] tSt)).alloc (.cells #[.int .i64 p, .int .i64 s, .slice pm N cm] tSt)))
  go_enter Tryd.func17, Tryd.ntmps17
  go_wp2_with fail
  go_loopw [5] (fun v5 W => ∃ k : Nat, k ≤ N ∧ v5 = .int .i64 (k : Int) ∧ L.take k = M.take k ∧ Keeps ((w.alloc (.cells #[.int .i64 p, .int .i64 s, .slice pl N cl] tSt)).alloc (.cells #[.int .i64 p, .int .i64 s, .slice pm N cm] tSt)) W) (fun v5 _ => N - (intOf v5).toNat)
  case atStart => exact ⟨0, by omega, rfl, by simp, HV.out⟩
  case round =>
    obtain ⟨k, hk, rfl, hf, hw⟩ := hrel
    have HF := Lib.hid hf
    have HW := Lib.hid hw
    clear hf hw HV
    obtain ⟨⟨x0, x1, x2⟩, y0, y1, y2⟩ := CX.out _ HW.out
    by_cases hlt : k < N
    rotate_left
    · obtain rfl : k = N := by omega
      have E : Hid (sameB p s p s L M = true) := Lib.hid (by
        unfold sameB
        have := HF.out
        rw [List.take_of_length_le (by rw [HN.out]; exact Nat.le_refl _), List.take_of_length_le (by rw [HN'.out]; exact Nat.le_refl _)] at this
        exact decide_eq_true ⟨rfl, rfl, this⟩)
      go_wp2
      go_ret
      exact ⟨ret_bool E.out.symm, KB.out.trans HW.out⟩
    have HK := Lib.hid hlt
    obtain ⟨x, hx⟩ : ∃ x, L[k]? = some x := ⟨_, List.getElem?_eq_getElem (by have := HN.out; omega)⟩
    obtain ⟨y, hy⟩ : ∃ x, M[k]? = some x := ⟨_, List.getElem?_eq_getElem (by have := HN'.out; omega)⟩
    obtain ⟨p1, c1, e1, _, _, hc1⟩ := HL.out.keeps HW.out
    obtain ⟨p2, c2, e2, _, _, hc2⟩ := HM.out.keeps HW.out
    rw [HN.out] at e1
    rw [HN'.out] at e2
    simp only [Value.slice.injEq] at e1 e2
    obtain ⟨rfl, _, rfl⟩ := e1
    obtain ⟨rfl, _, rfl⟩ := e2
    obtain ⟨ad, rfl, q⟩ := hc1 k x hx
    obtain ⟨bd, rfl, r⟩ := hc2 k y hy
    have HX := Lib.hid hx
    have HY := Lib.hid hy
    obtain ⟨q0, q1, q2, q3, q4⟩ := q
    obtain ⟨r0, r1, r2, r3, r4⟩ := r
    have hi1 : (k : Int) < (N : Int) := by omega
    have hi0 : (0 : Int) ≤ (k : Int) := by omega
    clear hc1 hc2 hx hy
    go_upto_region 6 with (fail)
    obtain ⟨xo, xd, xc, xa, xq⟩ := x
    obtain ⟨yo, yd, yc, ya, yq⟩ := y
    dsimp only at q0 q1 q2 q3 q4 r0 r1 r2 r3 r4
    by_cases hxy : xo = yo ∧ xd = yd ∧ xc = yc ∧ xa = ya ∧ xq = yq
    · obtain ⟨rfl, rfl, rfl, rfl, rfl⟩ := hxy
      have NX := Lib.hid (same_next HF.out HX.out HY.out)
      go_quiet (fail)
      have HW2 := Lib.hid (keeps_drewN HW.out nq)
      go_wp2_with fail
      exact ⟨⟨k + 1, by have := HK.out; omega, by go_num, NX.out, HW2.out⟩, by have := HK.out; simp [intOf]; omega⟩
    · have E : Hid (sameB p s p s L M = false) := Lib.hid (same_no fun e => hxy (by
        have e2 := HX.out
        rw [e.2.2, HY.out] at e2
        simp only [Option.some.injEq, R.mk.injEq] at e2
        exact ⟨e2.1.symm, e2.2.1.symm, e2.2.2.1.symm, e2.2.2.2.1.symm, e2.2.2.2.2.symm⟩))
      rcases (show xo ≠ yo ∨ (xo = yo ∧ xd ≠ yd) ∨ (xo = yo ∧ xd = yd ∧ xc ≠ yc) ∨ (xo = yo ∧ xd = yd ∧ xc = yc ∧ xa ≠ ya) ∨ (xo = yo ∧ xd = yd ∧ xc = yc ∧ xa = ya ∧ xq ≠ yq) from by omega) with e | ⟨rfl, e⟩ | ⟨rfl, rfl, e⟩ | ⟨rfl, rfl, rfl, e⟩ | ⟨rfl, rfl, rfl, rfl, e⟩
      all_goals
        have e4 := beq_eq_false_iff_ne.2 e
        clear e hxy
        go_quiet (fail)
        go_wp2
        go_ret
        exact ⟨ret_bool E.out.symm, KB.out.trans (keeps_drewN HW.out _)⟩
end Go.Proofs.YtkffpmeocfhcpaaDoor
namespace Go.Proofs.YtkffpmeocfhcpaaDoor
open Go.ChangeShapes Go.WideShapes Go.ChangeAt Go.RowKit Bit Ky Rw Csv

theorem net_take {order : Int} {L : List R} {k : Nat} {x : R} (hx : L[k]? = some x) : netN order (L.take (k + 1)) = netStep order (netN order (L.take k)) x := by
  have e : L.take (k + 1) = L.take k ++ [x] := by rw [List.take_add_one, hx]; rfl
  rw [e, netN_snoc]
theorem net_bound {order : Int} {L : List R} (h : Rw.Good 0 L) (k : Nat) : -(1099511627776 * 400) ≤ netN order (L.take k) ∧ netN order (L.take k) ≤ 1099511627776 * 400 := by
  have h1 := netN_small order (L.take k) fun x hx => h.each x (List.mem_of_mem_take hx)
  have h2 := List.length_take_le k L
  have h3 := h.len
  have h4 : ((L.take k).length : Int) ≤ 400 := by have := List.length_take_le' k L; omega
  omega
end Go.Proofs.YtkffpmeocfhcpaaDoor
