
/- The document's rows: Net. -/
import Derived.Test.YthnjjeofpemdoaaDoorRwRefC
set_option linter.unusedVariables false
namespace Go.Proofs.YthnjjeofpemdoaaDoor
open Go.ChangeShapes Go.WideShapes Go.ChangeAt Go.RowKit Bit Ky Rw Csv

theorem net_take {order : Int} {L : List R} {k : Nat} {x : R} (hx : L[k]? = some x) : netN order (L.take (k + 1)) = netStep order (netN order (L.take k)) x := by
  have e : L.take (k + 1) = L.take k ++ [x] := by rw [List.take_add_one, hx]; rfl
  rw [e, netN_snoc]
theorem net_bound {order : Int} {L : List R} (h : Rw.Good 0 L) (k : Nat) : -(1099511627776 * 400) ≤ netN order (L.take k) ∧ netN order (L.take k) ≤ 1099511627776 * 400 := by
  have h1 := netN_small order (L.take k) fun x hx => h.each x (List.mem_of_mem_take hx)
  have h2 := List.length_take_le k L
  have h3 := h.len
  have h4 : ((L.take k).length : Int) ≤ 400 := by have := List.length_take_le' k L; omega
  omega
set_option maxHeartbeats 16000000 in
set_option maxRecDepth 100000 in
theorem rr_net (v : Value) (L : List R) (order : Int) (w : World) (h : RowsIn w v L) :
    Calls Tryd.prog 15 #[v, .int .i64 order] w fun e w' => e = .returned (.int .i64 (netR order L)) ∧ Keeps w w' := by
  have HR := Lib.hid h
  have CC : Hid (∀ b, goodB 0 L = b → ∀ W, Keeps w W → Calls Tryd.prog 9 #[v, .int .i64 0] W fun e w' => e = .returned (.bool b) ∧ Keeps w w') := Lib.hid fun b hb W k => (hb ▸ rr_check v L 0 W (HR.out.keeps k)).mono fun e w' g => ⟨g.1, k.trans g.2⟩
  obtain ⟨pp, cp, rfl, hmx, _, _⟩ := h
  obtain ⟨N, hN⟩ : ∃ N, L.length = N := ⟨_, rfl⟩
  have HN := Lib.hid hN
  rw [hN] at hmx HR CC ⊢
  clear hN
  unfold maxLen at hmx
  obtain ⟨b, hb⟩ : ∃ b, goodB 0 L = b := ⟨_, rfl⟩
  have C1 := Lib.hid (CC.out b hb)
  have HB := Lib.hid hb
  clear hb CC
  have HV := Lib.hid (Keeps.refl w)
  cases b with
  | false =>
    have E : Hid (netR order L = 0) := Lib.hid (by unfold netR; rw [HB.out]; rfl)
    have hpos : 0 < N := by
      rcases Nat.eq_zero_or_pos N with h0 | h0
      · have : L = [] := List.length_eq_zero_iff.1 (by rw [HN.out]; exact h0)
        have hg : goodB 0 L = true := good_iff.2 (by rw [this]; exact ⟨by decide, by decide, by simp, fun x hx => by simp at hx, by simp⟩)
        rw [HB.out] at hg
        cases hg
      · exact h0
    go_enter Tryd.func15, Tryd.ntmps15
    go_wp2_with fail
    go_loopw [5, 6] (fun v5 v6 W => v5 = .int .i64 0 ∧ v6 = .int .i64 0 ∧ Keeps w W) (fun v5 v6 _ => 0)
    case atStart => exact ⟨rfl, rfl, HV.out⟩
    case round =>
      obtain ⟨rfl, rfl, hw⟩ := hrel
      have HW := Lib.hid hw
      clear hw
      go_wp2_with fail
      refine (C1.out _ HW.out).mono ?_
      rintro e w2 ⟨rfl, k2⟩
      go_wp2
      go_ret
      exact ⟨ret_int E.out.symm, k2⟩
  | true =>
    have G := Lib.hid (good_iff.1 HB.out)
    have N4 : N ≤ 400 := by have := G.out.len; rw [HN.out] at this; exact this
    have HN4 := Lib.hid N4
    go_enter Tryd.func15, Tryd.ntmps15
    go_wp2_with fail
    go_loopw [5, 6] (fun v5 v6 W => ∃ (k : Nat) (n : Int), k ≤ N ∧ v5 = .int .i64 n ∧ v6 = .int .i64 (k : Int) ∧ n = netN order (L.take k) ∧ Keeps w W) (fun _ v6 _ => N - (intOf v6).toNat)
    case atStart => exact ⟨0, 0, by omega, rfl, rfl, rfl, HV.out⟩
    case round =>
      obtain ⟨k, n, hk, rfl, rfl, hn, hw⟩ := hrel
      have HW := Lib.hid hw
      have HNN := Lib.hid hn
      obtain ⟨b1, b2⟩ := net_bound (order := order) G.out k
      rw [← hn] at b1 b2
      clear hw hn
      by_cases hlt : k < N
      rotate_left
      · obtain rfl : k = N := by omega
        have E : Hid (netR order L = n) := Lib.hid (by unfold netR; rw [HB.out, HNN.out, List.take_of_length_le (by rw [HN.out]; exact Nat.le_refl _)]; rfl)
        go_wp2
        go_ret
        exact ⟨ret_int E.out.symm, HW.out⟩
      have HK := Lib.hid hlt
      go_wp2_with fail
      refine (C1.out _ HW.out).mono ?_
      rintro e w2 ⟨rfl, k2⟩
      have K2 := Lib.hid k2
      obtain ⟨x, hx⟩ : ∃ x, L[k]? = some x := ⟨_, List.getElem?_eq_getElem (by have := HN.out; omega)⟩
      obtain ⟨p1, c1, e1, _, _, hc1⟩ := HR.out.keeps K2.out
      rw [HN.out] at e1
      simp only [Value.slice.injEq] at e1
      obtain ⟨rfl, _, rfl⟩ := e1
      obtain ⟨ad, rfl, q⟩ := hc1 k x hx
      have hr := G.out.each x (List.mem_of_getElem? hx)
      have a0 := hr.a0
      have a1 := hr.a1
      have HS := Lib.hid (net_take (order := order) hx)
      obtain ⟨q0, q1, q2, q3, q4⟩ := q
      have hi1 : (k : Int) < (N : Int) := by omega
      have hi0 : (0 : Int) ≤ (k : Int) := by omega
      clear hc1 hx hr k2
      rcases (show (x.o ≠ order) ∨ (x.o = order ∧ x.d = 1) ∨ (x.o = order ∧ x.d ≠ 1) from by omega) with e | ⟨e, f⟩ | ⟨e, f⟩
      · have E : Hid (netN order (L.take (k + 1)) = n) := Lib.hid (by rw [HS.out, ← HNN.out]; unfold netStep; rw [if_neg e])
        have t := beq_eq_false_iff_ne.2 e
        clear e
        go_wp2_with fail
        exact ⟨⟨k + 1, n, by have := HK.out; omega, rfl, by go_num, E.out.symm, K2.out⟩, by have := HK.out; simp [intOf]; omega⟩
      · have E : Hid (netN order (L.take (k + 1)) = n + x.a) := Lib.hid (by rw [HS.out, ← HNN.out]; unfold netStep; rw [if_pos e, if_pos f])
        have t : (x.o == order) = true := by rw [e]; simp
        have u : (x.d == 1) = true := by rw [f]; rfl
        clear e f
        go_wp2_with fail
        exact ⟨⟨k + 1, n + x.a, by have := HK.out; omega, rfl, by go_num, E.out.symm, K2.out⟩, by have := HK.out; simp [intOf]; omega⟩
      · have E : Hid (netN order (L.take (k + 1)) = n - x.a) := Lib.hid (by rw [HS.out, ← HNN.out]; unfold netStep; rw [if_pos e, if_neg f])
        have t : (x.o == order) = true := by rw [e]; simp
        have u := beq_eq_false_iff_ne.2 f
        clear e f
        go_wp2_with fail
        exact ⟨⟨k + 1, n - x.a, by have := HK.out; omega, rfl, by go_num, E.out.symm, K2.out⟩, by have := HK.out; simp [intOf]; omega⟩
end Go.Proofs.YthnjjeofpemdoaaDoor
