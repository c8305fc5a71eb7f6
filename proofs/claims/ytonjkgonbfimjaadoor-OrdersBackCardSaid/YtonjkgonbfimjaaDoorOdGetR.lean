/- The document's Get of orders. -/
import Derived.Test.YtonjkgonbfimjaaDoorOdGetC
set_option linter.unusedVariables false
namespace Go.Proofs.YtonjkgonbfimjaaDoor
open Go.ChangeShapes Go.WideShapes Go.ChangeAt Go.RowKit Bit Ky Od

theorem box_cells {w : World} {x0 x1 x2 x3 x4 : Value} : ∀ W, Keeps (w.alloc (.cells #[x0, x1, x2, x3, x4] tOd)) W → W.heap[w.heap.size]? = some (.cells #[x0, x1, x2, x3, x4] tOd (0, 0)) := fun W k => (k.block _ (by simp)).trans (heap_alloc_new w _)
set_option maxHeartbeats 16000000 in
set_option maxRecDepth 100000 in
theorem or_get (s : ByteArray) (w : World) (hs : s.size ≤ maxLen) : Calls Tryd.prog 16 #[.string s] w (GotO s.data.toList w) := by
  have KB := Lib.hid (ky_box w odZ)
  have CX : Hid (∀ W, Keeps (w.alloc odZ) W → W.heap[w.heap.size]? = some (.cells #[.int .i64 0, .string ⟨#[]⟩, .string ⟨#[]⟩, .int .i64 0, .int .i64 0] tOd (0, 0))) := Lib.hid fun W k => (k.block _ (by simp)).trans (heap_alloc_new w odZ)
  obtain ⟨n1, n4, n5, T2, T3, R1, R2, R3, R4, R5, b1, b2, b3, b4, b5, ⟨x1, x2, x3, x4, x5⟩, ⟨t1, t4, t5⟩, ⟨s1, s2, s3, s4, s5, s6⟩, ⟨p1, p2, p3⟩, ⟨q1, q2, q3⟩, ⟨r1, r2, r3⟩, ⟨u1, u2, u3⟩, ⟨v1, v2, v3⟩, nf⟩ := read_parts s hs
  have H1 := Lib.hid fun W => rread_any s W hs
  rw [p1, p2, p3] at H1
  have H2 := Lib.hid fun W => rcut_any R1 W s1
  rw [q1, q2, q3] at H2
  have H3 := Lib.hid fun W => rcut_any R2 W s2
  rw [r1, r2, r3] at H3
  have H4 := Lib.hid fun W => rread_any R3 W s3
  rw [u1, u2, u3] at H4
  have H5 := Lib.hid fun W => rread_any R4 W s4
  rw [v1, v2, v3] at H5
  have NF := Lib.hid nf
  have NO := Lib.hid fun (l1 : n1 ≤ 60) (l4 : n4 ≤ 999) (l5 : n5 ≤ 1099511627776) h => no_wrap (I1 := n1) (I4 := n4) (I5 := n5) x1 x2 x3 x4 x5 (wraps_small (m := 60) (by omega) (by decide)) (wraps_small (m := 999) (by omega) (by decide)) (wraps_small (m := 1099511627776) (by omega) (by decide)) h
  have C6 := Lib.hid fun W => or_check n1 T2 T3 n4 n5 W s5 s6
  have C7 := Lib.hid fun W => or_put n1 T2 T3 n4 n5 W s5 s6
  obtain ⟨c, hc⟩ : ∃ c, checkO n1 T2 T3 n4 n5 = c := ⟨_, rfl⟩
  obtain ⟨X, hX⟩ : ∃ X, putOS n1 T2 T3 n4 n5 = X := ⟨_, rfl⟩
  have HC := Lib.hid hc
  have HX := Lib.hid hX
  rw [hc] at C6
  rw [hX] at C7
  clear nf
  clear hs x1 x2 x3 x4 x5 t1 t4 t5 s1 s2 s3 s4 s5 s6 p1 p2 p3 q1 q2 q3 r1 r2 r3 u1 u2 u3 v1 v2 v3 hc hX
  unfold odV at C6 C7
  unfold odZ at KB CX
  go_enter Tryd.func16, Tryd.ntmps16
  go_wp2_with fail
  refine (H1.out _).mono ?_
  rintro e wa ⟨rfl, k⟩
  have HV := Lib.hid k
  clear k H1
  go_wp2_with fail
  refine (H2.out _).mono ?_
  rintro e wb ⟨rfl, k⟩
  have HV := Lib.hid (HV.out.trans k)
  clear k H2
  go_wp2_with fail
  refine (H3.out _).mono ?_
  rintro e wd ⟨rfl, k⟩
  have HV := Lib.hid (HV.out.trans k)
  clear k H3
  go_wp2_with fail
  refine (H4.out _).mono ?_
  rintro e we ⟨rfl, k⟩
  have HV := Lib.hid (HV.out.trans k)
  clear k H4
  go_wp2_with fail
  refine (H5.out _).mono ?_
  rintro e wf ⟨rfl, k⟩
  have HV := Lib.hid (HV.out.trans k)
  clear k H5
  have hres := CX.out wf HV.out
  obtain ⟨⟨z0, z1, z2, z3, z4⟩, f0, f1, f2, f3, f4⟩ := five_at hres
  have BF := Lib.hid hres
  clear hres
  by_cases hall : b1 = true ∧ b2 = true ∧ b3 = true ∧ b4 = true ∧ b5 = true ∧ n1 ≤ 60 ∧ n4 ≤ 999 ∧ n5 ≤ 1099511627776
  rotate_left
  · have G : Hid (IsO s.data.toList 0 ⟨#[]⟩ ⟨#[]⟩ 0 0 10) := Lib.hid (Or.inr ⟨NF.out hall, rfl, rfl, rfl, rfl, rfl, rfl⟩)
    have hw : b1 = false ∨ (b1 = true ∧ b2 = false) ∨ (b1 = true ∧ b2 = true ∧ b3 = false) ∨ (b1 = true ∧ b2 = true ∧ b3 = true ∧ b4 = false) ∨ (b1 = true ∧ b2 = true ∧ b3 = true ∧ b4 = true ∧ b5 = false) ∨ (b1 = true ∧ b2 = true ∧ b3 = true ∧ b4 = true ∧ b5 = true ∧ 60 < n1) ∨ (b1 = true ∧ b2 = true ∧ b3 = true ∧ b4 = true ∧ b5 = true ∧ n1 ≤ 60 ∧ 999 < n4) ∨ (b1 = true ∧ b2 = true ∧ b3 = true ∧ b4 = true ∧ b5 = true ∧ n1 ≤ 60 ∧ n4 ≤ 999 ∧ 1099511627776 < n5) := by
      cases b1 <;> cases b2 <;> cases b3 <;> cases b4 <;> cases b5 <;> simp at hall ⊢ <;> omega
    clear hall NF NO C6 C7 HC HX
    obtain ⟨⟨e0, e1, e2, e3, e4⟩, _⟩ := five_at (five_set BF.out (.int .i64 0) (.string ⟨#[]⟩) (.string ⟨#[]⟩) (.int .i64 0) (.int .i64 0))
    have E := Lib.hid (And.intro e0 (And.intro e1 (And.intro e2 (And.intro e3 e4))))
    clear e0 e1 e2 e3 e4
    rcases hw with rfl | ⟨rfl, rfl⟩ | ⟨rfl, rfl, rfl⟩ | ⟨rfl, rfl, rfl, rfl⟩ | ⟨rfl, rfl, rfl, rfl, rfl⟩ | ⟨rfl, rfl, rfl, rfl, rfl, hw⟩ | ⟨rfl, rfl, rfl, rfl, rfl, hw1, hw⟩ | ⟨rfl, rfl, rfl, rfl, rfl, hw1, hw2, hw⟩
    all_goals
      go_wp2
      obtain ⟨e0, e1, e2, e3, e4⟩ := E.out
      exact bodyPost_ret (v := .tuple #[.agg #[.int .i64 0, .string ⟨#[]⟩, .string ⟨#[]⟩, .int .i64 0, .int .i64 0], .int .i64 10]) (by simp [results, Tryd.results16, go_sem, e0, e1, e2, e3, e4]) rfl ⟨_, _, _, _, _, _, rfl, G.out, five_keeps (KB.out.trans HV.out) (Nat.le_refl _) _ _ _ _ _⟩
  obtain ⟨rfl, rfl, rfl, rfl, rfl, l1, l4, l5⟩ := hall
  have NO := Lib.hid fun h => NO.out l1 l4 l5 h
  have KF := Lib.hid (KB.out.trans HV.out)
  have M6 := Lib.hid (ky_box wf (.cells #[.int .i64 n1, .string T2, .string T3, .int .i64 n4, .int .i64 n5] tOd))
  have CY := Lib.hid (box_cells (w := wf) (x0 := .int .i64 n1) (x1 := .string T2) (x2 := .string T3) (x3 := .int .i64 n4) (x4 := .int .i64 n5))
  clear z0 z1 z2 z3 z4 f0 f1 f2 f3 f4 NF
  go_wp2_with fail
  refine (C6.out _).mono ?_
  rintro e wg ⟨rfl, k⟩
  have K7 := Lib.hid (KF.out.trans (M6.out.trans k))
  have h7 := ((M6.out.trans k).block w.heap.size (Array.getElem?_eq_some_iff.1 BF.out).1).trans BF.out
  have B7 := Lib.hid h7
  have hy := CY.out wg k
  have Y7 := Lib.hid hy
  clear k C6
  obtain ⟨⟨z0, z1, z2, z3, z4⟩, f0, f1, f2, f3, f4⟩ := five_at h7
  obtain ⟨⟨y0, y1, y2, y3, y4⟩, _⟩ := five_at hy
  clear h7 hy
  by_cases hc0 : c = 0
  · subst hc0
    go_wp2_with fail
    refine (C7.out _).mono ?_
    rintro e wh ⟨rfl, k⟩
    have K8 := Lib.hid (K7.out.trans k)
    have h8 := (k.block w.heap.size (Array.getElem?_eq_some_iff.1 B7.out).1).trans B7.out
    have B8 := Lib.hid h8
    have hy := (k.block wf.heap.size (Array.getElem?_eq_some_iff.1 Y7.out).1).trans Y7.out
    clear k C7 z0 z1 z2 z3 z4 f0 f1 f2 f3 f4 y0 y1 y2 y3 y4
    obtain ⟨⟨z0, z1, z2, z3, z4⟩, f0, f1, f2, f3, f4⟩ := five_at h8
    obtain ⟨⟨y0, y1, y2, y3, y4⟩, _⟩ := five_at hy
    clear h8 hy
    have F := Lib.hid (check_fit.1 HC.out)
    by_cases hx : X = s
    · have G : Hid (IsO s.data.toList n1 T2 T3 n4 n5 0) := Lib.hid (by
        have e : rawO n1 T2 T3 n4 n5 = s.data.toList := by rw [← hx, ← HX.out, ← putO_yes F.out]; rfl
        exact Or.inl ⟨yes_raw F.out e, F.out, e, rfl⟩)
      subst hx
      go_wp2
      obtain ⟨⟨e0, e1, e2, e3, e4⟩, _⟩ := five_at (five_set B8.out (.int .i64 n1) (.string T2) (.string T3) (.int .i64 n4) (.int .i64 n5))
      exact bodyPost_ret (v := .tuple #[.agg #[.int .i64 n1, .string T2, .string T3, .int .i64 n4, .int .i64 n5], .int .i64 0]) (by simp [results, Tryd.results16, go_sem, e0, e1, e2, e3, e4]) rfl ⟨_, _, _, _, _, _, rfl, G.out, five_keeps K8.out (Nat.le_refl _) _ _ _ _ _⟩
    · have G : Hid (IsO s.data.toList 0 ⟨#[]⟩ ⟨#[]⟩ 0 0 10) := Lib.hid (Or.inr ⟨NO.out (fun h => hx (bytes_inj (by rw [← h.2, ← HX.out, ← putO_yes F.out]; rfl))), rfl, rfl, rfl, rfl, rfl, rfl⟩)
      have t := sbne hx
      clear hx
      go_wp2
      obtain ⟨⟨e0, e1, e2, e3, e4⟩, _⟩ := five_at (five_set B8.out (.int .i64 0) (.string ⟨#[]⟩) (.string ⟨#[]⟩) (.int .i64 0) (.int .i64 0))
      exact bodyPost_ret (v := .tuple #[.agg #[.int .i64 0, .string ⟨#[]⟩, .string ⟨#[]⟩, .int .i64 0, .int .i64 0], .int .i64 10]) (by simp [results, Tryd.results16, go_sem, e0, e1, e2, e3, e4]) rfl ⟨_, _, _, _, _, _, rfl, G.out, five_keeps K8.out (Nat.le_refl _) _ _ _ _ _⟩
  · have G : Hid (IsO s.data.toList 0 ⟨#[]⟩ ⟨#[]⟩ 0 0 10) := Lib.hid (Or.inr ⟨NO.out (fun h => hc0 (by rw [← HC.out]; exact check_fit.2 h.1)), rfl, rfl, rfl, rfl, rfl, rfl⟩)
    have t : (c == 0) = false := by rw [beq_eq_false_iff_ne]; exact hc0
    have t2 : (c != 0) = true := by rw [bne, t]; rfl
    clear hc0
    go_wp2
    obtain ⟨⟨e0, e1, e2, e3, e4⟩, _⟩ := five_at (five_set B7.out (.int .i64 0) (.string ⟨#[]⟩) (.string ⟨#[]⟩) (.int .i64 0) (.int .i64 0))
    exact bodyPost_ret (v := .tuple #[.agg #[.int .i64 0, .string ⟨#[]⟩, .string ⟨#[]⟩, .int .i64 0, .int .i64 0], .int .i64 10]) (by simp [results, Tryd.results16, go_sem, e0, e1, e2, e3, e4]) rfl ⟨_, _, _, _, _, _, rfl, G.out, five_keeps K7.out (Nat.le_refl _) _ _ _ _ _⟩
end Go.Proofs.YtonjkgonbfimjaaDoor
