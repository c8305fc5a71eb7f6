
/- The document's net: Drop, Double, Turn. -/
import Derived.Test.YtajphjlfefhajaaNtRef2
set_option linter.unusedVariables false
set_option linter.unusedSimpArgs false
namespace Go.Proofs.Ytajphjlfefhajaa
open Go.ChangeShapes Go.WideShapes Go.ChangeAt Go.RowKit Csv Ky
namespace Nt
theorem nr_drop (b : Nat) (F : Nat → Prop) (l : List Mg) (i : Int) (W : World) (h : RefN W b F l) (hl : l.length ≤ 1000) :
    Calls Try.prog 23 #[.pointer (some ⟨b, 0, none⟩), .int .i64 i] W fun e w' => e = .returned (.bool (isB l i)) ∧ RGoes W w' b F (del l i) := by
  have CD := Lib.hid (nr_deliver b F l i W h hl)
  obtain ⟨t, o, k, s, q, a, c, hv⟩ : ∃ t o k s q a c, delV (gone l i) = .agg #[.int .i64 t, .int .i64 o, .int .i64 k, .string s, .int .i64 q, .int .i64 a, .int .i64 c] := by
    cases gone l i with
    | none => exact ⟨_, _, _, _, _, _, _, rfl⟩
    | some m => exact ⟨_, _, _, _, _, _, _, rfl⟩
  rw [hv] at CD
  generalize isB l i = B at *
  clear h hl hv
  go_enter Try.func23, Try.ntmps23
  go_wp2_with fail
  refine CD.out.mono ?_
  rintro e w2 ⟨rfl, hg⟩
  have HG := Lib.hid hg
  clear hg
  go_wp2
  go_ret
  obtain ⟨⟨F', r1, r2⟩, ho⟩ := HG.out
  have k := nbox w2 (.cells #[.int .i64 t, .int .i64 o, .int .i64 k, .string s, .int .i64 q, .int .i64 a, .int .i64 c] tMg)
  exact ⟨rfl, ⟨⟨F', r1.keeps k, r2⟩, ho.trans (Only.of_keeps k)⟩⟩
set_option maxRecDepth 100000 in
theorem nr_double (b : Nat) (F : Nat → Prop) (l : List Mg) (i : Int) (W : World) (h : RefN W b F l) (hl : l.length ≤ 1000) :
    Calls Try.prog 24 #[.pointer (some ⟨b, 0, none⟩), .int .i64 i] W fun e w' => e = .returned (.bool (dblB l i)) ∧ RGoes W w' b F (dbl l i) := by
  have CI := Lib.hid (nr_is b F l i W h)
  have HR := Lib.hid h
  obtain ⟨B, hB⟩ : ∃ B, isB l i = B := ⟨_, rfl⟩
  have HIS := Lib.hid hB
  obtain ⟨D, hD⟩ : ∃ D, dblB l i = D := ⟨_, rfl⟩
  have HD := Lib.hid hD
  rw [hB] at CI
  rw [hD]
  cases B with
  | false =>
    have E2 : Hid (dbl l i = l) := Lib.hid (dbl_no HIS.out)
    obtain rfl : D = false := by rw [← hD]; unfold dblB; rw [hB]; rfl
    clear h hB hD hl
    go_enter Try.func24, Try.ntmps24
    go_wp2_with fail
    refine CI.out.mono ?_
    rintro e w2 ⟨rfl, rfl⟩
    go_wp2
    go_ret
    exact ⟨rfl, by rw [E2.out]; exact RGoes.same HR.out (Keeps.refl _)⟩
  | true =>
    obtain ⟨hi0, hi1⟩ := is_iff.1 hB
    obtain ⟨i0, hi⟩ : ∃ i0 : Nat, i = (i0 : Int) := ⟨i.toNat, by omega⟩
    subst hi
    obtain ⟨x, hx, hg⟩ := gone_some hB
    have hxx : l[i0]? = some x := by simpa using hx
    have E2 : Hid (dbl l (i0 : Int) = send l x) := Lib.hid (dbl_yes hg)
    have ER : Hid (D = room l) := Lib.hid (by rw [← hD]; unfold dblB; rw [hB]; rfl)
    obtain ⟨p, c, hb, hc⟩ := h.list hl
    obtain ⟨ad, rfl, q0, q1, q2, q3, q4, q5, q6⟩ := hc _ (Keeps.refl _) i0 x hxx
    obtain ⟨y0, z0⟩ := hb _ (Keeps.refl _)
    have CS := Lib.hid (nr_send b F l x W h hl)
    obtain ⟨n, hn⟩ : ∃ n, l.length = n := ⟨_, rfl⟩
    rw [hn] at y0 hi1
    unfold mgV at CS
    clear h hB hD hx hg hxx hb hc hn hl
    go_enter Try.func24, Try.ntmps24
    go_wp2_with fail
    refine CI.out.mono ?_
    rintro e w2 ⟨rfl, rfl⟩
    go_wp2_with fail
    refine CS.out.mono ?_
    rintro e w3 ⟨rfl, hg⟩
    have HG := Lib.hid hg
    clear hg
    go_wp2
    go_ret
    exact ⟨by rw [ER.out]; rfl, by rw [E2.out]; exact HG.out⟩
set_option maxHeartbeats 8000000 in
set_option maxRecDepth 100000 in
theorem nr_turn (b : Nat) (F : Nat → Prop) (l : List Mg) (i k : Int) (w1 : World) (h : RefN w1 b F l) (hl : l.length ≤ 1000) :
    Calls Try.prog 25 #[.pointer (some ⟨b, 0, none⟩), .int .i64 i, .int .i64 k] w1 fun e w' => e = .returned (.bool (turnB l i k)) ∧ RGoes w1 w' b F (turn l i k) := by
  have CI := Lib.hid (nr_is b F l i w1 h)
  have CK := Lib.hid (nr_is b F l k w1 h)
  have HR := Lib.hid h
  obtain ⟨Bi, hBi⟩ : ∃ B, isB l i = B := ⟨_, rfl⟩
  obtain ⟨Bk, hBk⟩ : ∃ B, isB l k = B := ⟨_, rfl⟩
  obtain ⟨T, hT⟩ : ∃ T, turnB l i k = T := ⟨_, rfl⟩
  have HT := Lib.hid hT
  have HTB : Hid (T = (Bi && Bk)) := Lib.hid (by rw [← hT]; unfold turnB; rw [hBi, hBk])
  rw [hBi] at CI
  rw [hBk] at CK
  rw [hT]
  by_cases hbb : Bi = true ∧ Bk = true
  · obtain ⟨rfl, rfl⟩ := hbb
    obtain rfl : T = true := by rw [HTB.out]; rfl
    obtain ⟨hi0, hi1⟩ := is_iff.1 hBi
    obtain ⟨hk0, hk1⟩ := is_iff.1 hBk
    obtain ⟨i0, hi⟩ : ∃ i0 : Nat, i = (i0 : Int) := ⟨i.toNat, by omega⟩
    obtain ⟨k0, hk⟩ : ∃ k0 : Nat, k = (k0 : Int) := ⟨k.toNat, by omega⟩
    subst hi hk
    obtain ⟨x, hx, _⟩ := gone_some hBi
    obtain ⟨y, hy, _⟩ := gone_some hBk
    have hxx : l[i0]? = some x := by simpa using hx
    have hyy : l[k0]? = some y := by simpa using hy
    have ET : Hid (turn l (i0 : Int) (k0 : Int) = (l.set i0 y).set k0 x) := Lib.hid (by have := turn_yes hT hx hy; simpa using this)
    obtain ⟨p, c, hb, hc⟩ := h.list hl
    have HB := Lib.hid hb
    have MX : Hid (∀ X, Keeps w1 X → MgAt X ((p.getD default).add (i0 * 7)) x ∧ p = some (p.getD default)) := Lib.hid fun X kX => by
      obtain ⟨a, rfl, g⟩ := hc X kX i0 x hxx
      exact ⟨g, rfl⟩
    obtain ⟨ad, rfl⟩ : ∃ ad, p = some ad := ⟨_, (MX.out _ (Keeps.refl _)).2⟩
    have MX : Hid (∀ X, Keeps w1 X → MgAt X (ad.add (i0 * 7)) x) := Lib.hid fun X kX => (MX.out X kX).1
    have MY : Hid (∀ X, Keeps w1 X → MgAt X (ad.add (k0 * 7)) y) := Lib.hid fun X kX => by
      obtain ⟨a, e, g⟩ := hc X kX k0 y hyy
      cases e
      exact g
    obtain ⟨n, hn⟩ : ∃ n, l.length = n := ⟨_, rfl⟩
    obtain ⟨p', c', w5, q1, q2, q3⟩ := mgK.copy_row w1 (.slice (some ad) n c) l (by
      obtain ⟨v, h1, h2, h3⟩ := h
      obtain ⟨pv, cv, rfl⟩ := mgK.own_shape h2
      have e1 := (one_at h1).1
      have e2 := (hb _ (Keeps.refl _)).1
      rw [e1] at e2
      cases e2
      rw [← hn]
      exact mgK.own_src h2) (by omega)
    obtain ⟨g, rfl⟩ : ∃ g, p' = some ⟨g, 0, none⟩ := by
      rcases q2.2 with ⟨e, h0⟩ | ⟨g, cap, cur, e, _⟩
      · exfalso
        have := (List.getElem?_eq_some_iff.1 hxx).1
        omega
      · simp only [Value.slice.injEq] at e
        exact ⟨g, e.1⟩
    rw [hn] at q1 q2 hi1 hk1 HB
    have R1 : Hid ((Builtin.append_ #[tMgs, tMgs] tMgs #[.slice none 0 0, .slice (some ad) n c]).run Try.prog w1 = .ok (.slice (some ⟨g, 0, none⟩) n c') w5) := Lib.hid q1
    have O5 := Lib.hid q2
    have K5 : Hid (Keeps w1 w5) := Lib.hid q3
    have GB : Hid (w1.heap.size ≤ g) := Lib.hid (mgK.own_lt q2 g rfl).1
    have HXX := Lib.hid hxx
    have HYY := Lib.hid hyy
    have HIL : Hid (i0 < l.length) := Lib.hid (List.getElem?_eq_some_iff.1 hxx).1
    have HKL : Hid (k0 < l.length) := Lib.hid (List.getElem?_eq_some_iff.1 hyy).1
    obtain ⟨y0, z0⟩ := HB.out _ (Keeps.refl _)
    clear h hBi hBk hT hx hy hxx hyy hb hc q1 q2 q3 hn hl HTB
    go_enter Try.func25, Try.ntmps25
    go_wp2_with fail
    refine CI.out.mono ?_
    rintro e w2 ⟨rfl, h2⟩
    obtain rfl : w1 = w2 := h2.symm
    go_wp2_with fail
    refine CK.out.mono ?_
    rintro e w3 ⟨rfl, h3⟩
    obtain rfl : w1 = w3 := h3.symm
    go_upto_region 4 with (at_builtin; refine wpAppKnown rfl _ _ _ _ rfl _ _ _ _ rfl rfl R1.out ?_)
    clear CI CK
    -- region 4
    refine wp_region_held_drew (S := fun X => Keeps w1 X) (by kernel_rfl) (K5.out.trans (ndrew _)) (fun hHeld => ?_)
    refine takeH (i := 0) (d := some 23) (v := ?va0) rfl rfl (by kernel_rfl) (by kernel_rfl) (by kernel_rfl) (fun _ _ _ h => h) (Or.inl ⟨by rfl, ?ya0⟩) (by assumption) ?ra0
    case ya0 => (intro W hSw; go_simp; try with_reducible rfl)
    try simp only [Act.put, List.setIfInBounds_toArray, List.set_cons_zero, List.set_cons_succ]
    refine takeH (i := 1) (d := some 24) (v := ?va1) rfl rfl (by kernel_rfl) (by kernel_rfl) (by kernel_rfl) (fun _ _ _ h => h) (Or.inl ⟨by rfl, ?ya1⟩) (by assumption) ?ra1
    case ya1 => (intro W hSw; go_simp; try with_reducible rfl)
    try simp only [Act.put, List.setIfInBounds_toArray, List.set_cons_zero, List.set_cons_succ]
    refine takeH (i := 2) (d := some 25) (v := ?va2) rfl rfl (by kernel_rfl) (by kernel_rfl) (by kernel_rfl) (fun _ _ _ h => h) (Or.inl ⟨by rfl, ?ya2⟩) (by assumption) ?ra2
    case ya2 => (intro W hSw; go_simp; try with_reducible rfl)
    try simp only [Act.put, List.setIfInBounds_toArray, List.set_cons_zero, List.set_cons_succ]
    refine takeH (i := 3) (d := some 26) (v := ?va3) rfl rfl (by kernel_rfl) (by kernel_rfl) (by kernel_rfl) (fun _ _ _ h => h) (Or.inl ⟨by rfl, ?ya3⟩) (by assumption) ?ra3
    case ya3 => (intro W hSw; go_simp; try with_reducible rfl)
    try simp only [Act.put, List.setIfInBounds_toArray, List.set_cons_zero, List.set_cons_succ]
    refine takeH (i := 4) (d := some 27) (v := ?va4) rfl rfl (by kernel_rfl) (by kernel_rfl) (by kernel_rfl) (fun _ _ _ h => h) (Or.inl ⟨by rfl, ?ya4⟩) (by assumption) ?ra4
    case ya4 => (intro W hSw; go_simp; try with_reducible rfl)
    try simp only [Act.put, List.setIfInBounds_toArray, List.set_cons_zero, List.set_cons_succ]
    refine takeH (i := 5) (d := some 28) (v := ?va5) rfl rfl (by kernel_rfl) (by kernel_rfl) (by kernel_rfl) (fun _ _ _ h => h) (Or.inl ⟨by rfl, ?ya5⟩) (by assumption) ?ra5
    case ya5 => (intro W hSw; go_simp; try with_reducible rfl)
    try simp only [Act.put, List.setIfInBounds_toArray, List.set_cons_zero, List.set_cons_succ]
    refine takeH (i := 6) (d := some 29) (v := ?va6) rfl rfl (by kernel_rfl) (by kernel_rfl) (by kernel_rfl) (fun _ _ _ h => h) (Or.inl ⟨by rfl, ?ya6⟩) (by assumption) ?ra6
    case ya6 => (intro W hSw; go_simp; try with_reducible rfl)
    try simp only [Act.put, List.setIfInBounds_toArray, List.set_cons_zero, List.set_cons_succ]
    refine takeH (i := 7) (d := some 30) (v := ?va7) rfl rfl (by kernel_rfl) (by kernel_rfl) (by kernel_rfl) (fun _ _ _ h => h) (Or.inl ⟨by rfl, ?ya7⟩) (by assumption) ?ra7
    case ya7 => (intro W hSw; obtain ⟨y0, z0⟩ := HB.out W hSw; go_simp; try with_reducible rfl)
    try simp only [Act.put, List.setIfInBounds_toArray, List.set_cons_zero, List.set_cons_succ]
    refine takeH (i := 8) (d := some 31) (v := ?va8) rfl rfl (by kernel_rfl) (by kernel_rfl) (by kernel_rfl) (fun _ _ _ h => h) (Or.inl ⟨by rfl, ?ya8⟩) (by assumption) ?ra8
    case ya8 => (intro W hSw; go_simp; try with_reducible rfl)
    try simp only [Act.put, List.setIfInBounds_toArray, List.set_cons_zero, List.set_cons_succ]
    refine takeH (i := 9) (d := some 32) (v := ?va9) rfl rfl (by kernel_rfl) (by kernel_rfl) (by kernel_rfl) (fun _ _ _ h => h) (Or.inl ⟨by rfl, ?ya9⟩) (by assumption) ?ra9
    case ya9 => (intro W hSw; go_simp; try with_reducible rfl)
    try simp only [Act.put, List.setIfInBounds_toArray, List.set_cons_zero, List.set_cons_succ]
    refine takeH (i := 10) (d := some 33) (v := ?va10) rfl rfl (by kernel_rfl) (by kernel_rfl) (by kernel_rfl) (fun _ _ _ h => h) (Or.inl ⟨by rfl, ?ya10⟩) (by assumption) ?ra10
    case ya10 => (intro W hSw; obtain ⟨q0, q1, q2, q3, q4, q5, q6⟩ := MY.out W hSw; go_simp; try with_reducible rfl)
    try simp only [Act.put, List.setIfInBounds_toArray, List.set_cons_zero, List.set_cons_succ]
    refine takeH (i := 11) (d := some 34) (v := ?va11) rfl rfl (by kernel_rfl) (by kernel_rfl) (by kernel_rfl) (fun _ _ _ h => h) (Or.inl ⟨by rfl, ?ya11⟩) (by assumption) ?ra11
    case ya11 => (intro W hSw; go_simp; try with_reducible rfl)
    try simp only [Act.put, List.setIfInBounds_toArray, List.set_cons_zero, List.set_cons_succ]
    refine takeH (i := 12) (d := some 35) (v := ?va12) rfl rfl (by kernel_rfl) (by kernel_rfl) (by kernel_rfl) (fun _ _ _ h => h) (Or.inl ⟨by rfl, ?ya12⟩) (by assumption) ?ra12
    case ya12 => (intro W hSw; go_simp; try with_reducible rfl)
    try simp only [Act.put, List.setIfInBounds_toArray, List.set_cons_zero, List.set_cons_succ]
    refine takeH (i := 13) (d := some 36) (v := ?va13) rfl rfl (by kernel_rfl) (by kernel_rfl) (by kernel_rfl) (fun _ _ _ h => h) (Or.inl ⟨by rfl, ?ya13⟩) (by assumption) ?ra13
    case ya13 => (intro W hSw; go_simp; try with_reducible rfl)
    try simp only [Act.put, List.setIfInBounds_toArray, List.set_cons_zero, List.set_cons_succ]
    refine takeH (i := 14) (d := some 37) (v := ?va14) rfl rfl (by kernel_rfl) (by kernel_rfl) (by kernel_rfl) (fun _ _ _ h => h) (Or.inl ⟨by rfl, ?ya14⟩) (by assumption) ?ra14
    case ya14 => (intro W hSw; obtain ⟨y0, z0⟩ := HB.out W hSw; go_simp; try with_reducible rfl)
    try simp only [Act.put, List.setIfInBounds_toArray, List.set_cons_zero, List.set_cons_succ]
    refine takeH (i := 15) (d := some 38) (v := ?va15) rfl rfl (by kernel_rfl) (by kernel_rfl) (by kernel_rfl) (fun _ _ _ h => h) (Or.inl ⟨by rfl, ?ya15⟩) (by assumption) ?ra15
    case ya15 => (intro W hSw; go_simp; try with_reducible rfl)
    try simp only [Act.put, List.setIfInBounds_toArray, List.set_cons_zero, List.set_cons_succ]
    refine takeH (i := 16) (d := some 39) (v := ?va16) rfl rfl (by kernel_rfl) (by kernel_rfl) (by kernel_rfl) (fun _ _ _ h => h) (Or.inl ⟨by rfl, ?ya16⟩) (by assumption) ?ra16
    case ya16 => (intro W hSw; go_simp; try with_reducible rfl)
    try simp only [Act.put, List.setIfInBounds_toArray, List.set_cons_zero, List.set_cons_succ]
    refine takeH (i := 17) (d := some 40) (v := ?va17) rfl rfl (by kernel_rfl) (by kernel_rfl) (by kernel_rfl) (fun _ _ _ h => h) (Or.inl ⟨by rfl, ?ya17⟩) (by assumption) ?ra17
    case ya17 => (intro W hSw; obtain ⟨q0, q1, q2, q3, q4, q5, q6⟩ := MX.out W hSw; go_simp; try with_reducible rfl)
    try simp only [Act.put, List.setIfInBounds_toArray, List.set_cons_zero, List.set_cons_succ]
    refine takeH (i := 18) (d := some 41) (v := ?va18) rfl rfl (by kernel_rfl) (by kernel_rfl) (by kernel_rfl) (fun _ _ _ h => h) (Or.inl ⟨by rfl, ?ya18⟩) (by assumption) ?ra18
    case ya18 => (intro W hSw; go_simp; try with_reducible rfl)
    try simp only [Act.put, List.setIfInBounds_toArray, List.set_cons_zero, List.set_cons_succ]
    refine wpAnyH_ready (rs := [19]) (by kernel_rfl) (by simp) ?_
    refine AllReadyH.cons rfl (fun K hK => ?_) AllReadyH.nil
    obtain ⟨⟨s0, s1, s2, s3, s4, s5, s6⟩, f0, f1, f2, f3, f4, f5, f6⟩ := own_at7 O5.out HXX.out
    go_simp
    have KS := ((sevenM_only (W := w5) (g := g) (m := i0 * 7) y).keeps K5.out (fun j hj => by rw [hj]; exact GB.out)).trans (ndrew _)
    have KT := Lib.hid KS
    obtain ⟨W1, hW1⟩ : ∃ W1, (sevenM w5 g (i0 * 7) y).drew = W1 := ⟨_, rfl⟩
    have OS1 := Lib.hid (hW1 ▸ mgK.own_keeps (own_set7 (x := y) O5.out HIL.out) (ndrew _))
    have KS1 : Hid (Keeps w1 W1) := Lib.hid (hW1 ▸ KT.out)
    unfold sevenM at hW1 KS
    refine hK.out _ _ KS (fun hHeld => ?_)
    clear hK K KS KT
    try simp only [Act.put, List.setIfInBounds_toArray, List.set_cons_zero, List.set_cons_succ]
    rw [hW1]
    rw [hW1] at hHeld
    clear hW1 s0 s1 s2 s3 s4 s5 s6 f0 f1 f2 f3 f4 f5 f6
    refine takeH (i := 20) (d := some 42) (v := ?vb20) rfl rfl (by kernel_rfl) (by kernel_rfl) (by kernel_rfl) (fun _ _ _ h => h) (Or.inl ⟨by rfl, ?yb20⟩) (by assumption) ?rb20
    case yb20 => (intro W hSw; go_simp; try with_reducible rfl)
    try simp only [Act.put, List.setIfInBounds_toArray, List.set_cons_zero, List.set_cons_succ]
    refine wpAnyH_ready (rs := [21]) (by kernel_rfl) (by simp) ?_
    refine AllReadyH.cons rfl (fun K hK => ?_) AllReadyH.nil
    have HLL : (l.set i0 y)[k0]? = some ((l.set i0 y)[k0]'(by rw [List.length_set]; exact HKL.out)) := List.getElem?_eq_getElem _
    obtain ⟨⟨s0, s1, s2, s3, s4, s5, s6⟩, f0, f1, f2, f3, f4, f5, f6⟩ := own_at7 OS1.out HLL
    go_simp
    have KS := (sevenM_only (W := W1) (g := g) (m := k0 * 7) x).keeps KS1.out (fun j hj => by rw [hj]; exact GB.out)
    have KT := Lib.hid KS
    obtain ⟨W2, hW2⟩ : ∃ W2, sevenM W1 g (k0 * 7) x = W2 := ⟨_, rfl⟩
    have OS2 := Lib.hid (hW2 ▸ own_set7 (x := x) OS1.out (by rw [List.length_set]; exact HKL.out))
    have KS2 : Hid (Keeps w1 W2) := Lib.hid (hW2 ▸ KT.out)
    unfold sevenM at hW2 KS
    refine hK.out _ _ KS (fun hHeld => ?_)
    clear hK K KS KT
    try simp only [Act.put, List.setIfInBounds_toArray, List.set_cons_zero, List.set_cons_succ]
    rw [hW2]
    clear hW2 s0 s1 s2 s3 s4 s5 s6 f0 f1 f2 f3 f4 f5 f6 HLL hHeld y0 z0
    refine wpAnyH_done (by kernel_rfl) ?_ _
    obtain ⟨y0, z0⟩ := HB.out _ KS2.out
    go_wp2
    go_ret
    exact ⟨rfl, by rw [ET.out]; exact ref_put HR.out KS2.out OS2.out⟩
    -- region 4 end
  · have E2 : Hid (turn l i k = l) := Lib.hid (turn_no (by rw [HT.out, HTB.out]; cases Bi <;> cases Bk <;> simp_all))
    obtain rfl : T = false := by rw [HTB.out]; cases Bi <;> cases Bk <;> simp_all
    clear h hBi hBk hT hl HTB HT
    go_enter Try.func25, Try.ntmps25
    go_wp2_with fail
    refine CI.out.mono ?_
    rintro e w2 ⟨rfl, rfl⟩
    cases Bi with
    | false =>
      go_wp2
      go_ret
      exact ⟨rfl, by rw [E2.out]; exact RGoes.same HR.out (Keeps.refl _)⟩
    | true =>
      obtain rfl : Bk = false := by cases Bk <;> simp_all
      go_wp2_with fail
      refine CK.out.mono ?_
      rintro e w3 ⟨rfl, rfl⟩
      go_wp2
      go_ret
      exact ⟨rfl, by rw [E2.out]; exact RGoes.same HR.out (Keeps.refl _)⟩
end Nt
end Go.Proofs.Ytajphjlfefhajaa
