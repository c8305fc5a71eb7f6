/- The program's net: Drop, Double, Turn; all that it must answer. -/
import Derived.Test.YtajphjlfefhajaaNtC3
set_option linter.unusedVariables false
set_option linter.unusedSimpArgs false
namespace Go.Proofs.Ytajphjlfefhajaa
open Go.ChangeShapes Go.WideShapes Go.ChangeAt Go.RowKit Csv Ky
namespace Nt
theorem pn_drop (b : Nat) (F : Nat → Prop) (l : List Mg) (i : Int) (W : World) (h : NtAt W b F l) (hl : l.length ≤ 1000) :
    Calls Try.prog 17 #[.pointer (some ⟨b, 0, none⟩), .int .i64 i] W fun e w' => e = .returned (.bool (isB l i)) ∧ PGoes NtAt W w' b F (del l i) := by
  have CD := Lib.hid (pn_deliver b F l i W h hl)
  obtain ⟨t, o, k, s, q, a, c, hv⟩ : ∃ t o k s q a c, delV (gone l i) = .agg #[.int .i64 t, .int .i64 o, .int .i64 k, .string s, .int .i64 q, .int .i64 a, .int .i64 c] := by
    cases gone l i with
    | none => exact ⟨_, _, _, _, _, _, _, rfl⟩
    | some m => exact ⟨_, _, _, _, _, _, _, rfl⟩
  rw [hv] at CD
  generalize isB l i = B at *
  clear h hl hv
  go_enter Try.func17, Try.ntmps17
  go_wp2_with fail
  refine CD.out.mono ?_
  rintro e w2 ⟨rfl, hg⟩
  have HG := Lib.hid hg
  clear hg
  go_wp2
  go_ret
  obtain ⟨⟨F', r1, r2⟩, ho⟩ := HG.out
  have k := nbox w2 (.cells #[.int .i64 t, .int .i64 o, .int .i64 k, .string s, .int .i64 q, .int .i64 a, .int .i64 c] tMg)
  exact ⟨rfl, ⟨⟨F', r1.keeps k, r2⟩, ho.trans (Only.of_keeps k)⟩⟩
set_option maxRecDepth 100000 in
theorem pn_double (b : Nat) (F : Nat → Prop) (l : List Mg) (i : Int) (W : World) (h : NtAt W b F l) (hl : l.length ≤ 1000) :
    Calls Try.prog 18 #[.pointer (some ⟨b, 0, none⟩), .int .i64 i] W fun e w' => e = .returned (.bool (dblB l i)) ∧ PGoes NtAt W w' b F (dbl l i) := by
  have CI := Lib.hid (pn_has b F l i W h)
  have HR := Lib.hid h
  obtain ⟨B, hB⟩ : ∃ B, isB l i = B := ⟨_, rfl⟩
  have HIS := Lib.hid hB
  obtain ⟨D, hD⟩ : ∃ D, dblB l i = D := ⟨_, rfl⟩
  have HD := Lib.hid hD
  rw [hB] at CI
  rw [hD]
  cases B with
  | false =>
    have E2 : Hid (dbl l i = l) := Lib.hid (dbl_no HIS.out)
    obtain rfl : D = false := by rw [← hD]; unfold dblB; rw [hB]; rfl
    clear h hB hD hl
    go_enter Try.func18, Try.ntmps18
    go_wp2_with fail
    refine CI.out.mono ?_
    rintro e w2 ⟨rfl, rfl⟩
    go_wp2
    go_ret
    exact ⟨rfl, by rw [E2.out]; exact PGoes.same HR.out (Only.refl _)⟩
  | true =>
    obtain ⟨hi0, hi1⟩ := is_iff.1 hB
    obtain ⟨i0, hi⟩ : ∃ i0 : Nat, i = (i0 : Int) := ⟨i.toNat, by omega⟩
    subst hi
    obtain ⟨x, hx, hg⟩ := gone_some hB
    have hxx : l[i0]? = some x := by simpa using hx
    have E2 : Hid (dbl l (i0 : Int) = send l x) := Lib.hid (dbl_yes hg)
    have ER : Hid (D = room l) := Lib.hid (by rw [← hD]; unfold dblB; rw [hB]; rfl)
    have CS := Lib.hid (pn_send b F l x W h hl)
    obtain ⟨v, h1, h2, h3⟩ := h
    obtain ⟨g, cap, rfl⟩ : ∃ g cap, v = .slice (some ⟨g, 0, none⟩) l.length cap := by
      rcases h2 with ⟨_, e⟩ | ⟨g, cap, cur, e, _⟩
      · subst e; simp at hxx
      · exact ⟨g, cap, e⟩
    obtain ⟨⟨q0, q1, q2, q3, q4, q5, q6⟩, _⟩ := wide_at7 h2 hxx
    obtain ⟨y0, y1, z0, z1⟩ := two_at h1
    obtain ⟨n, hn⟩ : ∃ n, l.length = n := ⟨_, rfl⟩
    rw [hn] at y1 hi1
    unfold mgV at CS
    clear h1 h2 h3 hB hD hx hg hxx hn hl
    go_enter Try.func18, Try.ntmps18
    go_wp2_with fail
    refine CI.out.mono ?_
    rintro e w2 ⟨rfl, h2⟩
    obtain rfl : W = w2 := h2.symm
    go_wp2_with fail
    refine CS.out.mono ?_
    rintro e w3 ⟨rfl, hg⟩
    have HG := Lib.hid hg
    clear hg
    go_wp2
    go_ret
    exact ⟨by rw [ER.out]; rfl, by rw [E2.out]; exact HG.out⟩
/-- A message of such a row, set whole. -/
theorem wide_set7 {W : World} {g N c i : Nat} {L : List Mg} {x : Mg} (h : mgK.Wide W (.slice (some ⟨g, 0, none⟩) N c) L) (hi : i < L.length) :
    mgK.Wide (sevenM W g (i * 7) x) (.slice (some ⟨g, 0, none⟩) N c) (L.set i x) := by
  rcases h with ⟨e, _⟩ | ⟨g', cap, cur, e, hg, r1, r2, r3, r4⟩
  · cases e
  · simp only [Value.slice.injEq, Option.some.injEq, Addr.mk.injEq] at e
    obtain ⟨⟨rfl, _, _⟩, rfl, rfl⟩ := e
    refine Or.inr ⟨g, c, _, by rw [List.length_set], sevenM_block hg x, by rw [List.length_set]; exact r1, r2, by simpa using r3, ?_⟩
    have e7 : mgK.sz = 7 := rfl
    rw [e7] at r3 r4
    rw [List.length_set, e7]
    apply List.ext_getElem?
    intro m
    have hcap : L.length * 7 ≤ cur.size := Nat.le_trans (Nat.mul_le_mul_right 7 r1) r3
    by_cases hm : m < L.length * 7
    · obtain ⟨k, t, rfl, ht⟩ : ∃ k t, m = k * 7 + t ∧ t < 7 := ⟨m / 7, m % 7, by omega, by omega⟩
      have hk : k < L.length := by omega
      have hk2 : k < (L.set i x).length := by rw [List.length_set]; exact hk
      have hx : (L.set i x)[k]? = some (L.set i x)[k] := List.getElem?_eq_getElem hk2
      have hv : (mgVals (L.set i x)[k])[t]? = some ((mgVals (L.set i x)[k])[t]'ht) := List.getElem?_eq_getElem ht
      have R1 := mgK.row_at hx (j := t) (u := (mgVals (L.set i x)[k])[t]'ht) hv
      rw [e7] at R1
      rw [R1, List.getElem?_take_of_lt hm]
      by_cases hki : k = i
      · subst hki
        simp only [Array.toList_setIfInBounds, List.getElem_set_self]
        rcases (show t = 0 ∨ t = 1 ∨ t = 2 ∨ t = 3 ∨ t = 4 ∨ t = 5 ∨ t = 6 from by omega) with rfl | rfl | rfl | rfl | rfl | rfl | rfl
        all_goals
          simp only [List.getElem?_set, List.length_set, Array.length_toList, mgVals]
          simp (config := {arith := true})
          try omega
      · have hne : ∀ u, u < 7 → ¬ (i * 7 + u = k * 7 + t) := fun u hu e => hki (by omega)
        have h0 : ¬ (i * 7 = k * 7 + t) := hne 0 (by omega)
        have hxk : (L.set i x)[k] = L[k] := by rw [List.getElem_set_ne (fun e => hki e.symm)]
        have R0 := mgK.row_at (List.getElem?_eq_getElem hk) (j := t) (u := (mgVals L[k])[t]'ht) (List.getElem?_eq_getElem ht)
        rw [e7, ← r4, List.getElem?_take_of_lt hm] at R0
        simp only [Array.toList_setIfInBounds, List.getElem?_set, h0, hne 1 (by omega), hne 2 (by omega), hne 3 (by omega), hne 4 (by omega), hne 5 (by omega), hne 6 (by omega), if_false]
        rw [R0]
        simp only [hxk]
        rfl
    · rw [List.getElem?_eq_none (by rw [List.length_take]; omega), List.getElem?_eq_none (by rw [mgK.row_len, List.length_set, e7]; omega)]
theorem nt_turned {W Y : World} {b g N c : Nat} {F : Nat → Prop} {l' : List Mg} (hF : ∀ i, F i ↔ (i = b ∨ (Value.slice (some ⟨g, 0, none⟩) N c).ownBlock = some i)) (hb : W.heap[b]? = some (.cells #[.bool true, .slice (some ⟨g, 0, none⟩) N c] tNt (0, 0))) (ap : (Value.slice (some ⟨g, 0, none⟩) N c).ownBlock ≠ some b) (o : Only (fun i => i = g) W Y) (ho : mgK.Wide Y (.slice (some ⟨g, 0, none⟩) N c) l') : PGoes NtAt W Y b F l' :=
  ⟨⟨F, ⟨_, (o.same b (box_lt hb) (fun e => ap (by rw [e]; rfl))).trans hb, ho, hF⟩, fun i hi => Or.inl hi⟩, o.mono fun i hi => (hF i).2 (Or.inr (by rw [hi]; rfl))⟩
set_option maxHeartbeats 8000000 in
set_option maxRecDepth 100000 in
theorem pn_turn (b : Nat) (F : Nat → Prop) (l : List Mg) (i k : Int) (w1 : World) (h : NtAt w1 b F l) (hl : l.length ≤ 1000) :
    Calls Try.prog 19 #[.pointer (some ⟨b, 0, none⟩), .int .i64 i, .int .i64 k] w1 fun e w' => e = .returned (.bool (turnB l i k)) ∧ PGoes NtAt w1 w' b F (turn l i k) := by
  have CI := Lib.hid (pn_has b F l i w1 h)
  have CK := Lib.hid (pn_has b F l k w1 h)
  have HR := Lib.hid h
  obtain ⟨Bi, hBi⟩ : ∃ B, isB l i = B := ⟨_, rfl⟩
  obtain ⟨Bk, hBk⟩ : ∃ B, isB l k = B := ⟨_, rfl⟩
  obtain ⟨T, hT⟩ : ∃ T, turnB l i k = T := ⟨_, rfl⟩
  have HT := Lib.hid hT
  have HTB : Hid (T = (Bi && Bk)) := Lib.hid (by rw [← hT]; unfold turnB; rw [hBi, hBk])
  rw [hBi] at CI
  rw [hBk] at CK
  rw [hT]
  by_cases hbb : Bi = true ∧ Bk = true
  · obtain ⟨rfl, rfl⟩ := hbb
    obtain rfl : T = true := by rw [HTB.out]; rfl
    obtain ⟨hi0, hi1⟩ := is_iff.1 hBi
    obtain ⟨hk0, hk1⟩ := is_iff.1 hBk
    obtain ⟨i0, hi⟩ : ∃ i0 : Nat, i = (i0 : Int) := ⟨i.toNat, by omega⟩
    obtain ⟨k0, hk⟩ : ∃ k0 : Nat, k = (k0 : Int) := ⟨k.toNat, by omega⟩
    subst hi hk
    obtain ⟨x, hx, _⟩ := gone_some hBi
    obtain ⟨y, hy, _⟩ := gone_some hBk
    have hxx : l[i0]? = some x := by simpa using hx
    have hyy : l[k0]? = some y := by simpa using hy
    have ET : Hid (turn l (i0 : Int) (k0 : Int) = (l.set i0 y).set k0 x) := Lib.hid (by have := turn_yes hT hx hy; simpa using this)
    obtain ⟨v, h1, h2, h3⟩ := h
    obtain ⟨g, cap, rfl⟩ : ∃ g cap, v = .slice (some ⟨g, 0, none⟩) l.length cap := by
      rcases h2 with ⟨_, e⟩ | ⟨g, cap, cur, e, _⟩
      · subst e; simp at hxx
      · exact ⟨g, cap, e⟩
    have AP := Lib.hid (nt_apart h1 h2)
    obtain ⟨n, hn⟩ : ∃ n, l.length = n := ⟨_, rfl⟩
    have HIL : Hid (i0 < l.length) := Lib.hid (List.getElem?_eq_some_iff.1 hxx).1
    have HKL : Hid (k0 < l.length) := Lib.hid (List.getElem?_eq_some_iff.1 hyy).1
    have HXX := Lib.hid hxx
    have HYY := Lib.hid hyy
    rw [hn] at h1 h2 h3 AP hi1 hk1
    have HBX := Lib.hid h1
    have WD1 := Lib.hid h2
    have HF := Lib.hid h3
    have gb : g ≠ b := fun e => AP.out (by rw [e]; rfl)
    have bg : b ≠ g := Ne.symm gb
    have HB : Hid (∀ X, Only (fun i => i = g) w1 X → X.cell? ⟨b, 0, none⟩ = some (.bool true) ∧ X.cell? ⟨b, 1, none⟩ = some (.slice (some ⟨g, 0, none⟩) n cap) ∧ X.frozen? ⟨b, 0, none⟩ = false ∧ X.frozen? ⟨b, 1, none⟩ = false) := Lib.hid fun X k => two_at ((k.same b (box_lt h1) bg).trans h1)
    obtain ⟨y0, y1, z0, z1⟩ := two_at h1
    clear h1 h2 h3 hBi hBk hT hx hy hxx hyy hn hl HTB
    go_enter Try.func19, Try.ntmps19
    go_wp2_with fail
    refine CI.out.mono ?_
    rintro e w2 ⟨rfl, h2⟩
    obtain rfl : w1 = w2 := h2.symm
    go_wp2_with fail
    refine CK.out.mono ?_
    rintro e w3 ⟨rfl, h3⟩
    obtain rfl : w1 = w3 := h3.symm
    go_upto_region 3 with (fail)
    clear CI CK y0 y1 z0 z1
    -- region
    refine wp_region_held_drew (S := fun X => Only (fun i => i = g) w1 X) (by kernel_rfl) (Only.of_keeps (ndrew _)) (fun hHeld => ?_)
    refine takeH (i := 0) (d := some 17) (v := ?va0) rfl rfl (by kernel_rfl) (by kernel_rfl) (by kernel_rfl) (fun _ _ _ h => h) (Or.inl ⟨by rfl, ?ya0⟩) (by assumption) ?ra0
    case ya0 => (intro W hSw; go_simp; try with_reducible rfl)
    try simp only [Act.put, List.setIfInBounds_toArray, List.set_cons_zero, List.set_cons_succ]
    refine takeH (i := 1) (d := some 18) (v := ?va1) rfl rfl (by kernel_rfl) (by kernel_rfl) (by kernel_rfl) (fun _ _ _ h => h) (Or.inl ⟨by rfl, ?ya1⟩) (by assumption) ?ra1
    case ya1 => (intro W hSw; go_simp; try with_reducible rfl)
    try simp only [Act.put, List.setIfInBounds_toArray, List.set_cons_zero, List.set_cons_succ]
    refine takeH (i := 2) (d := some 19) (v := ?va2) rfl rfl (by kernel_rfl) (by kernel_rfl) (by kernel_rfl) (fun _ _ _ h => h) (Or.inl ⟨by rfl, ?ya2⟩) (by assumption) ?ra2
    case ya2 => (intro W hSw; go_simp; try with_reducible rfl)
    try simp only [Act.put, List.setIfInBounds_toArray, List.set_cons_zero, List.set_cons_succ]
    refine takeH (i := 3) (d := some 20) (v := ?va3) rfl rfl (by kernel_rfl) (by kernel_rfl) (by kernel_rfl) (fun _ _ _ h => h) (Or.inl ⟨by rfl, ?ya3⟩) (by assumption) ?ra3
    case ya3 => (intro W hSw; obtain ⟨y0, y1, z0, z1⟩ := HB.out W hSw; go_simp; try with_reducible rfl)
    try simp only [Act.put, List.setIfInBounds_toArray, List.set_cons_zero, List.set_cons_succ]
    refine takeH (i := 4) (d := some 21) (v := ?va4) rfl rfl (by kernel_rfl) (by kernel_rfl) (by kernel_rfl) (fun _ _ _ h => h) (Or.inl ⟨by rfl, ?ya4⟩) (by assumption) ?ra4
    case ya4 => (intro W hSw; go_simp; try with_reducible rfl)
    try simp only [Act.put, List.setIfInBounds_toArray, List.set_cons_zero, List.set_cons_succ]
    refine takeH (i := 5) (d := some 22) (v := ?va5) rfl rfl (by kernel_rfl) (by kernel_rfl) (by kernel_rfl) (fun _ _ _ h => h) (Or.inl ⟨by rfl, ?ya5⟩) (by assumption) ?ra5
    case ya5 => (intro W hSw; go_simp; try with_reducible rfl)
    try simp only [Act.put, List.setIfInBounds_toArray, List.set_cons_zero, List.set_cons_succ]
    refine takeH (i := 6) (d := some 23) (v := ?va6) rfl rfl (by kernel_rfl) (by kernel_rfl) (by kernel_rfl) (fun _ _ _ h => h) (Or.inl ⟨by rfl, ?ya6⟩) (by assumption) ?ra6
    case ya6 => (intro W hSw; go_simp; try with_reducible rfl)
    try simp only [Act.put, List.setIfInBounds_toArray, List.set_cons_zero, List.set_cons_succ]
    refine takeH (i := 7) (d := some 24) (v := ?va7) rfl rfl (by kernel_rfl) (by kernel_rfl) (by kernel_rfl) (fun _ _ _ h => h) (Or.inl ⟨by rfl, ?ya7⟩) (by assumption) ?ra7
    case ya7 => (intro W hSw; go_simp; try with_reducible rfl)
    try simp only [Act.put, List.setIfInBounds_toArray, List.set_cons_zero, List.set_cons_succ]
    refine takeH (i := 8) (d := some 25) (v := ?va8) rfl rfl (by kernel_rfl) (by kernel_rfl) (by kernel_rfl) (fun _ _ _ h => h) (Or.inl ⟨by rfl, ?ya8⟩) (by assumption) ?ra8
    case ya8 => (intro W hSw; obtain ⟨y0, y1, z0, z1⟩ := HB.out W hSw; go_simp; try with_reducible rfl)
    try simp only [Act.put, List.setIfInBounds_toArray, List.set_cons_zero, List.set_cons_succ]
    refine takeH (i := 9) (d := some 26) (v := ?va9) rfl rfl (by kernel_rfl) (by kernel_rfl) (by kernel_rfl) (fun _ _ _ h => h) (Or.inl ⟨by rfl, ?ya9⟩) (by assumption) ?ra9
    case ya9 => (intro W hSw; go_simp; try with_reducible rfl)
    try simp only [Act.put, List.setIfInBounds_toArray, List.set_cons_zero, List.set_cons_succ]
    refine takeH (i := 10) (d := some 27) (v := ?va10) rfl rfl (by kernel_rfl) (by kernel_rfl) (by kernel_rfl) (fun _ _ _ h => h) (Or.inl ⟨by rfl, ?ya10⟩) (by assumption) ?ra10
    case ya10 => (intro W hSw; go_simp; try with_reducible rfl)
    try simp only [Act.put, List.setIfInBounds_toArray, List.set_cons_zero, List.set_cons_succ]
    refine takeH (i := 11) (d := some 28) (v := ?va11) rfl rfl (by kernel_rfl) (by kernel_rfl) (by kernel_rfl) (fun _ _ _ h => h) (Or.inl ⟨by rfl, ?ya11⟩) (by assumption) ?ra11
    case ya11 => (intro W hSw; go_simp; try with_reducible rfl)
    try simp only [Act.put, List.setIfInBounds_toArray, List.set_cons_zero, List.set_cons_succ]
    refine takeH (i := 12) (d := some 29) (v := ?va12) rfl rfl (by kernel_rfl) (by kernel_rfl) (by kernel_rfl) (fun _ _ _ h => h) (Or.inl ⟨by rfl, ?ya12⟩) (by assumption) ?ra12
    case ya12 => (intro W hSw; go_simp; try with_reducible rfl)
    try simp only [Act.put, List.setIfInBounds_toArray, List.set_cons_zero, List.set_cons_succ]
    refine takeH (i := 13) (d := some 30) (v := ?va13) rfl rfl (by kernel_rfl) (by kernel_rfl) (by kernel_rfl) (fun _ _ _ h => h) (Or.inl ⟨by rfl, ?ya13⟩) (by assumption) ?ra13
    case ya13 => (intro W hSw; obtain ⟨y0, y1, z0, z1⟩ := HB.out W hSw; go_simp; try with_reducible rfl)
    try simp only [Act.put, List.setIfInBounds_toArray, List.set_cons_zero, List.set_cons_succ]
    refine takeH (i := 14) (d := some 31) (v := ?va14) rfl rfl (by kernel_rfl) (by kernel_rfl) (by kernel_rfl) (fun _ _ _ h => h) (Or.inl ⟨by rfl, ?ya14⟩) (by assumption) ?ra14
    case ya14 => (intro W hSw; go_simp; try with_reducible rfl)
    try simp only [Act.put, List.setIfInBounds_toArray, List.set_cons_zero, List.set_cons_succ]
    refine takeH (i := 15) (d := some 32) (v := ?va15) rfl rfl (by kernel_rfl) (by kernel_rfl) (by kernel_rfl) (fun _ _ _ h => h) (Or.inl ⟨by rfl, ?ya15⟩) (by assumption) ?ra15
    case ya15 => (intro W hSw; go_simp; try with_reducible rfl)
    try simp only [Act.put, List.setIfInBounds_toArray, List.set_cons_zero, List.set_cons_succ]
    refine takeH (i := 17) (d := some 34) (v := ?va17) rfl rfl (by kernel_rfl) (by kernel_rfl) (by kernel_rfl) (fun _ _ _ h => h) (Or.inl ⟨by rfl, ?ya17⟩) (by assumption) ?ra17
    case ya17 => (intro W hSw; go_simp; try with_reducible rfl)
    try simp only [Act.put, List.setIfInBounds_toArray, List.set_cons_zero, List.set_cons_succ]
    refine takeH (i := 18) (d := some 35) (v := ?va18) rfl rfl (by kernel_rfl) (by kernel_rfl) (by kernel_rfl) (fun _ _ _ h => h) (Or.inl ⟨by rfl, ?ya18⟩) (by assumption) ?ra18
    case ya18 => (intro W hSw; go_simp; try with_reducible rfl)
    try simp only [Act.put, List.setIfInBounds_toArray, List.set_cons_zero, List.set_cons_succ]
    refine takeH (i := 19) (d := some 36) (v := ?va19) rfl rfl (by kernel_rfl) (by kernel_rfl) (by kernel_rfl) (fun _ _ _ h => h) (Or.inl ⟨by rfl, ?ya19⟩) (by assumption) ?ra19
    case ya19 => (intro W hSw; go_simp; try with_reducible rfl)
    try simp only [Act.put, List.setIfInBounds_toArray, List.set_cons_zero, List.set_cons_succ]
    refine takeH (i := 20) (d := some 37) (v := ?va20) rfl rfl (by kernel_rfl) (by kernel_rfl) (by kernel_rfl) (fun _ _ _ h => h) (Or.inl ⟨by rfl, ?ya20⟩) (by assumption) ?ra20
    case ya20 => (intro W hSw; obtain ⟨y0, y1, z0, z1⟩ := HB.out W hSw; go_simp; try with_reducible rfl)
    try simp only [Act.put, List.setIfInBounds_toArray, List.set_cons_zero, List.set_cons_succ]
    refine takeH (i := 21) (d := some 38) (v := ?va21) rfl rfl (by kernel_rfl) (by kernel_rfl) (by kernel_rfl) (fun _ _ _ h => h) (Or.inl ⟨by rfl, ?ya21⟩) (by assumption) ?ra21
    case ya21 => (intro W hSw; go_simp; try with_reducible rfl)
    try simp only [Act.put, List.setIfInBounds_toArray, List.set_cons_zero, List.set_cons_succ]
    refine takeH (i := 22) (d := some 39) (v := ?va22) rfl rfl (by kernel_rfl) (by kernel_rfl) (by kernel_rfl) (fun _ _ _ h => h) (Or.inl ⟨by rfl, ?ya22⟩) (by assumption) ?ra22
    case ya22 => (intro W hSw; go_simp; try with_reducible rfl)
    try simp only [Act.put, List.setIfInBounds_toArray, List.set_cons_zero, List.set_cons_succ]
    refine wpAnyH_ready (rs := [16, 23]) (by kernel_rfl) (by simp) ?_
    refine AllReadyH.cons rfl (fun K hK => ?_) (AllReadyH.cons rfl (fun K hK => ?_) AllReadyH.nil)
    · obtain ⟨⟨s0, s1, s2, s3, s4, s5, s6⟩, f0, f1, f2, f3, f4, f5, f6⟩ := wide_at7 WD1.out HYY.out
      go_simp
      refine hK.out _ _ (Only.of_keeps (ndrew w1)) (fun hHeld => ?_)
      clear hK K
      try simp only [Act.put, List.setIfInBounds_toArray, List.set_cons_zero, List.set_cons_succ]
      clear s0 s1 s2 s3 s4 s5 s6 f0 f1 f2 f3 f4 f5 f6
      refine wpAnyH_ready (rs := [23]) (by kernel_rfl) (by simp) ?_
      refine AllReadyH.cons rfl (fun K hK => ?_) AllReadyH.nil
      obtain ⟨⟨s0, s1, s2, s3, s4, s5, s6⟩, f0, f1, f2, f3, f4, f5, f6⟩ := wide_at7 WD1.out HXX.out
      go_simp
      refine hK.out _ _ (Only.of_keeps (ndrew w1)) (fun hHeld => ?_)
      clear hK K
      try simp only [Act.put, List.setIfInBounds_toArray, List.set_cons_zero, List.set_cons_succ]
      clear s0 s1 s2 s3 s4 s5 s6 f0 f1 f2 f3 f4 f5 f6
      refine takeH (i := 24) (d := some 41) (v := ?vd24) rfl rfl (by kernel_rfl) (by kernel_rfl) (by kernel_rfl) (fun _ _ _ h => h) (Or.inl ⟨by rfl, ?yd24⟩) (by assumption) ?rd24
      case yd24 => (intro W hSw; go_simp; try with_reducible rfl)
      try simp only [Act.put, List.setIfInBounds_toArray, List.set_cons_zero, List.set_cons_succ]
      refine wpAnyH_ready (rs := [25]) (by kernel_rfl) (by simp) ?_
      refine AllReadyH.cons rfl (fun K hK => ?_) AllReadyH.nil
      obtain ⟨⟨s0, s1, s2, s3, s4, s5, s6⟩, f0, f1, f2, f3, f4, f5, f6⟩ := wide_at7 WD1.out HXX.out
      go_simp
      have KS := (sevenM_only (W := w1) (g := g) (m := i0 * 7) y).trans (Only.of_keeps (ndrew _))
      have KT := Lib.hid KS
      obtain ⟨W1, hW1⟩ : ∃ W1, (sevenM w1 g (i0 * 7) y).drew = W1 := ⟨_, rfl⟩
      have OS1 := Lib.hid (hW1 ▸ mgK.wide_keeps (wide_set7 (x := y) WD1.out HIL.out) (ndrew _))
      have KS1 : Hid (Only (fun i => i = g) w1 W1) := Lib.hid (hW1 ▸ KT.out)
      unfold sevenM at hW1 KS
      refine hK.out _ _ KS (fun hHeld => ?_)
      clear hK K KS KT
      try simp only [Act.put, List.setIfInBounds_toArray, List.set_cons_zero, List.set_cons_succ]
      rw [hW1]
      rw [hW1] at hHeld
      clear hW1 s0 s1 s2 s3 s4 s5 s6 f0 f1 f2 f3 f4 f5 f6
      refine takeH (i := 26) (d := some 42) (v := ?vd26) rfl rfl (by kernel_rfl) (by kernel_rfl) (by kernel_rfl) (fun _ _ _ h => h) (Or.inl ⟨by rfl, ?yd26⟩) (by assumption) ?rd26
      case yd26 => (intro W hSw; go_simp; try with_reducible rfl)
      try simp only [Act.put, List.setIfInBounds_toArray, List.set_cons_zero, List.set_cons_succ]
      refine wpAnyH_ready (rs := [27]) (by kernel_rfl) (by simp) ?_
      refine AllReadyH.cons rfl (fun K hK => ?_) AllReadyH.nil
      have HLL : (l.set i0 y)[k0]? = some ((l.set i0 y)[k0]'(by rw [List.length_set]; exact HKL.out)) := List.getElem?_eq_getElem _
      obtain ⟨⟨s0, s1, s2, s3, s4, s5, s6⟩, f0, f1, f2, f3, f4, f5, f6⟩ := wide_at7 OS1.out HLL
      go_simp
      have KS := KS1.out.trans (sevenM_only (W := W1) (g := g) (m := k0 * 7) x)
      have KT := Lib.hid KS
      obtain ⟨W2, hW2⟩ : ∃ W2, sevenM W1 g (k0 * 7) x = W2 := ⟨_, rfl⟩
      have OS2 := Lib.hid (hW2 ▸ wide_set7 (x := x) OS1.out (by rw [List.length_set]; exact HKL.out))
      have KS2 : Hid (Only (fun i => i = g) w1 W2) := Lib.hid (hW2 ▸ KT.out)
      unfold sevenM at hW2 KS
      refine hK.out _ _ KS (fun hHeld => ?_)
      clear hK K KS KT
      try simp only [Act.put, List.setIfInBounds_toArray, List.set_cons_zero, List.set_cons_succ]
      rw [hW2]
      clear hW2 s0 s1 s2 s3 s4 s5 s6 f0 f1 f2 f3 f4 f5 f6 HLL hHeld
      refine wpAnyH_done (by kernel_rfl) ?_ _
      go_wp2
      go_ret
      exact ⟨rfl, by rw [ET.out]; exact nt_turned HF.out HBX.out AP.out KS2.out OS2.out⟩
    · obtain ⟨⟨s0, s1, s2, s3, s4, s5, s6⟩, f0, f1, f2, f3, f4, f5, f6⟩ := wide_at7 WD1.out HXX.out
      go_simp
      refine hK.out _ _ (Only.of_keeps (ndrew w1)) (fun hHeld => ?_)
      clear hK K
      try simp only [Act.put, List.setIfInBounds_toArray, List.set_cons_zero, List.set_cons_succ]
      clear s0 s1 s2 s3 s4 s5 s6 f0 f1 f2 f3 f4 f5 f6
      refine wpAnyH_ready (rs := [16]) (by kernel_rfl) (by simp) ?_
      refine AllReadyH.cons rfl (fun K hK => ?_) AllReadyH.nil
      obtain ⟨⟨s0, s1, s2, s3, s4, s5, s6⟩, f0, f1, f2, f3, f4, f5, f6⟩ := wide_at7 WD1.out HYY.out
      go_simp
      refine hK.out _ _ (Only.of_keeps (ndrew w1)) (fun hHeld => ?_)
      clear hK K
      try simp only [Act.put, List.setIfInBounds_toArray, List.set_cons_zero, List.set_cons_succ]
      clear s0 s1 s2 s3 s4 s5 s6 f0 f1 f2 f3 f4 f5 f6
      refine takeH (i := 24) (d := some 41) (v := ?ve24) rfl rfl (by kernel_rfl) (by kernel_rfl) (by kernel_rfl) (fun _ _ _ h => h) (Or.inl ⟨by rfl, ?ye24⟩) (by assumption) ?re24
      case ye24 => (intro W hSw; go_simp; try with_reducible rfl)
      try simp only [Act.put, List.setIfInBounds_toArray, List.set_cons_zero, List.set_cons_succ]
      refine wpAnyH_ready (rs := [25]) (by kernel_rfl) (by simp) ?_
      refine AllReadyH.cons rfl (fun K hK => ?_) AllReadyH.nil
      obtain ⟨⟨s0, s1, s2, s3, s4, s5, s6⟩, f0, f1, f2, f3, f4, f5, f6⟩ := wide_at7 WD1.out HXX.out
      go_simp
      have KS := (sevenM_only (W := w1) (g := g) (m := i0 * 7) y).trans (Only.of_keeps (ndrew _))
      have KT := Lib.hid KS
      obtain ⟨W1, hW1⟩ : ∃ W1, (sevenM w1 g (i0 * 7) y).drew = W1 := ⟨_, rfl⟩
      have OS1 := Lib.hid (hW1 ▸ mgK.wide_keeps (wide_set7 (x := y) WD1.out HIL.out) (ndrew _))
      have KS1 : Hid (Only (fun i => i = g) w1 W1) := Lib.hid (hW1 ▸ KT.out)
      unfold sevenM at hW1 KS
      refine hK.out _ _ KS (fun hHeld => ?_)
      clear hK K KS KT
      try simp only [Act.put, List.setIfInBounds_toArray, List.set_cons_zero, List.set_cons_succ]
      rw [hW1]
      rw [hW1] at hHeld
      clear hW1 s0 s1 s2 s3 s4 s5 s6 f0 f1 f2 f3 f4 f5 f6
      refine takeH (i := 26) (d := some 42) (v := ?ve26) rfl rfl (by kernel_rfl) (by kernel_rfl) (by kernel_rfl) (fun _ _ _ h => h) (Or.inl ⟨by rfl, ?ye26⟩) (by assumption) ?re26
      case ye26 => (intro W hSw; go_simp; try with_reducible rfl)
      try simp only [Act.put, List.setIfInBounds_toArray, List.set_cons_zero, List.set_cons_succ]
      refine wpAnyH_ready (rs := [27]) (by kernel_rfl) (by simp) ?_
      refine AllReadyH.cons rfl (fun K hK => ?_) AllReadyH.nil
      have HLL : (l.set i0 y)[k0]? = some ((l.set i0 y)[k0]'(by rw [List.length_set]; exact HKL.out)) := List.getElem?_eq_getElem _
      obtain ⟨⟨s0, s1, s2, s3, s4, s5, s6⟩, f0, f1, f2, f3, f4, f5, f6⟩ := wide_at7 OS1.out HLL
      go_simp
      have KS := KS1.out.trans (sevenM_only (W := W1) (g := g) (m := k0 * 7) x)
      have KT := Lib.hid KS
      obtain ⟨W2, hW2⟩ : ∃ W2, sevenM W1 g (k0 * 7) x = W2 := ⟨_, rfl⟩
      have OS2 := Lib.hid (hW2 ▸ wide_set7 (x := x) OS1.out (by rw [List.length_set]; exact HKL.out))
      have KS2 : Hid (Only (fun i => i = g) w1 W2) := Lib.hid (hW2 ▸ KT.out)
      unfold sevenM at hW2 KS
      refine hK.out _ _ KS (fun hHeld => ?_)
      clear hK K KS KT
      try simp only [Act.put, List.setIfInBounds_toArray, List.set_cons_zero, List.set_cons_succ]
      rw [hW2]
      clear hW2 s0 s1 s2 s3 s4 s5 s6 f0 f1 f2 f3 f4 f5 f6 HLL hHeld
      refine wpAnyH_done (by kernel_rfl) ?_ _
      go_wp2
      go_ret
      exact ⟨rfl, by rw [ET.out]; exact nt_turned HF.out HBX.out AP.out KS2.out OS2.out⟩
    -- region end
  · have TF : T = false := by
      rw [HTB.out]
      cases Bi <;> cases Bk <;> simp_all
    subst TF
    have ET : Hid (turn l i k = l) := Lib.hid (turn_no HT.out)
    clear h hBi hBk hT hl
    cases Bi with
    | false =>
      go_enter Try.func19, Try.ntmps19
      go_wp2_with fail
      refine CI.out.mono ?_
      rintro e w2 ⟨rfl, h2⟩
      obtain rfl : w1 = w2 := h2.symm
      go_wp2
      go_ret
      exact ⟨rfl, by rw [ET.out]; exact PGoes.same HR.out (Only.refl _)⟩
    | true =>
      obtain rfl : Bk = false := by cases Bk <;> simp_all
      go_enter Try.func19, Try.ntmps19
      go_wp2_with fail
      refine CI.out.mono ?_
      rintro e w2 ⟨rfl, h2⟩
      obtain rfl : w1 = w2 := h2.symm
      go_wp2_with fail
      refine CK.out.mono ?_
      rintro e w3 ⟨rfl, h3⟩
      obtain rfl : w1 = w3 := h3.symm
      go_wp2
      go_ret
      exact ⟨rfl, by rw [ET.out]; exact PGoes.same HR.out (Only.refl _)⟩
/-- The program's net: all that it must answer. -/
def ntP : NtP where
  At := NtAt
  loc := fun h hs => NtAt.loc h hs
  lt := fun h => fun hi => NtAt.lt h hi
  new := pn_new
  send := fun m h hl => pn_send _ _ _ m _ h hl
  mail := fun h hl => pn_mail _ _ _ _ h hl
  deliver := fun i _ h hl => pn_deliver _ _ _ i _ h hl
  drop := fun i _ h hl => pn_drop _ _ _ i _ h hl
  double := fun i _ h hl => pn_double _ _ _ i _ h hl
  turn := fun i k _ _ h hl => pn_turn _ _ _ i k _ h hl
  copy := fun h hl => pn_copy _ _ _ _ h hl
end Nt
end Go.Proofs.Ytajphjlfefhajaa
