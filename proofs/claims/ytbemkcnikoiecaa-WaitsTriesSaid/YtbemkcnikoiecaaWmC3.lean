
/- The program's waits: begin, Start, Due. -/
import Derived.Test.YtbemkcnikoiecaaWmC2
set_option linter.unusedVariables false
set_option linter.unusedSimpArgs false
namespace Go.Proofs.Ytbemkcnikoiecaa
open Go.ChangeShapes Go.WideShapes Go.ChangeAt Go.RowKit Csv Ky Km Ob
namespace Wt
/-! ### begin -/
theorem pw_put {W : World} {b m : Nat} {l : List W5} (h : PwAt W b m l) {y : W5} (hc : checkK y.o y.d = true) (hy : Ok y) : ∀ X, Keeps W X →
    ∃ Y, (Instr.mapUpdate tMw (.map (some m)) (kyV y.o y.d) (wtV y)).run Try.prog X = .ok () Y ∧ PwAt Y b m (putL l y) ∧ Only (fun i => i = m) W Y := fun X k => by
  have hX := h.keeps k
  obtain ⟨D, ho, hA⟩ := hX.map
  obtain ⟨i1, i2⟩ := i64_key (check_iff.1 hc)
  have hl := h.inv.len
  obtain ⟨Y, r1, r2, r3⟩ := put_at (wtV y) ho lawKy Try.underlying48 (by unfold maxLen; omega) (kK_is i1 i2)
  have hi : Inv (putL l y) := put_ok h.inv fun _ => hy
  have hne : some b ≠ some m := fun e => hX.ne (Option.some.inj e)
  exact ⟨Y, r1, hX.turn (r3.block b hX.lt.1 hne) r2 (hA.put ho.isMap h.inv.dist hi.dist ⟨i1, i2⟩ fun x => mem_put hc) hi, (Only.of_keeps k).trans (grown_only r3)⟩
set_option maxHeartbeats 4000000 in
set_option maxRecDepth 100000 in
theorem pw_begin {W : World} {b m : Nat} {l : List W5} (h : PwAt W b m l) (o d now t : Int) (t0 : 0 ≤ t) (t5 : t ≤ 5) :
    Calls Try.prog 28 #[.pointer (some ⟨b, 0, none⟩), kyV o d, .int .i64 now, .int .i64 t] W fun e w' => e = .returned (.tuple #[]) ∧ PwAt w' b m (putL l ⟨o, d, t, near now + gapN t, false⟩) ∧ Only (fun i => i = m) W w' := by
  have K1 := Lib.hid (ky_box W (.cells #[.int .i64 o, .int .i64 d] tKy))
  have H1 := Lib.hid (h.keeps K1.out)
  have CN := Lib.hid (pw_none H1.out)
  have CK := Lib.hid (pk_check o d (W.alloc (.cells #[.int .i64 o, .int .i64 d] tKy)))
  have CT := Lib.hid fun X => pw_tick now X
  have CG := Lib.hid fun X => pw_gap t X
  have hnr := near_in now
  have hgp := gap_in t
  have BX : Hid ((W.alloc (.cells #[.int .i64 o, .int .i64 d] tKy)).heap[W.heap.size]? = some (keBox o d)) := Lib.hid (heap_alloc_new W _)
  cases hc : checkK o d with
  | false =>
    have E : Hid (putL l ⟨o, d, t, near now + gapN t, false⟩ = l) := Lib.hid (by unfold putL; rw [if_neg (by show ¬ checkK o d = true; rw [hc]; exact Bool.false_ne_true)])
    rw [E.out]
    rw [hc] at CK
    clear h hc hnr hgp CT CG
    unfold kyV at *
    go_enter Try.func28, Try.ntmps28
    go_wp2_with (first
      | (go_at_call 31; refine CN.out.mono ?_; rintro e w1 ⟨rfl, rfl⟩)
      | (go_at_call 26; refine CK.out.mono ?_; rintro e w2 ⟨rfl, k2⟩; have K2 := Lib.hid k2; clear k2))
    go_wp2
    (try simp only [Exit.inBlock, Exit.then]); refine bodyPost_ret (results_none rfl _ _ _) rfl ?_
    exact ⟨rfl, H1.out.keeps K2.out, Only.of_keeps (K1.out.trans K2.out)⟩
  | true =>
    have hy : Ok ⟨o, d, t, near now + gapN t, false⟩ := ⟨check_iff.1 hc, t0, t5, by show 0 ≤ near now + gapN t; omega, by show near now + gapN t ≤ far + 16; omega⟩
    have PUT := Lib.hid fun X (k : Keeps (W.alloc (.cells #[.int .i64 o, .int .i64 d] tKy)) X) => pw_put H1.out (y := ⟨o, d, t, near now + gapN t, false⟩) hc hy X k
    rw [hc] at CK
    generalize putL l ⟨o, d, t, near now + gapN t, false⟩ = L at PUT ⊢
    have CC := Lib.hid fun X (k : Keeps (W.alloc (.cells #[.int .i64 o, .int .i64 d] tKy)) X) => And.intro (H1.out.keeps k).cell (ke_box_cells (wbox_keep BX.out k))
    unfold far at hnr
    obtain ⟨p, hp⟩ : ∃ p, near now = p := ⟨_, rfl⟩
    obtain ⟨q, hq⟩ : ∃ q, gapN t = q := ⟨_, rfl⟩
    obtain ⟨r, hr⟩ : ∃ r, p + q = r := ⟨_, rfl⟩
    rw [hp] at CT hnr
    rw [hq] at CG hgp
    rw [hp, hq, hr] at PUT
    have wi : IntKind.i64.wrap (p + q) = r := by rw [← hr]; simp [IntKind.wrap, IntKind.bits, IntKind.signed]; omega
    have NM : Hid (¬ W.heap.size = m) := Lib.hid fun e => by have := h.lt.2; omega
    clear h hc hy hp hq hr t0 t5
    unfold kyV wtV at *
    go_enter Try.func28, Try.ntmps28
    go_upto_region 2 with (first
      | (go_at_call 31; refine CN.out.mono ?_; rintro e w1 ⟨rfl, rfl⟩)
      | (go_at_call 26; refine CK.out.mono ?_; rintro e w2 ⟨rfl, k2⟩; have K2 := Lib.hid k2; clear k2))
    obtain ⟨c0, c1, c2⟩ := CC.out _ K2.out
    obtain ⟨Yb, eb, pb, ob⟩ := PUT.out _ (K2.out.trans (ky_drew _))
    have PB := Lib.hid (And.intro pb ob)
    have SB : Hid (Yb.cell? ⟨b, 0, none⟩ = some (.map (some m)) ∧ Yb.cell? ⟨W.heap.size, 0, none⟩ = some (.int .i64 o) ∧ Yb.cell? ⟨W.heap.size, 1, none⟩ = some (.int .i64 d)) := Lib.hid (by
      have hz := (PB.out.2.same W.heap.size (by simp) NM.out).trans BX.out
      obtain ⟨e1, e2⟩ := ke_box_cells hz
      exact ⟨PB.out.1.cell, e1, e2⟩)
    clear pb ob PUT CC CN CK
    go_wp2
    refine wp_region_held_drew (S := fun X => X.cell? ⟨b, 0, none⟩ = some (.map (some m)) ∧ X.cell? ⟨W.heap.size, 0, none⟩ = some (.int .i64 o) ∧ X.cell? ⟨W.heap.size, 1, none⟩ = some (.int .i64 d)) (by kernel_rfl) ⟨c0, c1, c2⟩ (fun hHeld => ?_)
    refine takeH (i := 0) (d := some 15) (v := ?v0) rfl rfl (by kernel_rfl) (by kernel_rfl) (by kernel_rfl) (fun _ _ _ h => h) (Or.inl ⟨by rfl, ?y0⟩) (by assumption) ?r0
    case y0 => (intro W hSw; obtain ⟨c0, c1, c2⟩ := hSw; go_simp; try with_reducible rfl)
    try simp only [Act.put, List.setIfInBounds_toArray, List.set_cons_zero, List.set_cons_succ]
    refine takeH (i := 1) (d := some 16) (v := ?v1) rfl rfl (by kernel_rfl) (by kernel_rfl) (by kernel_rfl) (fun _ _ _ h => h) (Or.inl ⟨by rfl, ?y1⟩) (by assumption) ?r1
    case y1 => (intro W hSw; obtain ⟨c0, c1, c2⟩ := hSw; go_simp; try with_reducible rfl)
    try simp only [Act.put, List.setIfInBounds_toArray, List.set_cons_zero, List.set_cons_succ]
    refine takeH (i := 2) (d := some 17) (v := ?v2) rfl rfl (by kernel_rfl) (by kernel_rfl) (by kernel_rfl) (fun _ _ _ h => h) (Or.inl ⟨by rfl, ?y2⟩) (by assumption) ?r2
    case y2 => (intro W hSw; obtain ⟨c0, c1, c2⟩ := hSw; go_simp; try with_reducible rfl)
    try simp only [Act.put, List.setIfInBounds_toArray, List.set_cons_zero, List.set_cons_succ]
    refine takeH (i := 3) (d := some 18) (v := ?v3) rfl rfl (by kernel_rfl) (by kernel_rfl) (by kernel_rfl) (fun _ _ _ h => h) (Or.inl ⟨by rfl, ?y3⟩) (by assumption) ?r3
    case y3 => (intro W hSw; obtain ⟨c0, c1, c2⟩ := hSw; go_simp; try with_reducible rfl)
    try simp only [Act.put, List.setIfInBounds_toArray, List.set_cons_zero, List.set_cons_succ]
    refine takeH (i := 4) (d := some 19) (v := ?v4) rfl rfl (by kernel_rfl) (by kernel_rfl) (by kernel_rfl) (fun _ _ _ h => h) (Or.inl ⟨by rfl, ?y4⟩) (by assumption) ?r4
    case y4 => (intro W hSw; obtain ⟨c0, c1, c2⟩ := hSw; go_simp; try with_reducible rfl)
    try simp only [Act.put, List.setIfInBounds_toArray, List.set_cons_zero, List.set_cons_succ]
    refine takeH (i := 5) (d := some 20) (v := ?v5) rfl rfl (by kernel_rfl) (by kernel_rfl) (by kernel_rfl) (fun _ _ _ h => h) (Or.inl ⟨by rfl, ?y5⟩) (by assumption) ?r5
    case y5 => (intro W hSw; obtain ⟨c0, c1, c2⟩ := hSw; go_simp; try with_reducible rfl)
    try simp only [Act.put, List.setIfInBounds_toArray, List.set_cons_zero, List.set_cons_succ]
    refine takeH (i := 6) (d := some 21) (v := ?v6) rfl rfl (by kernel_rfl) (by kernel_rfl) (by kernel_rfl) (fun _ _ _ h => h) (Or.inl ⟨by rfl, ?y6⟩) (by assumption) ?r6
    case y6 => (intro W hSw; obtain ⟨c0, c1, c2⟩ := hSw; go_simp; try with_reducible rfl)
    try simp only [Act.put, List.setIfInBounds_toArray, List.set_cons_zero, List.set_cons_succ]
    refine takeH (i := 7) (d := some 22) (v := ?v7) rfl rfl (by kernel_rfl) (by kernel_rfl) (by kernel_rfl) (fun _ _ _ h => h) (Or.inl ⟨by rfl, ?y7⟩) (by assumption) ?r7
    case y7 => (intro W hSw; obtain ⟨c0, c1, c2⟩ := hSw; go_simp; try with_reducible rfl)
    try simp only [Act.put, List.setIfInBounds_toArray, List.set_cons_zero, List.set_cons_succ]
    refine takeH (i := 9) (d := some 24) (v := ?v9) rfl rfl (by kernel_rfl) (by kernel_rfl) (by kernel_rfl) (fun _ _ _ h => h) (Or.inl ⟨by rfl, ?y9⟩) (by assumption) ?r9
    case y9 => (intro W hSw; obtain ⟨c0, c1, c2⟩ := hSw; go_simp; try with_reducible rfl)
    try simp only [Act.put, List.setIfInBounds_toArray, List.set_cons_zero, List.set_cons_succ]
    refine wpAnyH_ready (rs := [8]) (by kernel_rfl) (by simp) ?_
    refine AllReadyH.cons rfl (fun K hK => ?_) AllReadyH.nil
    go_simp
    refine (CT.out w2.drew).mono ?_
    rintro e wv ⟨rfl, rfl⟩
    refine hK.out _ _ hHeld (fun hHeld => ?_)
    clear hK K
    try simp only [Act.put, List.setIfInBounds_toArray, List.set_cons_zero, List.set_cons_succ]
    refine wpAnyH_ready (rs := [10]) (by kernel_rfl) (by simp) ?_
    refine AllReadyH.cons rfl (fun K hK => ?_) AllReadyH.nil
    go_simp
    refine (CG.out w2.drew).mono ?_
    rintro e wv ⟨rfl, rfl⟩
    refine hK.out _ _ hHeld (fun hHeld => ?_)
    clear hK K
    try simp only [Act.put, List.setIfInBounds_toArray, List.set_cons_zero, List.set_cons_succ]
    refine takeH (i := 11) (d := some 26) (v := ?v11) rfl rfl (by kernel_rfl) (by kernel_rfl) (by kernel_rfl) (fun _ _ _ h => h) (Or.inl ⟨by rfl, ?y11⟩) (by assumption) ?r11
    case y11 => (intro W hSw; obtain ⟨c0, c1, c2⟩ := hSw; go_simp; try with_reducible rfl)
    try simp only [Act.put, List.setIfInBounds_toArray, List.set_cons_zero, List.set_cons_succ]
    refine takeH (i := 12) (d := some 27) (v := ?v12) rfl rfl (by kernel_rfl) (by kernel_rfl) (by kernel_rfl) (fun _ _ _ h => h) (Or.inl ⟨by rfl, ?y12⟩) (by assumption) ?r12
    case y12 => (intro W hSw; obtain ⟨c0, c1, c2⟩ := hSw; go_simp; try with_reducible rfl)
    try simp only [Act.put, List.setIfInBounds_toArray, List.set_cons_zero, List.set_cons_succ]
    refine wpAnyH_ready (rs := [13]) (by kernel_rfl) (by simp) ?_
    refine AllReadyH.cons rfl (fun K hK => ?_) AllReadyH.nil
    go_simp
    refine hK.out _ _ SB.out (fun hHeld => ?_)
    clear hK K
    try simp only [Act.put, List.setIfInBounds_toArray, List.set_cons_zero, List.set_cons_succ]
    refine wpAnyH_done (by kernel_rfl) ?_ _
    clear eb
    go_wp2
    go_end0
    exact ⟨rfl, PB.out.1, (Only.of_keeps K1.out).trans PB.out.2⟩
/-! ### Start, Due -/
theorem pw_start {W : World} {b m : Nat} {l : List W5} (h : PwAt W b m l) (o d now : Int) :
    Calls Try.prog 21 #[.pointer (some ⟨b, 0, none⟩), kyV o d, .int .i64 now] W fun e w' => e = .returned (.tuple #[]) ∧ PwAt w' b m (startL l o d now) ∧ Only (fun i => i = m) W w' := by
  have K1 := Lib.hid (ky_box W (.cells #[.int .i64 o, .int .i64 d] tKy))
  have CB := Lib.hid (pw_begin (h.keeps K1.out) o d now 1 (by omega) (by omega))
  have E : Hid (putL l ⟨o, d, 1, near now + gapN 1, false⟩ = startL l o d now) := Lib.hid rfl
  rw [E.out] at CB
  generalize startL l o d now = L at *
  clear h E
  unfold kyV at *
  go_enter Try.func21, Try.ntmps21
  go_wp2_with fail
  refine CB.out.mono ?_
  rintro e w1 ⟨rfl, h1, h2⟩
  have H1 := Lib.hid h1
  have H2 := Lib.hid h2
  clear h1 h2
  go_wp2
  go_end0
  exact ⟨rfl, H1.out, (Only.of_keeps K1.out).trans H2.out⟩
theorem pw_due {W : World} {b m : Nat} {l : List W5} (h : PwAt W b m l) (o d now : Int) :
    Calls Try.prog 10 #[.pointer (some ⟨b, 0, none⟩), kyV o d, .int .i64 now] W fun e w' => e = .returned (.tuple #[]) ∧ PwAt w' b m (dueL l o d now) ∧ Only (fun i => i = m) W w' := by
  have K1 := Lib.hid (ky_box W (.cells #[.int .i64 o, .int .i64 d] tKy))
  have CB := Lib.hid (pw_begin (h.keeps K1.out) o d now 0 (by omega) (by omega))
  have E : Hid (putL l ⟨o, d, 0, near now + gapN 0, false⟩ = dueL l o d now) := Lib.hid (by unfold dueL; rw [show near now + gapN 0 = near now from Int.add_zero _])
  rw [E.out] at CB
  generalize dueL l o d now = L at *
  clear h E
  unfold kyV at *
  go_enter Try.func10, Try.ntmps10
  go_wp2_with fail
  refine CB.out.mono ?_
  rintro e w1 ⟨rfl, h1, h2⟩
  have H1 := Lib.hid h1
  have H2 := Lib.hid h2
  clear h1 h2
  go_wp2
  go_end0
  exact ⟨rfl, H1.out, (Only.of_keeps K1.out).trans H2.out⟩
/-! ### Stop -/
set_option maxRecDepth 100000 in
theorem pw_del {W : World} {b m : Nat} {l : List W5} (h : PwAt W b m l) {o d : Int} (io : I64 o) (id : I64 d) : ∀ X, Keeps W X →
    ∃ Y, (Builtin.delete_ #[tMw, tKy] 0 #[.map (some m), kyV o d]).run Try.prog X = .ok (.tuple #[]) Y ∧ PwAt Y b m (stopL l o d) ∧ Only (fun i => i = m) W Y := fun X k => by
  have hX := h.keeps k
  obtain ⟨D, ho, hA⟩ := hX.map
  obtain ⟨Y, r1, r2, r3⟩ := ho.drop lawKy Try.underlying48 (kK_is io id) 0
  have hne : some b ≠ some m := fun e => hX.ne (Option.some.inj e)
  exact ⟨Y, r1, hX.turn (r3.grown.block b hX.lt.1 hne) r2 (hA.del h.inv.dist io id) (stop_ok h.inv o d), (Only.of_keeps k).trans (grown_only r3.grown)⟩
set_option maxHeartbeats 4000000 in
set_option maxRecDepth 100000 in
theorem pw_stop {W : World} {b m : Nat} {l : List W5} (h : PwAt W b m l) (o d : Int) (io : I64 o) (id : I64 d) :
    Calls Try.prog 12 #[.pointer (some ⟨b, 0, none⟩), kyV o d] W fun e w' => e = .returned (.tuple #[]) ∧ PwAt w' b m (stopL l o d) ∧ Only (fun i => i = m) W w' := by
  have K1 := Lib.hid (ky_box W (.cells #[.int .i64 o, .int .i64 d] tKy))
  have H1 := Lib.hid (h.keeps K1.out)
  have CN := Lib.hid (pw_none H1.out)
  have BX : Hid ((W.alloc (.cells #[.int .i64 o, .int .i64 d] tKy)).heap[W.heap.size]? = some (keBox o d)) := Lib.hid (heap_alloc_new W _)
  obtain ⟨c1, c2⟩ := ke_box_cells BX.out
  have c0 := H1.out.cell
  obtain ⟨Ya, ea, pa, oa⟩ := pw_del H1.out io id _ (Keeps.refl _)
  obtain ⟨Yb, eb, pb, ob⟩ := pw_del H1.out io id _ (ky_drew _)
  have PA := Lib.hid (And.intro pa oa)
  have PB := Lib.hid (And.intro pb ob)
  generalize stopL l o d = L at *
  clear pa pb oa ob h
  unfold kyV at *
  go_enter Try.func12, Try.ntmps12
  go_upto_region 2 with (go_at_call 31; refine CN.out.mono ?_; rintro e w1 ⟨rfl, rfl⟩)
  go_region
  all_goals clear ea eb
  all_goals go_wp2
  all_goals go_end0
  all_goals first
    | exact ⟨rfl, PB.out.1, (Only.of_keeps K1.out).trans PB.out.2⟩
    | exact ⟨rfl, PA.out.1.drew, (Only.of_keeps K1.out).trans (only_drew PA.out.2)⟩
end Wt
end Go.Proofs.Ytbemkcnikoiecaa
