/- The program's net: Deliver, Drop, Double. -/
import Derived.Test.YtajphjlfefhajaaNtC2
set_option linter.unusedVariables false
set_option linter.unusedSimpArgs false
namespace Go.Proofs.Ytajphjlfefhajaa
open Go.ChangeShapes Go.WideShapes Go.ChangeAt Go.RowKit Csv Ky
namespace Nt
/-- A message of such a row, its cells, as a load and a store want them. -/
theorem wide_at7 {W : World} {g N c i : Nat} {L : List Mg} {x : Mg} (h : mgK.Wide W (.slice (some ⟨g, 0, none⟩) N c) L) (hx : L[i]? = some x) :
    (W.cell? ⟨g, i * 7, none⟩ = some (.int .i64 x.t) ∧ W.cell? ⟨g, i * 7 + 1, none⟩ = some (.int .i64 x.o) ∧ W.cell? ⟨g, i * 7 + 2, none⟩ = some (.int .i64 x.k) ∧ W.cell? ⟨g, i * 7 + 3, none⟩ = some (.string x.s) ∧ W.cell? ⟨g, i * 7 + 4, none⟩ = some (.int .i64 x.q) ∧ W.cell? ⟨g, i * 7 + 5, none⟩ = some (.int .i64 x.a) ∧ W.cell? ⟨g, i * 7 + 6, none⟩ = some (.int .i64 x.c)) ∧
    (W.frozen? ⟨g, i * 7, none⟩ = false ∧ W.frozen? ⟨g, i * 7 + 1, none⟩ = false ∧ W.frozen? ⟨g, i * 7 + 2, none⟩ = false ∧ W.frozen? ⟨g, i * 7 + 3, none⟩ = false ∧ W.frozen? ⟨g, i * 7 + 4, none⟩ = false ∧ W.frozen? ⟨g, i * 7 + 5, none⟩ = false ∧ W.frozen? ⟨g, i * 7 + 6, none⟩ = false) := by
  obtain ⟨p', c', e⟩ := mgK.wide_shape h
  simp only [Value.slice.injEq] at e
  obtain ⟨_, rfl, _⟩ := e
  have c : ∀ t u, (mgVals x)[t]? = some u → W.cell? ⟨g, i * 7 + t, none⟩ = some u := fun t u hu => mgK.wide_at h hx hu
  obtain ⟨cs, hb⟩ := mgK.wide_tag h (g := g) rfl
  exact ⟨⟨c 0 _ rfl, c 1 _ rfl, c 2 _ rfl, c 3 _ rfl, c 4 _ rfl, c 5 _ rfl, c 6 _ rfl⟩, Joins.unfrozen_of_block hb _, Joins.unfrozen_of_block hb _, Joins.unfrozen_of_block hb _, Joins.unfrozen_of_block hb _, Joins.unfrozen_of_block hb _, Joins.unfrozen_of_block hb _, Joins.unfrozen_of_block hb _⟩
/-- A block besides, written. -/
theorem PGoes.told {W X Y Z : World} {b R : Nat} {F : Nat → Prop} {l : List Mg} (h : PGoes NtAt X Y b F l) (k : Keeps W X) (hF : ∀ i, F i → i < W.heap.size) (g : Only (fun i => i = R) Y Z) (h1 : W.heap.size ≤ R) (h2 : R < X.heap.size) : PGoes NtAt W Z b F l := by
  obtain ⟨⟨F', r1, r2⟩, h3⟩ := h
  refine ⟨⟨F', r1.loc fun j hj => g.same j (r1.lt hj) (fun e => ?_), fun j hj => (r2 j hj).imp id (Nat.le_trans k.size)⟩, Only.new ((Only.of_keeps k).trans h3) g h1⟩
  rcases r2 j hj with q | q
  · have := hF j q; omega
  · omega
theorem out_nums {i0 k1 nG c : Nat} (h : i0 + 1 = k1) (hi : i0 < nG) (hn : nG ≤ 1000) (hc : nG ≤ c) (hx : c ≤ maxLen) :
    IntKind.i64.wrap ((i0 : Int) + 1) = (k1 : Int) ∧ wrap64 ((i0 : Int) + 1) = (k1 : Int) ∧ i0 ≤ c ∧ k1 ≤ nG ∧ k1 ≤ c ∧ (i0 : Int) < (nG : Int) ∧ (0 : Int) ≤ (i0 : Int) := by
  have e : IntKind.i64.wrap ((i0 : Int) + 1) = (k1 : Int) := by
    rw [IntWalk.i64_in _ ⟨by omega, by omega⟩]; omega
  exact ⟨e, (i64w (by unfold top; omega) (by unfold top; omega)).trans (by omega), by omega, by omega, by omega, by omega, by omega⟩
set_option maxHeartbeats 16000000 in
set_option maxRecDepth 100000 in
theorem pn_deliver (b : Nat) (F : Nat → Prop) (l : List Mg) (i : Int) (W : World) (h : NtAt W b F l) (hl : l.length ≤ 1000) :
    Calls Try.prog 15 #[.pointer (some ⟨b, 0, none⟩), .int .i64 i] W fun e w' => e = .returned (.tuple #[delV (gone l i), .bool (isB l i)]) ∧ PGoes NtAt W w' b F (del l i) := by
  obtain ⟨w1, hw1⟩ : ∃ w1, W.alloc zeBox = w1 := ⟨_, rfl⟩
  have K1 : Hid (Keeps W w1) := Lib.hid (hw1 ▸ nbox _ _)
  have B1 : Hid (w1.heap[W.heap.size]? = some zeBox) := Lib.hid (hw1 ▸ heap_alloc_new _ _)
  have H0 := Lib.hid h
  have H1 := Lib.hid (h.keeps K1.out)
  have HLT : Hid (∀ i, F i → i < W.heap.size) := Lib.hid fun i hi => H0.out.lt hi
  have CH := Lib.hid (pn_has b F l i w1 H1.out)
  obtain ⟨v, h1, h2, h3⟩ := h.keeps K1.out
  obtain ⟨p, c, rfl⟩ := mgK.wide_shape h2
  obtain ⟨nG, hnG⟩ : ∃ n, l.length = n := ⟨_, rfl⟩
  have HN := Lib.hid hnG
  have HF := Lib.hid h3
  have HBX := Lib.hid h1
  have WD := Lib.hid h2
  have AP := Lib.hid (nt_apart h1 h2)
  have EW1 := Lib.hid hw1
  have n1000 : nG ≤ 1000 := by omega
  obtain ⟨B, hB⟩ : ∃ B, isB l i = B := ⟨_, rfl⟩
  have HIS := Lib.hid hB
  rw [hB] at CH ⊢
  clear h h1 h2 h3 hnG hw1 hB hl
  unfold zeBox at EW1
  obtain ⟨⟨v0, v1, v2, v3, v4, v5, v6⟩, f0, f1, f2, f3, f4, f5, f6⟩ := ze_box_cells B1.out
  cases B with
  | false =>
    have E1 : Hid (gone l i = none) := Lib.hid (gone_none HIS.out)
    have E2 : Hid (del l i = l) := Lib.hid (del_no HIS.out)
    go_enter Try.func15, Try.ntmps15
    go_upto_region 1 with (fail)
    rw [EW1.out]
    clear EW1
    go_wp2_with fail
    refine CH.out.mono ?_
    rintro e w2 ⟨rfl, h2⟩
    obtain rfl : w1 = w2 := h2.symm
    go_wp2
    refine bodyPost_ret (v := .tuple #[.agg #[.int .i64 0, .int .i64 0, .int .i64 0, .string ⟨#[]⟩, .int .i64 0, .int .i64 0, .int .i64 0], .bool false]) (by simp [results, Try.results15, go_sem, v0, v1, v2, v3, v4, v5, v6]) rfl ?_
    rw [E1.out, E2.out]
    have g := Only.keeps (seven_only w1 W.heap.size (.int .i64 0) (.int .i64 0) (.int .i64 0) (.string ⟨#[]⟩) (.int .i64 0) (.int .i64 0) (.int .i64 0)) K1.out (fun j hj => by omega)
    exact ⟨rfl, PGoes.same (H0.out.keeps g) (Only.of_keeps g)⟩
  | true =>
    obtain ⟨hi0, hi1⟩ := is_iff.1 HIS.out
    obtain ⟨i0, hi⟩ : ∃ i0 : Nat, i = (i0 : Int) := ⟨i.toNat, by omega⟩
    subst hi
    obtain ⟨x, hx, hg⟩ := gone_some HIS.out
    have hxx : l[i0]? = some x := by simpa using hx
    have E1 := Lib.hid hg
    have ED : Hid (l.take i0 ++ l.drop (i0 + 1) = del l (i0 : Int)) := Lib.hid (by have := del_yes HIS.out; simpa using this.symm)
    have hilt : i0 < nG := by rw [HN.out] at hi1; omega
    obtain ⟨g, rfl⟩ : ∃ g, p = some ⟨g, 0, none⟩ := by
      rcases WD.out with ⟨_, e⟩ | ⟨g, cap, cur, e, _⟩
      · subst e; simp at hxx
      · simp only [Value.slice.injEq] at e
        exact ⟨g, e.1⟩
    have hcc : nG ≤ c ∧ c ≤ maxLen := by
      rcases WD.out with ⟨e, _⟩ | ⟨g', cap, cur, e, _, r1, r2, _⟩
      · cases e
      · simp only [Value.slice.injEq] at e
        obtain ⟨_, _, rfl⟩ := e
        rw [HN.out] at r1
        exact ⟨r1, r2⟩
    have WF1 := mgK.wide_front WD.out (i := i0) (by rw [HN.out]; exact Nat.le_of_lt hilt)
    have WB1 := fun c2 => mgK.wide_back WD.out (m := i0 + 1) c2
    obtain ⟨⟨q0, q1, q2, q3, q4, q5, q6⟩, _⟩ := wide_at7 WD.out hxx
    obtain ⟨y0, y1, z0, z1⟩ := two_at HBX.out
    rw [HN.out] at y1
    obtain ⟨k1, hk1⟩ : ∃ k1, i0 + 1 = k1 := ⟨_, rfl⟩
    obtain ⟨u1, u2, u3, u4, u5, u6, u7⟩ := out_nums hk1 hilt n1000 hcc.1 hcc.2
    have U1 := Lib.hid u1
    have U2 := Lib.hid u2
    have HI1 := Lib.hid hilt
    have HK1 := Lib.hid hk1
    have HC := Lib.hid hcc
    clear hx hg hxx u1 u2 hcc hilt hk1 hi0 hi1
    go_enter Try.func15, Try.ntmps15
    go_upto_region 1 with (fail)
    rw [EW1.out]
    clear EW1
    go_wp2_with fail
    refine CH.out.mono ?_
    rintro e w2 ⟨rfl, h2⟩
    obtain rfl : w1 = w2 := h2.symm
    go_upto_region 4 with (fail)
    obtain ⟨w2, hw2⟩ : ∃ w2, (((((((w1.setCell ⟨W.heap.size, 0, none⟩ (.int .i64 x.t)).setCell ⟨W.heap.size, 1, none⟩ (.int .i64 x.o)).setCell ⟨W.heap.size, 2, none⟩ (.int .i64 x.k)).setCell ⟨W.heap.size, 3, none⟩ (.string x.s)).setCell ⟨W.heap.size, 4, none⟩ (.int .i64 x.q)).setCell ⟨W.heap.size, 5, none⟩ (.int .i64 x.a)).setCell ⟨W.heap.size, 6, none⟩ (.int .i64 x.c)) = w2 := ⟨_, rfl⟩
    rw [hw2]
    have B2 : Hid (w2.heap[W.heap.size]? = some (mgBox x)) := Lib.hid (hw2 ▸ seven_put (x := zeM) B1.out x)
    have O2 : Hid (Only (fun i => i = W.heap.size) w1 w2) := Lib.hid (hw2 ▸ seven_only w1 W.heap.size (.int .i64 x.t) (.int .i64 x.o) (.int .i64 x.k) (.string x.s) (.int .i64 x.q) (.int .i64 x.a) (.int .i64 x.c))
    have K2 : Hid (Keeps W w2) := Lib.hid (O2.out.keeps K1.out (fun j hj => by omega))
    have HS2 : Hid (∀ i, F i → w2.heap[i]? = w1.heap[i]?) := Lib.hid fun i hi => O2.out.same i (Nat.lt_of_lt_of_le (HLT.out i hi) K1.out.size) (fun e => by have := HLT.out i hi; omega)
    have BX2 : Hid (w2.heap[b]? = some (.cells #[.bool true, .slice (some ⟨g, 0, none⟩) l.length c] tNt (0, 0))) := Lib.hid ((HS2.out b ((HF.out b).2 (Or.inl rfl))).trans HBX.out)
    have HB : Hid (∀ X, Keeps w2 X → X.cell? ⟨b, 1, none⟩ = some (.slice (some ⟨g, 0, none⟩) nG c) ∧ X.frozen? ⟨b, 1, none⟩ = false) := Lib.hid fun X k => by
      have h := two_at (box_keep BX2.out k)
      rw [HN.out] at h
      exact ⟨h.2.1, h.2.2.2⟩
    have WF2 : Hid (mgK.Wide w2 (.slice (some ⟨g, 0, none⟩) i0 i0) (l.take i0)) := Lib.hid (mgK.wide_local WF1 fun j hj => HS2.out j ((HF.out j).2 (Or.inr hj)))
    have WD2 : Hid (mgK.Wide w2 (.slice (some ⟨g, 0, none⟩) l.length c) l) := Lib.hid (mgK.wide_local WD.out fun j hj => HS2.out j ((HF.out j).2 (Or.inr hj)))
    have N2 : Hid ((l.take i0).length + (l.drop k1).length = nG - 1) := Lib.hid (by rw [List.length_take, List.length_drop, HN.out]; have := HI1.out; have := HK1.out; omega)
    have L2 : Hid ((l.take i0).length + (l.drop k1).length ≤ 100000) := Lib.hid (by rw [N2.out]; omega)
    have HR : Hid (¬ F W.heap.size) := Lib.hid fun hf => by have := HLT.out _ hf; omega
    have TOLD : Hid (∀ Y, PGoes NtAt w2 Y b F (l.take i0 ++ l.drop k1) → ∀ Z, Only (fun i => i = W.heap.size) Y Z → PGoes NtAt W Z b F (del l (i0 : Int))) := Lib.hid fun Y hY Z hZ => by
      have := hY.told K2.out HLT.out hZ (Nat.le_refl _) (box_lt B2.out)
      rw [← HK1.out, ED.out] at this
      exact this
    have bl2 : b < w2.heap.size := box_lt BX2.out
    clear hw2 q0 q1 q2 q3 q4 q5 q6 y0 y1 z0 z1 v0 v1 v2 v3 v4 v5 v6 f0 f1 f2 f3 f4 f5 f6 WF1 WB1 CH
    by_cases hck : c = k1
    · subst hck
      obtain rfl : nG = c := by have := HC.out.1; omega
      have hlow := Nat.le_refl nG
      have SB : Hid (mgK.Src w2 (.slice (some ⟨g, 0, none⟩) 0 0) (l.drop nG)) := Lib.hid (by
        rw [List.drop_of_length_le (by rw [HN.out]; exact Nat.le_refl _)]
        exact mgK.src_none _ (some ⟨g, 0, none⟩) 0 (fun e => by cases e) rfl)
      have wr1 := U1.out
      have wr2 := U2.out
      -- region
      refine wp_region_held_drew (S := fun W => Only F w2 W) (by kernel_rfl) (Only.of_keeps (ndrew _)) (fun hHeld => ?_)
      refine takeH (i := 0) (d := some 18) (v := ?va0) rfl rfl (by kernel_rfl) (by kernel_rfl) (by kernel_rfl) (fun _ _ _ h => h) (Or.inl ⟨by rfl, ?ya0⟩) (by assumption) ?ra0
      case ya0 => (intro W hSw; go_simp; try with_reducible rfl)
      try simp only [Act.put, List.setIfInBounds_toArray, List.set_cons_zero, List.set_cons_succ]
      refine takeH (i := 1) (d := some 19) (v := ?va1) rfl rfl (by kernel_rfl) (by kernel_rfl) (by kernel_rfl) (fun _ _ _ h => h) (Or.inl ⟨by rfl, ?ya1⟩) (by assumption) ?ra1
      case ya1 => (intro W hSw; go_simp; try with_reducible rfl)
      try simp only [Act.put, List.setIfInBounds_toArray, List.set_cons_zero, List.set_cons_succ]
      refine takeH (i := 2) (d := some 20) (v := ?va2) rfl rfl (by kernel_rfl) (by kernel_rfl) (by kernel_rfl) (fun _ _ _ h => h) (Or.inl ⟨by rfl, ?ya2⟩) (by assumption) ?ra2
      case ya2 => (intro W hSw; go_simp; try with_reducible rfl)
      try simp only [Act.put, List.setIfInBounds_toArray, List.set_cons_zero, List.set_cons_succ]
      refine takeH (i := 3) (d := some 21) (v := ?va3) rfl rfl (by kernel_rfl) (by kernel_rfl) (by kernel_rfl) (fun _ _ _ h => h) (Or.inl ⟨by rfl, ?ya3⟩) (by assumption) ?ra3
      case ya3 => (intro W hSw; go_simp; try with_reducible rfl)
      try simp only [Act.put, List.setIfInBounds_toArray, List.set_cons_zero, List.set_cons_succ]
      refine takeH (i := 5) (d := some 23) (v := ?va5) rfl rfl (by kernel_rfl) (by kernel_rfl) (by kernel_rfl) (fun _ _ _ h => h) (Or.inl ⟨by rfl, ?ya5⟩) (by assumption) ?ra5
      case ya5 => (intro W hSw; go_simp; try with_reducible rfl)
      try simp only [Act.put, List.setIfInBounds_toArray, List.set_cons_zero, List.set_cons_succ]
      refine takeH (i := 6) (d := some 24) (v := ?va6) rfl rfl (by kernel_rfl) (by kernel_rfl) (by kernel_rfl) (fun _ _ _ h => h) (Or.inl ⟨by rfl, ?ya6⟩) (by assumption) ?ra6
      case ya6 => (intro W hSw; go_simp; try with_reducible rfl)
      try simp only [Act.put, List.setIfInBounds_toArray, List.set_cons_zero, List.set_cons_succ]
      refine takeH (i := 8) (d := some 26) (v := ?va8) rfl rfl (by kernel_rfl) (by kernel_rfl) (by kernel_rfl) (fun _ _ _ h => h) (Or.inl ⟨by rfl, ?ya8⟩) (by assumption) ?ra8
      case ya8 => (intro W hSw; go_simp; try with_reducible rfl)
      try simp only [Act.put, List.setIfInBounds_toArray, List.set_cons_zero, List.set_cons_succ]
      refine takeH (i := 9) (d := some 27) (v := ?va9) rfl rfl (by kernel_rfl) (by kernel_rfl) (by kernel_rfl) (fun _ _ _ h => h) (Or.inl ⟨by rfl, ?ya9⟩) (by assumption) ?ra9
      case ya9 => (intro W hSw; go_simp; try with_reducible rfl)
      try simp only [Act.put, List.setIfInBounds_toArray, List.set_cons_zero, List.set_cons_succ]
      refine takeH (i := 10) (d := some 28) (v := ?va10) rfl rfl (by kernel_rfl) (by kernel_rfl) (by kernel_rfl) (fun _ _ _ h => h) (Or.inl ⟨by rfl, ?ya10⟩) (by assumption) ?ra10
      case ya10 => (intro W hSw; go_simp; try with_reducible rfl)
      try simp only [Act.put, List.setIfInBounds_toArray, List.set_cons_zero, List.set_cons_succ]
      refine takeH (i := 12) (d := some 30) (v := ?va12) rfl rfl (by kernel_rfl) (by kernel_rfl) (by kernel_rfl) (fun _ _ _ h => h) (Or.inl ⟨by rfl, ?ya12⟩) (by assumption) ?ra12
      case ya12 => (intro W hSw; go_simp; try with_reducible rfl)
      try simp only [Act.put, List.setIfInBounds_toArray, List.set_cons_zero, List.set_cons_succ]
      refine takeH (i := 13) (d := some 31) (v := ?va13) rfl rfl (by kernel_rfl) (by kernel_rfl) (by kernel_rfl) (fun _ _ _ h => h) (Or.inl ⟨by rfl, ?ya13⟩) (by assumption) ?ra13
      case ya13 => (intro W hSw; go_simp; try with_reducible rfl)
      try simp only [Act.put, List.setIfInBounds_toArray, List.set_cons_zero, List.set_cons_succ]
      refine wpAnyH_ready (rs := [4, 11]) (by kernel_rfl) (by simp) ?_
      refine AllReadyH.cons rfl (fun K hK => ?_) (AllReadyH.cons rfl (fun K hK => ?_) AllReadyH.nil)
      · obtain ⟨y4, f4⟩ := HB.out _ (Keeps.refl _)
        go_simp
        refine hK.out _ _ (Only.of_keeps (ndrew w2)) (fun hHeld => ?_)
        clear hK K
        try simp only [Act.put, List.setIfInBounds_toArray, List.set_cons_zero, List.set_cons_succ]
        clear y4 f4
        refine takeH (i := 7) (d := some 25) (v := ?vb7) rfl rfl (by kernel_rfl) (by kernel_rfl) (by kernel_rfl) (fun _ _ _ h => h) (Or.inl ⟨by rfl, ?yb7⟩) (by assumption) ?rb7
        case yb7 => (intro W hSw; go_simp; try with_reducible rfl)
        try simp only [Act.put, List.setIfInBounds_toArray, List.set_cons_zero, List.set_cons_succ]
        refine wpAnyH_ready (rs := [11]) (by kernel_rfl) (by simp) ?_
        refine AllReadyH.cons rfl (fun K hK => ?_) AllReadyH.nil
        obtain ⟨y4, f4⟩ := HB.out _ (Keeps.refl _)
        go_simp
        refine hK.out _ _ (Only.of_keeps (ndrew w2)) (fun hHeld => ?_)
        clear hK K
        try simp only [Act.put, List.setIfInBounds_toArray, List.set_cons_zero, List.set_cons_succ]
        clear y4 f4
        refine takeH (i := 14) (d := some 32) (v := ?vb14) rfl rfl (by kernel_rfl) (by kernel_rfl) (by kernel_rfl) (fun _ _ _ h => h) (Or.inl ⟨by rfl, ?yb14⟩) (by assumption) ?rb14
        case yb14 => (intro W hSw; go_simp; try with_reducible rfl)
        try simp only [Act.put, List.setIfInBounds_toArray, List.set_cons_zero, List.set_cons_succ]
        refine wpAnyH_ready (rs := [15]) (by kernel_rfl) (by simp) ?_
        refine AllReadyH.cons rfl (fun K hK => ?_) AllReadyH.nil
        refine stepAppWideK mgK rfl _ _ rfl rfl (.slice (some ⟨g, 0, none⟩) i0 i0) _ (l.take i0) (l.drop nG) (nG - 1) N2.out rfl rfl (mgK.wide_keeps WF2.out (ndrew w2)) (RowK.Src.keeps mgK SB.out (ndrew w2)) L2.out ?_
        intro p6 c6 W6 o6 g6 a6
        have G6 := nt_grown HF.out (ndrew w2) g6
        refine hK.out _ _ (G6) (fun hHeld => ?_)
        clear hK K
        try simp only [Act.put, List.setIfInBounds_toArray, List.set_cons_zero, List.set_cons_succ]
        refine takeH (i := 16) (d := some 34) (v := ?vd16) rfl rfl (by kernel_rfl) (by kernel_rfl) (by kernel_rfl) (fun _ _ _ h => h) (Or.inl ⟨by rfl, ?yd16⟩) (by assumption) ?rd16
        case yd16 => (intro W hSw; go_simp; try with_reducible rfl)
        try simp only [Act.put, List.setIfInBounds_toArray, List.set_cons_zero, List.set_cons_succ]
        refine takeH (i := 17) (d := some 35) (v := ?vd17) rfl rfl (by kernel_rfl) (by kernel_rfl) (by kernel_rfl) (fun _ _ _ h => h) (Or.inl ⟨by rfl, ?yd17⟩) (by assumption) ?rd17
        case yd17 => (intro W hSw; go_simp; try with_reducible rfl)
        try simp only [Act.put, List.setIfInBounds_toArray, List.set_cons_zero, List.set_cons_succ]
        refine wpAnyH_ready (rs := [18]) (by kernel_rfl) (by simp) ?_
        refine AllReadyH.cons rfl (fun K hK => ?_) AllReadyH.nil
        obtain ⟨y6, f6⟩ := nt_cell2 BX2.out HF.out AP.out G6 g6 (ndrew w2)
        go_simp
        refine hK.out _ _ (G6.trans ((Only.cell _).mono fun i hi => (HF.out i).2 (Or.inl hi))) (fun hHeld => ?_)
        clear hK K
        try simp only [Act.put, List.setIfInBounds_toArray, List.set_cons_zero, List.set_cons_succ]
        refine wpAnyH_done (by kernel_rfl) ?_ _
        have PS := Lib.hid (nt_sent HF.out BX2.out AP.out (ndrew w2) g6 o6 a6)
        have B9 : Hid ((W6.setCell ⟨b, 1, none⟩ (.slice p6 (nG - 1) c6)).heap[W.heap.size]? = some (mgBox x)) := Lib.hid (((G6.trans ((Only.cell _).mono fun i hi => (HF.out i).2 (Or.inl hi))).same _ (box_lt B2.out) HR.out).trans B2.out)
        clear y6 f6 G6 g6 o6 a6 hHeld
        obtain ⟨w9, hw9⟩ : ∃ w9, W6.setCell ⟨b, 1, none⟩ (.slice p6 (nG - 1) c6) = w9 := ⟨_, rfl⟩
        rw [hw9] at PS B9 ⊢
        clear hw9
        obtain ⟨⟨x0, x1, x2, x3, x4, x5, x6⟩, g0, g1, g2, g3, g4, g5, g6⟩ := mg_box_cells B9.out
        go_wp2
        refine bodyPost_ret (v := .tuple #[mgV x, .bool true]) (by simp [results, Try.results15, go_sem, x0, x1, x2, x3, x4, x5, x6, g0, g1, g2, g3, g4, g5, g6, mgV]) rfl ?_
        rw [E1.out]
        exact ⟨rfl, TOLD.out _ PS.out _ (seven_only w9 W.heap.size (.int .i64 x.t) (.int .i64 x.o) (.int .i64 x.k) (.string x.s) (.int .i64 x.q) (.int .i64 x.a) (.int .i64 x.c))⟩
      · obtain ⟨y4, f4⟩ := HB.out _ (Keeps.refl _)
        go_simp
        refine hK.out _ _ (Only.of_keeps (ndrew w2)) (fun hHeld => ?_)
        clear hK K
        try simp only [Act.put, List.setIfInBounds_toArray, List.set_cons_zero, List.set_cons_succ]
        clear y4 f4
        refine takeH (i := 14) (d := some 32) (v := ?vc14) rfl rfl (by kernel_rfl) (by kernel_rfl) (by kernel_rfl) (fun _ _ _ h => h) (Or.inl ⟨by rfl, ?yc14⟩) (by assumption) ?rc14
        case yc14 => (intro W hSw; go_simp; try with_reducible rfl)
        try simp only [Act.put, List.setIfInBounds_toArray, List.set_cons_zero, List.set_cons_succ]
        refine wpAnyH_ready (rs := [4]) (by kernel_rfl) (by simp) ?_
        refine AllReadyH.cons rfl (fun K hK => ?_) AllReadyH.nil
        obtain ⟨y4, f4⟩ := HB.out _ (Keeps.refl _)
        go_simp
        refine hK.out _ _ (Only.of_keeps (ndrew w2)) (fun hHeld => ?_)
        clear hK K
        try simp only [Act.put, List.setIfInBounds_toArray, List.set_cons_zero, List.set_cons_succ]
        clear y4 f4
        refine takeH (i := 7) (d := some 25) (v := ?vc7) rfl rfl (by kernel_rfl) (by kernel_rfl) (by kernel_rfl) (fun _ _ _ h => h) (Or.inl ⟨by rfl, ?yc7⟩) (by assumption) ?rc7
        case yc7 => (intro W hSw; go_simp; try with_reducible rfl)
        try simp only [Act.put, List.setIfInBounds_toArray, List.set_cons_zero, List.set_cons_succ]
        refine wpAnyH_ready (rs := [15]) (by kernel_rfl) (by simp) ?_
        refine AllReadyH.cons rfl (fun K hK => ?_) AllReadyH.nil
        refine stepAppWideK mgK rfl _ _ rfl rfl (.slice (some ⟨g, 0, none⟩) i0 i0) _ (l.take i0) (l.drop nG) (nG - 1) N2.out rfl rfl (mgK.wide_keeps WF2.out (ndrew w2)) (RowK.Src.keeps mgK SB.out (ndrew w2)) L2.out ?_
        intro p6 c6 W6 o6 g6 a6
        have G6 := nt_grown HF.out (ndrew w2) g6
        refine hK.out _ _ (G6) (fun hHeld => ?_)
        clear hK K
        try simp only [Act.put, List.setIfInBounds_toArray, List.set_cons_zero, List.set_cons_succ]
        refine takeH (i := 16) (d := some 34) (v := ?ve16) rfl rfl (by kernel_rfl) (by kernel_rfl) (by kernel_rfl) (fun _ _ _ h => h) (Or.inl ⟨by rfl, ?ye16⟩) (by assumption) ?re16
        case ye16 => (intro W hSw; go_simp; try with_reducible rfl)
        try simp only [Act.put, List.setIfInBounds_toArray, List.set_cons_zero, List.set_cons_succ]
        refine takeH (i := 17) (d := some 35) (v := ?ve17) rfl rfl (by kernel_rfl) (by kernel_rfl) (by kernel_rfl) (fun _ _ _ h => h) (Or.inl ⟨by rfl, ?ye17⟩) (by assumption) ?re17
        case ye17 => (intro W hSw; go_simp; try with_reducible rfl)
        try simp only [Act.put, List.setIfInBounds_toArray, List.set_cons_zero, List.set_cons_succ]
        refine wpAnyH_ready (rs := [18]) (by kernel_rfl) (by simp) ?_
        refine AllReadyH.cons rfl (fun K hK => ?_) AllReadyH.nil
        obtain ⟨y6, f6⟩ := nt_cell2 BX2.out HF.out AP.out G6 g6 (ndrew w2)
        go_simp
        refine hK.out _ _ (G6.trans ((Only.cell _).mono fun i hi => (HF.out i).2 (Or.inl hi))) (fun hHeld => ?_)
        clear hK K
        try simp only [Act.put, List.setIfInBounds_toArray, List.set_cons_zero, List.set_cons_succ]
        refine wpAnyH_done (by kernel_rfl) ?_ _
        have PS := Lib.hid (nt_sent HF.out BX2.out AP.out (ndrew w2) g6 o6 a6)
        have B9 : Hid ((W6.setCell ⟨b, 1, none⟩ (.slice p6 (nG - 1) c6)).heap[W.heap.size]? = some (mgBox x)) := Lib.hid (((G6.trans ((Only.cell _).mono fun i hi => (HF.out i).2 (Or.inl hi))).same _ (box_lt B2.out) HR.out).trans B2.out)
        clear y6 f6 G6 g6 o6 a6 hHeld
        obtain ⟨w9, hw9⟩ : ∃ w9, W6.setCell ⟨b, 1, none⟩ (.slice p6 (nG - 1) c6) = w9 := ⟨_, rfl⟩
        rw [hw9] at PS B9 ⊢
        clear hw9
        obtain ⟨⟨x0, x1, x2, x3, x4, x5, x6⟩, g0, g1, g2, g3, g4, g5, g6⟩ := mg_box_cells B9.out
        go_wp2
        refine bodyPost_ret (v := .tuple #[mgV x, .bool true]) (by simp [results, Try.results15, go_sem, x0, x1, x2, x3, x4, x5, x6, g0, g1, g2, g3, g4, g5, g6, mgV]) rfl ?_
        rw [E1.out]
        exact ⟨rfl, TOLD.out _ PS.out _ (seven_only w9 W.heap.size (.int .i64 x.t) (.int .i64 x.o) (.int .i64 x.k) (.string x.s) (.int .i64 x.q) (.int .i64 x.a) (.int .i64 x.c))⟩
      -- region end
    · obtain ⟨d, hd⟩ : ∃ d, nG - k1 = d := ⟨_, rfl⟩
      obtain ⟨e, he⟩ : ∃ e, c - k1 = e := ⟨_, rfl⟩
      have SB : Hid (mgK.Src w2 (.slice (some ⟨g, k1 * 7, none⟩) d e) (l.drop k1)) := Lib.hid (by
        have := mgK.wide_back WD2.out (m := k1) e
        rw [HN.out, hd] at this
        exact this)
      have d1 : (nG : Int) - (k1 : Int) = (d : Int) := by omega
      have e1 : (c : Int) - (k1 : Int) = (e : Int) := by omega
      have wr1 := U1.out
      have wr2 := U2.out
      -- region 2
      refine wp_region_held_drew (S := fun W => Only F w2 W) (by kernel_rfl) (Only.of_keeps (ndrew _)) (fun hHeld => ?_)
      refine takeH (i := 0) (d := some 18) (v := ?vfa0) rfl rfl (by kernel_rfl) (by kernel_rfl) (by kernel_rfl) (fun _ _ _ h => h) (Or.inl ⟨by rfl, ?yfa0⟩) (by assumption) ?rfa0
      case yfa0 => (intro W hSw; go_simp; try with_reducible rfl)
      try simp only [Act.put, List.setIfInBounds_toArray, List.set_cons_zero, List.set_cons_succ]
      refine takeH (i := 1) (d := some 19) (v := ?vfa1) rfl rfl (by kernel_rfl) (by kernel_rfl) (by kernel_rfl) (fun _ _ _ h => h) (Or.inl ⟨by rfl, ?yfa1⟩) (by assumption) ?rfa1
      case yfa1 => (intro W hSw; go_simp; try with_reducible rfl)
      try simp only [Act.put, List.setIfInBounds_toArray, List.set_cons_zero, List.set_cons_succ]
      refine takeH (i := 2) (d := some 20) (v := ?vfa2) rfl rfl (by kernel_rfl) (by kernel_rfl) (by kernel_rfl) (fun _ _ _ h => h) (Or.inl ⟨by rfl, ?yfa2⟩) (by assumption) ?rfa2
      case yfa2 => (intro W hSw; go_simp; try with_reducible rfl)
      try simp only [Act.put, List.setIfInBounds_toArray, List.set_cons_zero, List.set_cons_succ]
      refine takeH (i := 3) (d := some 21) (v := ?vfa3) rfl rfl (by kernel_rfl) (by kernel_rfl) (by kernel_rfl) (fun _ _ _ h => h) (Or.inl ⟨by rfl, ?yfa3⟩) (by assumption) ?rfa3
      case yfa3 => (intro W hSw; go_simp; try with_reducible rfl)
      try simp only [Act.put, List.setIfInBounds_toArray, List.set_cons_zero, List.set_cons_succ]
      refine takeH (i := 5) (d := some 23) (v := ?vfa5) rfl rfl (by kernel_rfl) (by kernel_rfl) (by kernel_rfl) (fun _ _ _ h => h) (Or.inl ⟨by rfl, ?yfa5⟩) (by assumption) ?rfa5
      case yfa5 => (intro W hSw; go_simp; try with_reducible rfl)
      try simp only [Act.put, List.setIfInBounds_toArray, List.set_cons_zero, List.set_cons_succ]
      refine takeH (i := 6) (d := some 24) (v := ?vfa6) rfl rfl (by kernel_rfl) (by kernel_rfl) (by kernel_rfl) (fun _ _ _ h => h) (Or.inl ⟨by rfl, ?yfa6⟩) (by assumption) ?rfa6
      case yfa6 => (intro W hSw; go_simp; try with_reducible rfl)
      try simp only [Act.put, List.setIfInBounds_toArray, List.set_cons_zero, List.set_cons_succ]
      refine takeH (i := 8) (d := some 26) (v := ?vfa8) rfl rfl (by kernel_rfl) (by kernel_rfl) (by kernel_rfl) (fun _ _ _ h => h) (Or.inl ⟨by rfl, ?yfa8⟩) (by assumption) ?rfa8
      case yfa8 => (intro W hSw; go_simp; try with_reducible rfl)
      try simp only [Act.put, List.setIfInBounds_toArray, List.set_cons_zero, List.set_cons_succ]
      refine takeH (i := 9) (d := some 27) (v := ?vfa9) rfl rfl (by kernel_rfl) (by kernel_rfl) (by kernel_rfl) (fun _ _ _ h => h) (Or.inl ⟨by rfl, ?yfa9⟩) (by assumption) ?rfa9
      case yfa9 => (intro W hSw; go_simp; try with_reducible rfl)
      try simp only [Act.put, List.setIfInBounds_toArray, List.set_cons_zero, List.set_cons_succ]
      refine takeH (i := 10) (d := some 28) (v := ?vfa10) rfl rfl (by kernel_rfl) (by kernel_rfl) (by kernel_rfl) (fun _ _ _ h => h) (Or.inl ⟨by rfl, ?yfa10⟩) (by assumption) ?rfa10
      case yfa10 => (intro W hSw; go_simp; try with_reducible rfl)
      try simp only [Act.put, List.setIfInBounds_toArray, List.set_cons_zero, List.set_cons_succ]
      refine takeH (i := 12) (d := some 30) (v := ?vfa12) rfl rfl (by kernel_rfl) (by kernel_rfl) (by kernel_rfl) (fun _ _ _ h => h) (Or.inl ⟨by rfl, ?yfa12⟩) (by assumption) ?rfa12
      case yfa12 => (intro W hSw; go_simp; try with_reducible rfl)
      try simp only [Act.put, List.setIfInBounds_toArray, List.set_cons_zero, List.set_cons_succ]
      refine takeH (i := 13) (d := some 31) (v := ?vfa13) rfl rfl (by kernel_rfl) (by kernel_rfl) (by kernel_rfl) (fun _ _ _ h => h) (Or.inl ⟨by rfl, ?yfa13⟩) (by assumption) ?rfa13
      case yfa13 => (intro W hSw; go_simp; try with_reducible rfl)
      try simp only [Act.put, List.setIfInBounds_toArray, List.set_cons_zero, List.set_cons_succ]
      refine wpAnyH_ready (rs := [4, 11]) (by kernel_rfl) (by simp) ?_
      refine AllReadyH.cons rfl (fun K hK => ?_) (AllReadyH.cons rfl (fun K hK => ?_) AllReadyH.nil)
      · obtain ⟨y4, f4⟩ := HB.out _ (Keeps.refl _)
        go_simp
        refine hK.out _ _ (Only.of_keeps (ndrew w2)) (fun hHeld => ?_)
        clear hK K
        try simp only [Act.put, List.setIfInBounds_toArray, List.set_cons_zero, List.set_cons_succ]
        clear y4 f4
        refine takeH (i := 7) (d := some 25) (v := ?vfb7) rfl rfl (by kernel_rfl) (by kernel_rfl) (by kernel_rfl) (fun _ _ _ h => h) (Or.inl ⟨by rfl, ?yfb7⟩) (by assumption) ?rfb7
        case yfb7 => (intro W hSw; go_simp; try with_reducible rfl)
        try simp only [Act.put, List.setIfInBounds_toArray, List.set_cons_zero, List.set_cons_succ]
        refine wpAnyH_ready (rs := [11]) (by kernel_rfl) (by simp) ?_
        refine AllReadyH.cons rfl (fun K hK => ?_) AllReadyH.nil
        obtain ⟨y4, f4⟩ := HB.out _ (Keeps.refl _)
        go_simp
        refine hK.out _ _ (Only.of_keeps (ndrew w2)) (fun hHeld => ?_)
        clear hK K
        try simp only [Act.put, List.setIfInBounds_toArray, List.set_cons_zero, List.set_cons_succ]
        clear y4 f4
        refine takeH (i := 14) (d := some 32) (v := ?vfb14) rfl rfl (by kernel_rfl) (by kernel_rfl) (by kernel_rfl) (fun _ _ _ h => h) (Or.inl ⟨by rfl, ?yfb14⟩) (by assumption) ?rfb14
        case yfb14 => (intro W hSw; go_simp; try with_reducible rfl)
        try simp only [Act.put, List.setIfInBounds_toArray, List.set_cons_zero, List.set_cons_succ]
        refine wpAnyH_ready (rs := [15]) (by kernel_rfl) (by simp) ?_
        refine AllReadyH.cons rfl (fun K hK => ?_) AllReadyH.nil
        refine stepAppWideK mgK rfl _ _ rfl rfl (.slice (some ⟨g, 0, none⟩) i0 i0) _ (l.take i0) (l.drop k1) (nG - 1) N2.out rfl rfl (mgK.wide_keeps WF2.out (ndrew w2)) (RowK.Src.keeps mgK SB.out (ndrew w2)) L2.out ?_
        intro p6 c6 W6 o6 g6 a6
        have G6 := nt_grown HF.out (ndrew w2) g6
        refine hK.out _ _ (G6) (fun hHeld => ?_)
        clear hK K
        try simp only [Act.put, List.setIfInBounds_toArray, List.set_cons_zero, List.set_cons_succ]
        refine takeH (i := 16) (d := some 34) (v := ?vfd16) rfl rfl (by kernel_rfl) (by kernel_rfl) (by kernel_rfl) (fun _ _ _ h => h) (Or.inl ⟨by rfl, ?yfd16⟩) (by assumption) ?rfd16
        case yfd16 => (intro W hSw; go_simp; try with_reducible rfl)
        try simp only [Act.put, List.setIfInBounds_toArray, List.set_cons_zero, List.set_cons_succ]
        refine takeH (i := 17) (d := some 35) (v := ?vfd17) rfl rfl (by kernel_rfl) (by kernel_rfl) (by kernel_rfl) (fun _ _ _ h => h) (Or.inl ⟨by rfl, ?yfd17⟩) (by assumption) ?rfd17
        case yfd17 => (intro W hSw; go_simp; try with_reducible rfl)
        try simp only [Act.put, List.setIfInBounds_toArray, List.set_cons_zero, List.set_cons_succ]
        refine wpAnyH_ready (rs := [18]) (by kernel_rfl) (by simp) ?_
        refine AllReadyH.cons rfl (fun K hK => ?_) AllReadyH.nil
        obtain ⟨y6, f6⟩ := nt_cell2 BX2.out HF.out AP.out G6 g6 (ndrew w2)
        go_simp
        refine hK.out _ _ (G6.trans ((Only.cell _).mono fun i hi => (HF.out i).2 (Or.inl hi))) (fun hHeld => ?_)
        clear hK K
        try simp only [Act.put, List.setIfInBounds_toArray, List.set_cons_zero, List.set_cons_succ]
        refine wpAnyH_done (by kernel_rfl) ?_ _
        have PS := Lib.hid (nt_sent HF.out BX2.out AP.out (ndrew w2) g6 o6 a6)
        have B9 : Hid ((W6.setCell ⟨b, 1, none⟩ (.slice p6 (nG - 1) c6)).heap[W.heap.size]? = some (mgBox x)) := Lib.hid (((G6.trans ((Only.cell _).mono fun i hi => (HF.out i).2 (Or.inl hi))).same _ (box_lt B2.out) HR.out).trans B2.out)
        clear y6 f6 G6 g6 o6 a6 hHeld
        obtain ⟨w9, hw9⟩ : ∃ w9, W6.setCell ⟨b, 1, none⟩ (.slice p6 (nG - 1) c6) = w9 := ⟨_, rfl⟩
        rw [hw9] at PS B9 ⊢
        clear hw9
        obtain ⟨⟨x0, x1, x2, x3, x4, x5, x6⟩, g0, g1, g2, g3, g4, g5, g6⟩ := mg_box_cells B9.out
        go_wp2
        refine bodyPost_ret (v := .tuple #[mgV x, .bool true]) (by simp [results, Try.results15, go_sem, x0, x1, x2, x3, x4, x5, x6, g0, g1, g2, g3, g4, g5, g6, mgV]) rfl ?_
        rw [E1.out]
        exact ⟨rfl, TOLD.out _ PS.out _ (seven_only w9 W.heap.size (.int .i64 x.t) (.int .i64 x.o) (.int .i64 x.k) (.string x.s) (.int .i64 x.q) (.int .i64 x.a) (.int .i64 x.c))⟩
      · obtain ⟨y4, f4⟩ := HB.out _ (Keeps.refl _)
        go_simp
        refine hK.out _ _ (Only.of_keeps (ndrew w2)) (fun hHeld => ?_)
        clear hK K
        try simp only [Act.put, List.setIfInBounds_toArray, List.set_cons_zero, List.set_cons_succ]
        clear y4 f4
        refine takeH (i := 14) (d := some 32) (v := ?vfc14) rfl rfl (by kernel_rfl) (by kernel_rfl) (by kernel_rfl) (fun _ _ _ h => h) (Or.inl ⟨by rfl, ?yfc14⟩) (by assumption) ?rfc14
        case yfc14 => (intro W hSw; go_simp; try with_reducible rfl)
        try simp only [Act.put, List.setIfInBounds_toArray, List.set_cons_zero, List.set_cons_succ]
        refine wpAnyH_ready (rs := [4]) (by kernel_rfl) (by simp) ?_
        refine AllReadyH.cons rfl (fun K hK => ?_) AllReadyH.nil
        obtain ⟨y4, f4⟩ := HB.out _ (Keeps.refl _)
        go_simp
        refine hK.out _ _ (Only.of_keeps (ndrew w2)) (fun hHeld => ?_)
        clear hK K
        try simp only [Act.put, List.setIfInBounds_toArray, List.set_cons_zero, List.set_cons_succ]
        clear y4 f4
        refine takeH (i := 7) (d := some 25) (v := ?vfc7) rfl rfl (by kernel_rfl) (by kernel_rfl) (by kernel_rfl) (fun _ _ _ h => h) (Or.inl ⟨by rfl, ?yfc7⟩) (by assumption) ?rfc7
        case yfc7 => (intro W hSw; go_simp; try with_reducible rfl)
        try simp only [Act.put, List.setIfInBounds_toArray, List.set_cons_zero, List.set_cons_succ]
        refine wpAnyH_ready (rs := [15]) (by kernel_rfl) (by simp) ?_
        refine AllReadyH.cons rfl (fun K hK => ?_) AllReadyH.nil
        refine stepAppWideK mgK rfl _ _ rfl rfl (.slice (some ⟨g, 0, none⟩) i0 i0) _ (l.take i0) (l.drop k1) (nG - 1) N2.out rfl rfl (mgK.wide_keeps WF2.out (ndrew w2)) (RowK.Src.keeps mgK SB.out (ndrew w2)) L2.out ?_
        intro p6 c6 W6 o6 g6 a6
        have G6 := nt_grown HF.out (ndrew w2) g6
        refine hK.out _ _ (G6) (fun hHeld => ?_)
        clear hK K
        try simp only [Act.put, List.setIfInBounds_toArray, List.set_cons_zero, List.set_cons_succ]
        refine takeH (i := 16) (d := some 34) (v := ?vfe16) rfl rfl (by kernel_rfl) (by kernel_rfl) (by kernel_rfl) (fun _ _ _ h => h) (Or.inl ⟨by rfl, ?yfe16⟩) (by assumption) ?rfe16
        case yfe16 => (intro W hSw; go_simp; try with_reducible rfl)
        try simp only [Act.put, List.setIfInBounds_toArray, List.set_cons_zero, List.set_cons_succ]
        refine takeH (i := 17) (d := some 35) (v := ?vfe17) rfl rfl (by kernel_rfl) (by kernel_rfl) (by kernel_rfl) (fun _ _ _ h => h) (Or.inl ⟨by rfl, ?yfe17⟩) (by assumption) ?rfe17
        case yfe17 => (intro W hSw; go_simp; try with_reducible rfl)
        try simp only [Act.put, List.setIfInBounds_toArray, List.set_cons_zero, List.set_cons_succ]
        refine wpAnyH_ready (rs := [18]) (by kernel_rfl) (by simp) ?_
        refine AllReadyH.cons rfl (fun K hK => ?_) AllReadyH.nil
        obtain ⟨y6, f6⟩ := nt_cell2 BX2.out HF.out AP.out G6 g6 (ndrew w2)
        go_simp
        refine hK.out _ _ (G6.trans ((Only.cell _).mono fun i hi => (HF.out i).2 (Or.inl hi))) (fun hHeld => ?_)
        clear hK K
        try simp only [Act.put, List.setIfInBounds_toArray, List.set_cons_zero, List.set_cons_succ]
        refine wpAnyH_done (by kernel_rfl) ?_ _
        have PS := Lib.hid (nt_sent HF.out BX2.out AP.out (ndrew w2) g6 o6 a6)
        have B9 : Hid ((W6.setCell ⟨b, 1, none⟩ (.slice p6 (nG - 1) c6)).heap[W.heap.size]? = some (mgBox x)) := Lib.hid (((G6.trans ((Only.cell _).mono fun i hi => (HF.out i).2 (Or.inl hi))).same _ (box_lt B2.out) HR.out).trans B2.out)
        clear y6 f6 G6 g6 o6 a6 hHeld
        obtain ⟨w9, hw9⟩ : ∃ w9, W6.setCell ⟨b, 1, none⟩ (.slice p6 (nG - 1) c6) = w9 := ⟨_, rfl⟩
        rw [hw9] at PS B9 ⊢
        clear hw9
        obtain ⟨⟨x0, x1, x2, x3, x4, x5, x6⟩, g0, g1, g2, g3, g4, g5, g6⟩ := mg_box_cells B9.out
        go_wp2
        refine bodyPost_ret (v := .tuple #[mgV x, .bool true]) (by simp [results, Try.results15, go_sem, x0, x1, x2, x3, x4, x5, x6, g0, g1, g2, g3, g4, g5, g6, mgV]) rfl ?_
        rw [E1.out]
        exact ⟨rfl, TOLD.out _ PS.out _ (seven_only w9 W.heap.size (.int .i64 x.t) (.int .i64 x.o) (.int .i64 x.k) (.string x.s) (.int .i64 x.q) (.int .i64 x.a) (.int .i64 x.c))⟩
      -- region 2 end
end Nt
end Go.Proofs.Ytajphjlfefhajaa
