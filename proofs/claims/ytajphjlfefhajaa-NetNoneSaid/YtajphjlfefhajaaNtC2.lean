/- The program's net: Send. -/
import Derived.Test.YtajphjlfefhajaaNtC1
set_option linter.unusedVariables false
set_option linter.unusedSimpArgs false
namespace Go.Proofs.Ytajphjlfefhajaa
open Go.ChangeShapes Go.WideShapes Go.ChangeAt Go.RowKit Csv Ky
/-- 'append' to a row whose block may have more room, in a region that draws: where it lies. -/
theorem stepAppWideK {α : Type} (R : RowK α) {w : World} {ops : Array Oper} {o : Oper} {a : Act} {K : Act → World → Prop} {Q : Exit → Act → World → Prop} {E : Prop} (hgd : o.guard = none) (sl x : Operand)
    (ho : o.op = .call { callee := .builtin .append, args := #[sl, x], argTypes := #[R.ts, R.ts] }) (ht : o.type = R.ts) (v src : Value) (L M : List α) (m : Nat) (hm : L.length + M.length = m) (hs : a.eval sl = v) (hx : a.eval x = src) (hown : R.Wide w v L) (hsrc : R.Src w src M) (hn : L.length + M.length ≤ 100000)
    (h : ∀ p' c' w', R.Wide w' (.slice p' m c') (L ++ M) → w.grownBy w' v.ownBlock → ((Value.slice p' m c').ownBlock = v.ownBlock ∨ (Value.slice p' m c').ownBlock = some w.heap.size) → K (a.put o.dst (.slice p' m c')) w') : if Region.wanted o (yielded ops a.tmps) = true then Oper.wp Try.prog o a w K Q else E := by
  subst hm
  obtain ⟨p', c', w', h1, h2, h3, h4⟩ := R.wide_app w v L src M hown hsrc hn
  exact stepAppendKnown hgd sl x _ _ ho _ _ _ w' hs hx (by rw [ht]; exact h1) (h p' c' w' h2 h3 h4)
namespace Nt
section
variable {W X Y : World} {b : Nat} {F : Nat → Prop} {l l' : List Mg} {v v' : Value}
theorem nt_grown (hF : ∀ i, F i ↔ (i = b ∨ v.ownBlock = some i)) (k : Keeps W X) (g : X.grownBy Y v.ownBlock) : Only F W Y :=
  (Only.of_keeps k).trans ⟨g.os, g.tape, g.output, g.size, fun i hi hn => g.block i hi fun e => hn ((hF i).2 (Or.inr e.symm))⟩
theorem nt_still (hb : W.heap[b]? = some (.cells #[.bool true, v] tNt (0, 0))) (ap : v.ownBlock ≠ some b) (g : X.grownBy Y v.ownBlock) (k : Keeps W X) : Y.heap[b]? = some (.cells #[.bool true, v] tNt (0, 0)) :=
  ((g.block b (Nat.lt_of_lt_of_le (box_lt hb) k.size) fun e => ap e.symm).trans (k.block b (box_lt hb))).trans hb
theorem nt_cell2 (hb : W.heap[b]? = some (.cells #[.bool true, v] tNt (0, 0))) (hF : ∀ i, F i ↔ (i = b ∨ v.ownBlock = some i)) (ap : v.ownBlock ≠ some b) (G : Only F W Y) (g : X.grownBy Y v.ownBlock) (k : Keeps W X) : Y.cell? ⟨b, 1, none⟩ = some v ∧ Y.frozen? ⟨b, 1, none⟩ = false :=
  ⟨(two_at (nt_still hb ap g k)).2.1, (two_at (nt_still hb ap g k)).2.2.2⟩
theorem nt_sent (hF : ∀ i, F i ↔ (i = b ∨ v.ownBlock = some i)) (hb : W.heap[b]? = some (.cells #[.bool true, v] tNt (0, 0))) (ap : v.ownBlock ≠ some b) (k : Keeps W X) (g : X.grownBy Y v.ownBlock) (ho : mgK.Wide Y v' l') (ha : v'.ownBlock = v.ownBlock ∨ v'.ownBlock = some X.heap.size) : PGoes NtAt W (Y.setCell ⟨b, 1, none⟩ v') b F l' :=
  nt_put hF (nt_grown hF k g) (nt_still hb ap g k) ho fun j hj => by
    rcases ha with e | e
    · exact Or.inl (e ▸ hj)
    · rw [e] at hj
      have := k.size
      have : X.heap.size = j := Option.some.inj hj
      exact Or.inr (by omega)
theorem PGoes.since {P : World → Nat → (Nat → Prop) → List Mg → Prop} (h : PGoes P X Y b F l) (k : Keeps W X) : PGoes P W Y b F l := by
  obtain ⟨⟨F', h1, h2⟩, h3⟩ := h
  exact ⟨⟨F', h1, fun i hi => (h2 i hi).imp id (Nat.le_trans k.size)⟩, (Only.of_keeps k).trans h3⟩
end
set_option maxHeartbeats 8000000 in
set_option maxRecDepth 100000 in
theorem pn_send (b : Nat) (F : Nat → Prop) (l : List Mg) (m : Mg) (W : World) (h : NtAt W b F l) (hl : l.length ≤ 1000) :
    Calls Try.prog 16 #[.pointer (some ⟨b, 0, none⟩), mgV m] W fun e w' => e = .returned (.bool (room l)) ∧ PGoes NtAt W w' b F (send l m) := by
  obtain ⟨w1, hw1⟩ : ∃ w1, W.alloc (mgBox m) = w1 := ⟨_, rfl⟩
  have K1 : Hid (Keeps W w1) := Lib.hid (hw1 ▸ nbox _ _)
  have B1 : Hid (w1.heap[W.heap.size]? = some (mgBox m)) := Lib.hid (hw1 ▸ heap_alloc_new _ _)
  have H0 := Lib.hid h
  have H1 := Lib.hid (h.keeps K1.out)
  have HLT : Hid (∀ i, F i → i < W.heap.size) := Lib.hid fun i hi => H0.out.lt hi
  obtain ⟨v, h1, h2, h3⟩ := h.keeps K1.out
  obtain ⟨p, c, rfl⟩ := mgK.wide_shape h2
  obtain ⟨nG, hnG⟩ : ∃ n, l.length = n := ⟨_, rfl⟩
  rw [hnG] at h1 h2 h3
  have WD := Lib.hid h2
  have HF := Lib.hid h3
  have HBX := Lib.hid h1
  have AP := Lib.hid (nt_apart h1 h2)
  have CN := Lib.hid (pn_none_box b true _ w1 h1)
  have bl1 : b < w1.heap.size := box_lt h1
  have bn : b ≠ w1.heap.size := Nat.ne_of_lt bl1
  have bm : w1.heap.size ≠ b := Ne.symm bn
  have HB : Hid (∀ X, Keeps w1 X → X.cell? ⟨b, 1, none⟩ = some (.slice p nG c) ∧ X.frozen? ⟨b, 1, none⟩ = false) := Lib.hid fun X k => ⟨(two_at (box_keep h1 k)).2.1, (two_at (box_keep h1 k)).2.2.2⟩
  have HM : Hid (∀ X, Only F w1 X → X.cell? ⟨W.heap.size, 0, none⟩ = some (.int .i64 m.t) ∧ X.cell? ⟨W.heap.size, 1, none⟩ = some (.int .i64 m.o) ∧ X.cell? ⟨W.heap.size, 2, none⟩ = some (.int .i64 m.k) ∧ X.cell? ⟨W.heap.size, 3, none⟩ = some (.string m.s) ∧ X.cell? ⟨W.heap.size, 4, none⟩ = some (.int .i64 m.q) ∧ X.cell? ⟨W.heap.size, 5, none⟩ = some (.int .i64 m.a) ∧ X.cell? ⟨W.heap.size, 6, none⟩ = some (.int .i64 m.c)) := Lib.hid fun X k =>
    (mg_box_cells ((k.same _ (box_lt B1.out) (fun hf => by have := HLT.out _ hf; omega)).trans B1.out)).1
  have N2 : Hid (l.length + [m].length = nG + 1) := Lib.hid (by simp [hnG])
  have L2 : Hid (l.length + [m].length ≤ 100000) := Lib.hid (by rw [N2.out]; omega)
  have EW1 := Lib.hid hw1
  obtain ⟨rb, hrb⟩ : ∃ rb, room l = rb := ⟨_, rfl⟩
  have RB : Hid (rb = decide (nG < 1000)) := Lib.hid (by rw [← hrb]; unfold room; rw [hnG])
  obtain ⟨l', hl'⟩ : ∃ l', send l m = l' := ⟨_, rfl⟩
  have SL : Hid (l' = if nG < 1000 then l ++ [m] else l) := Lib.hid (by rw [← hl']; unfold send; rw [hnG])
  have hn1 : nG ≤ 1000 := by omega
  rw [hrb, hl']
  obtain ⟨y0, f0⟩ := HB.out _ (Keeps.refl _)
  clear h h1 h2 h3 hw1 hnG hrb hl' hl
  unfold mgBox at EW1
  unfold mgV
  by_cases hroom : nG < 1000
  · obtain rfl : rb = true := by rw [RB.out]; exact decide_eq_true hroom
    obtain rfl : l' = l ++ [m] := by rw [SL.out, if_pos hroom]
    have hgt : ¬ ((1000 : Int) ≤ (nG : Int)) := by omega
    clear RB SL
    go_enter Try.func16, Try.ntmps16
    go_upto_region 1 with (fail)
    rw [EW1.out]
    go_wp2_with fail
    refine CN.out.mono ?_
    rintro e w2 ⟨rfl, h2⟩
    obtain rfl : w1 = w2 := h2.symm
    go_upto_region 3 with (fail)
    clear EW1 y0 f0 CN
    -- region
    refine wp_region_held_drew (S := fun W => Only F w1 W) (by kernel_rfl) (Only.of_keeps (ndrew _)) (fun hHeld => ?_)
    refine takeH (i := 0) (d := some 15) (v := ?va0) rfl rfl (by kernel_rfl) (by kernel_rfl) (by kernel_rfl) (fun _ _ _ h => h) (Or.inl ⟨by rfl, ?ya0⟩) (by assumption) ?ra0
    case ya0 => (intro W hSw; go_simp; try with_reducible rfl)
    try simp only [Act.put, List.setIfInBounds_toArray, List.set_cons_zero, List.set_cons_succ]
    refine takeH (i := 1) (d := some 16) (v := ?va1) rfl rfl (by kernel_rfl) (by kernel_rfl) (by kernel_rfl) (fun _ _ _ h => h) (Or.inl ⟨by rfl, ?ya1⟩) (by assumption) ?ra1
    case ya1 => (intro W hSw; go_simp; try with_reducible rfl)
    try simp only [Act.put, List.setIfInBounds_toArray, List.set_cons_zero, List.set_cons_succ]
    refine takeH (i := 2) (d := some 17) (v := ?va2) rfl rfl (by kernel_rfl) (by kernel_rfl) (by kernel_rfl) (fun _ _ _ h => h) (Or.inl ⟨by rfl, ?ya2⟩) (by assumption) ?ra2
    case ya2 => (intro W hSw; go_simp; try with_reducible rfl)
    try simp only [Act.put, List.setIfInBounds_toArray, List.set_cons_zero, List.set_cons_succ]
    refine takeH (i := 3) (d := some 18) (v := ?va3) rfl rfl (by kernel_rfl) (by kernel_rfl) (by kernel_rfl) (fun _ _ _ h => h) (Or.inl ⟨by rfl, ?ya3⟩) (by assumption) ?ra3
    case ya3 => (intro W hSw; go_simp; try with_reducible rfl)
    try simp only [Act.put, List.setIfInBounds_toArray, List.set_cons_zero, List.set_cons_succ]
    refine takeH (i := 5) (d := some 20) (v := ?va5) rfl rfl (by kernel_rfl) (by kernel_rfl) (by kernel_rfl) (fun _ _ _ h => h) (Or.inl ⟨by rfl, ?ya5⟩) (by assumption) ?ra5
    case ya5 => (intro W hSw; obtain ⟨x0, x1, x2, x3, x4, x5, x6⟩ := HM.out W hSw; go_simp; try with_reducible rfl)
    try simp only [Act.put, List.setIfInBounds_toArray, List.set_cons_zero, List.set_cons_succ]
    refine wpAnyH_ready (rs := [4, 6]) (by kernel_rfl) (by simp) ?_
    refine AllReadyH.cons rfl (fun K hK => ?_) (AllReadyH.cons rfl (fun K hK => ?_) AllReadyH.nil)
    · obtain ⟨y4, f4⟩ := HB.out _ (Keeps.refl _)
      go_simp
      refine hK.out _ _ (Only.of_keeps (ndrew w1)) (fun hHeld => ?_)
      clear hK K
      try simp only [Act.put, List.setIfInBounds_toArray, List.set_cons_zero, List.set_cons_succ]
      clear y4 f4
      refine wpAnyH_ready (rs := [6]) (by kernel_rfl) (by simp) ?_
      refine AllReadyH.cons rfl (fun K hK => ?_) AllReadyH.nil
      go_simp
      refine hK.out _ _ (Only.of_keeps (show Keeps w1 ((w1.drew).alloc (.cells #[.int .i64 m.t, .int .i64 m.o, .int .i64 m.k, .string m.s, .int .i64 m.q, .int .i64 m.a, .int .i64 m.c] tMg)) from Keeps.trans (ndrew _) (nbox _ _))) (fun hHeld => ?_)
      clear hK K
      try simp only [Act.put, List.setIfInBounds_toArray, List.set_cons_zero, List.set_cons_succ]
      refine wpAnyH_ready (rs := [7]) (by kernel_rfl) (by simp) ?_
      refine AllReadyH.cons rfl (fun K hK => ?_) AllReadyH.nil
      refine stepAppWideK mgK rfl _ _ rfl rfl (.slice p nG c) _ l [m] (nG + 1) N2.out rfl rfl (mgK.wide_keeps WD.out (show Keeps w1 ((w1.drew).alloc (.cells #[.int .i64 m.t, .int .i64 m.o, .int .i64 m.k, .string m.s, .int .i64 m.q, .int .i64 m.a, .int .i64 m.c] tMg)) from Keeps.trans (ndrew _) (nbox _ _))) (mg_src1 w1.drew m) L2.out ?_
      intro p6 c6 W6 o6 g6 a6
      have G6 := nt_grown HF.out (show Keeps w1 ((w1.drew).alloc (.cells #[.int .i64 m.t, .int .i64 m.o, .int .i64 m.k, .string m.s, .int .i64 m.q, .int .i64 m.a, .int .i64 m.c] tMg)) from Keeps.trans (ndrew _) (nbox _ _)) g6
      refine hK.out _ _ (G6) (fun hHeld => ?_)
      clear hK K
      try simp only [Act.put, List.setIfInBounds_toArray, List.set_cons_zero, List.set_cons_succ]
      refine takeH (i := 8) (d := some 23) (v := ?vb8) rfl rfl (by kernel_rfl) (by kernel_rfl) (by kernel_rfl) (fun _ _ _ h => h) (Or.inl ⟨by rfl, ?yb8⟩) (by assumption) ?rb8
      case yb8 => (intro W hSw; go_simp; try with_reducible rfl)
      try simp only [Act.put, List.setIfInBounds_toArray, List.set_cons_zero, List.set_cons_succ]
      refine takeH (i := 9) (d := some 24) (v := ?vb9) rfl rfl (by kernel_rfl) (by kernel_rfl) (by kernel_rfl) (fun _ _ _ h => h) (Or.inl ⟨by rfl, ?yb9⟩) (by assumption) ?rb9
      case yb9 => (intro W hSw; go_simp; try with_reducible rfl)
      try simp only [Act.put, List.setIfInBounds_toArray, List.set_cons_zero, List.set_cons_succ]
      refine wpAnyH_ready (rs := [10]) (by kernel_rfl) (by simp) ?_
      refine AllReadyH.cons rfl (fun K hK => ?_) AllReadyH.nil
      obtain ⟨y6, f6⟩ := nt_cell2 HBX.out HF.out AP.out G6 g6 (show Keeps w1 ((w1.drew).alloc (.cells #[.int .i64 m.t, .int .i64 m.o, .int .i64 m.k, .string m.s, .int .i64 m.q, .int .i64 m.a, .int .i64 m.c] tMg)) from Keeps.trans (ndrew _) (nbox _ _))
      go_simp
      refine hK.out _ _ (G6.trans ((Only.cell _).mono fun i hi => (HF.out i).2 (Or.inl hi))) (fun hHeld => ?_)
      clear hK K
      try simp only [Act.put, List.setIfInBounds_toArray, List.set_cons_zero, List.set_cons_succ]
      refine wpAnyH_done (by kernel_rfl) ?_ _
      go_wp2
      go_ret
      exact ⟨rfl, (nt_sent HF.out HBX.out AP.out (show Keeps w1 ((w1.drew).alloc (.cells #[.int .i64 m.t, .int .i64 m.o, .int .i64 m.k, .string m.s, .int .i64 m.q, .int .i64 m.a, .int .i64 m.c] tMg)) from Keeps.trans (ndrew _) (nbox _ _)) g6 o6 a6).since K1.out⟩
    · go_simp
      refine hK.out _ _ (Only.of_keeps (show Keeps w1 ((w1.drew).alloc (.cells #[.int .i64 m.t, .int .i64 m.o, .int .i64 m.k, .string m.s, .int .i64 m.q, .int .i64 m.a, .int .i64 m.c] tMg)) from Keeps.trans (ndrew _) (nbox _ _))) (fun hHeld => ?_)
      clear hK K
      try simp only [Act.put, List.setIfInBounds_toArray, List.set_cons_zero, List.set_cons_succ]
      refine wpAnyH_ready (rs := [4]) (by kernel_rfl) (by simp) ?_
      refine AllReadyH.cons rfl (fun K hK => ?_) AllReadyH.nil
      obtain ⟨y4, f4⟩ := HB.out _ (Keeps.refl _)
      go_simp
      refine hK.out _ _ (Only.of_keeps (show Keeps w1 ((w1.drew).alloc (.cells #[.int .i64 m.t, .int .i64 m.o, .int .i64 m.k, .string m.s, .int .i64 m.q, .int .i64 m.a, .int .i64 m.c] tMg)) from Keeps.trans (ndrew _) (nbox _ _))) (fun hHeld => ?_)
      clear hK K
      try simp only [Act.put, List.setIfInBounds_toArray, List.set_cons_zero, List.set_cons_succ]
      clear y4 f4
      refine wpAnyH_ready (rs := [7]) (by kernel_rfl) (by simp) ?_
      refine AllReadyH.cons rfl (fun K hK => ?_) AllReadyH.nil
      refine stepAppWideK mgK rfl _ _ rfl rfl (.slice p nG c) _ l [m] (nG + 1) N2.out rfl rfl (mgK.wide_keeps WD.out (show Keeps w1 ((w1.drew).alloc (.cells #[.int .i64 m.t, .int .i64 m.o, .int .i64 m.k, .string m.s, .int .i64 m.q, .int .i64 m.a, .int .i64 m.c] tMg)) from Keeps.trans (ndrew _) (nbox _ _))) (mg_src1 w1.drew m) L2.out ?_
      intro p6 c6 W6 o6 g6 a6
      have G6 := nt_grown HF.out (show Keeps w1 ((w1.drew).alloc (.cells #[.int .i64 m.t, .int .i64 m.o, .int .i64 m.k, .string m.s, .int .i64 m.q, .int .i64 m.a, .int .i64 m.c] tMg)) from Keeps.trans (ndrew _) (nbox _ _)) g6
      refine hK.out _ _ (G6) (fun hHeld => ?_)
      clear hK K
      try simp only [Act.put, List.setIfInBounds_toArray, List.set_cons_zero, List.set_cons_succ]
      refine takeH (i := 8) (d := some 23) (v := ?vc8) rfl rfl (by kernel_rfl) (by kernel_rfl) (by kernel_rfl) (fun _ _ _ h => h) (Or.inl ⟨by rfl, ?yc8⟩) (by assumption) ?rc8
      case yc8 => (intro W hSw; go_simp; try with_reducible rfl)
      try simp only [Act.put, List.setIfInBounds_toArray, List.set_cons_zero, List.set_cons_succ]
      refine takeH (i := 9) (d := some 24) (v := ?vc9) rfl rfl (by kernel_rfl) (by kernel_rfl) (by kernel_rfl) (fun _ _ _ h => h) (Or.inl ⟨by rfl, ?yc9⟩) (by assumption) ?rc9
      case yc9 => (intro W hSw; go_simp; try with_reducible rfl)
      try simp only [Act.put, List.setIfInBounds_toArray, List.set_cons_zero, List.set_cons_succ]
      refine wpAnyH_ready (rs := [10]) (by kernel_rfl) (by simp) ?_
      refine AllReadyH.cons rfl (fun K hK => ?_) AllReadyH.nil
      obtain ⟨y6, f6⟩ := nt_cell2 HBX.out HF.out AP.out G6 g6 (show Keeps w1 ((w1.drew).alloc (.cells #[.int .i64 m.t, .int .i64 m.o, .int .i64 m.k, .string m.s, .int .i64 m.q, .int .i64 m.a, .int .i64 m.c] tMg)) from Keeps.trans (ndrew _) (nbox _ _))
      go_simp
      refine hK.out _ _ (G6.trans ((Only.cell _).mono fun i hi => (HF.out i).2 (Or.inl hi))) (fun hHeld => ?_)
      clear hK K
      try simp only [Act.put, List.setIfInBounds_toArray, List.set_cons_zero, List.set_cons_succ]
      refine wpAnyH_done (by kernel_rfl) ?_ _
      go_wp2
      go_ret
      exact ⟨rfl, (nt_sent HF.out HBX.out AP.out (show Keeps w1 ((w1.drew).alloc (.cells #[.int .i64 m.t, .int .i64 m.o, .int .i64 m.k, .string m.s, .int .i64 m.q, .int .i64 m.a, .int .i64 m.c] tMg)) from Keeps.trans (ndrew _) (nbox _ _)) g6 o6 a6).since K1.out⟩
    -- region end
  · obtain rfl : rb = false := by rw [RB.out]; exact decide_eq_false hroom
    obtain rfl : l' = l := by rw [SL.out, if_neg hroom]
    have hgt : (1000 : Int) ≤ (nG : Int) := by omega
    clear RB SL
    go_enter Try.func16, Try.ntmps16
    go_upto_region 1 with (fail)
    rw [EW1.out]
    go_wp2_with fail
    refine CN.out.mono ?_
    rintro e w2 ⟨rfl, h2⟩
    obtain rfl : w1 = w2 := h2.symm
    go_wp2
    go_ret
    exact ⟨rfl, PGoes.same H1.out (Only.of_keeps K1.out)⟩
end Nt
end Go.Proofs.Ytajphjlfefhajaa
