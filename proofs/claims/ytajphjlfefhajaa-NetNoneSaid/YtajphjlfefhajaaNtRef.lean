
/- The document's net: what it is in memory; is, Copy, Send. -/
import Derived.Test.YtajphjlfefhajaaNtMem
import Derived.Deep.RegionHeld3
import Derived.Deep.QuietTactic
import Derived.Deep.Cut
import Derived.Deep.LoopGhost
import Derived.Deep.DeepCutAuto
set_option linter.unusedVariables false
set_option linter.unusedSimpArgs false
namespace Go.Proofs.Ytajphjlfefhajaa
open Go.ChangeShapes Go.WideShapes Go.ChangeAt Go.RowKit Csv Ky
namespace Nt
abbrev tRn : TypeId := 30
/-- The document's net, in its blocks F. -/
def RefN (W : World) (b : Nat) (F : Nat → Prop) (l : List Mg) : Prop :=
  ∃ v, W.heap[b]? = some (.cells #[v] tRn (0, 0)) ∧ mgK.Own 0 W v l ∧ ∀ i, F i ↔ (i = b ∨ v.ownBlock = some i)
theorem one_at {W : World} {n : Nat} {t : TypeId} {x0 : Value} (h : W.heap[n]? = some (.cells #[x0] t (0, 0))) : W.cell? ⟨n, 0, none⟩ = some x0 ∧ W.frozen? ⟨n, 0, none⟩ = false :=
  ⟨Joins.cell_of_block h 0, Joins.unfrozen_of_block h 0⟩
theorem RefN.loc {W W' : World} {b : Nat} {F : Nat → Prop} {l : List Mg} (h : RefN W b F l) (hs : ∀ i, F i → W'.heap[i]? = W.heap[i]?) : RefN W' b F l := by
  obtain ⟨v, h1, h2, h3⟩ := h
  exact ⟨v, (hs b ((h3 b).2 (Or.inl rfl))).trans h1, mgK.own_local h2 fun g hg => hs g ((h3 g).2 (Or.inr hg)), h3⟩
theorem RefN.lt {W : World} {b : Nat} {F : Nat → Prop} {l : List Mg} (h : RefN W b F l) {i : Nat} (hi : F i) : i < W.heap.size := by
  obtain ⟨v, h1, h2, h3⟩ := h
  rcases (h3 i).1 hi with rfl | e
  · exact box_lt h1
  · exact (mgK.own_lt h2 i e).2
theorem RefN.self {W : World} {b : Nat} {F : Nat → Prop} {l : List Mg} (h : RefN W b F l) : F b := by
  obtain ⟨v, h1, h2, h3⟩ := h
  exact (h3 b).2 (Or.inl rfl)
theorem RefN.keeps {W W' : World} {b : Nat} {F : Nat → Prop} {l : List Mg} (h : RefN W b F l) (k : Keeps W W') : RefN W' b F l := h.loc fun i hi => k.block i (h.lt hi)
/-- What becomes of it: other messages, in its blocks and new ones. -/
structure RGoes (W W' : World) (b : Nat) (F : Nat → Prop) (l : List Mg) : Prop where
  ex : ∃ F', RefN W' b F' l ∧ ∀ i, F' i → F i ∨ W.heap.size ≤ i
  only : Only (fun i => i = b) W W'
theorem RGoes.from {w W W' : World} {b : Nat} {F : Nat → Prop} {l : List Mg} (h : RGoes W W' b F l) (k : Keeps w W) : RGoes w W' b F l := by
  obtain ⟨⟨F', h1, h2⟩, h3⟩ := h
  exact ⟨⟨F', h1, fun i hi => (h2 i hi).imp id (Nat.le_trans k.size)⟩, (Only.of_keeps k).trans h3⟩
theorem RGoes.same {W W' : World} {b : Nat} {F : Nat → Prop} {l : List Mg} (h : RefN W b F l) (k : Keeps W W') : RGoes W W' b F l :=
  ⟨⟨F, h.keeps k, fun i hi => Or.inl hi⟩, Only.of_keeps k⟩
/-- Another list stored: the block's one cell. -/
theorem ref_put {w W : World} {b : Nat} {F : Nat → Prop} {l l' : List Mg} {v : Value} (h : RefN w b F l) (k : Keeps w W) (ho : mgK.Own w.heap.size W v l') : RGoes w (W.setCell ⟨b, 0, none⟩ v) b F l' := by
  have hF := h.self
  obtain ⟨v0, h1, h2, h3⟩ := h.keeps k
  have g : Only (fun i => i = b) W (W.setCell ⟨b, 0, none⟩ v) := Only.cell v
  refine ⟨⟨fun i => i = b ∨ v.ownBlock = some i, ⟨v, ?_, ?_, fun i => Iff.rfl⟩, ?_⟩, (Only.of_keeps k).trans g⟩
  · rw [Joins.block_setCell (i := 0) h1 v]; rfl
  · refine mgK.own_base (mgK.own_local ho fun i hi => g.same i (mgK.own_lt ho i hi).2 (fun e => ?_)) fun i _ => Nat.zero_le i
    have := (mgK.own_lt ho i hi).1
    have := h.lt hF
    omega
  · rintro i (rfl | e)
    · exact Or.inl hF
    · exact Or.inr (mgK.own_lt ho i e).1
theorem nr_is (b : Nat) (F : Nat → Prop) (l : List Mg) (i : Int) (W : World) (h : RefN W b F l) : Calls Try.prog 28 #[.pointer (some ⟨b, 0, none⟩), .int .i64 i] W fun e w' => e = .returned (.bool (isB l i)) ∧ w' = W := by
  obtain ⟨v, h1, h2, h3⟩ := h
  obtain ⟨p, c, rfl⟩ := mgK.own_shape h2
  have y0 := (one_at h1).1
  obtain ⟨n, hn⟩ : ∃ n, l.length = n := ⟨_, rfl⟩
  have E : Hid (isB l i = (decide (0 ≤ i) && decide (i < (n : Int)))) := Lib.hid (by unfold isB; rw [hn])
  rw [hn] at y0
  generalize isB l i = B at E ⊢
  clear h1 h2 h3 hn
  by_cases h0 : 0 ≤ i
  · go_enter Try.func28, Try.ntmps28
    go_wp2
    go_ret
    exact ⟨by rw [E.out]; simp [h0], rfl⟩
  · go_enter Try.func28, Try.ntmps28
    go_wp2
    go_ret
    exact ⟨by rw [E.out]; simp [h0]; first | done | omega | (intro hq; omega), rfl⟩
/-- A net of one's own, in new memory. -/
structure RNew (W W' : World) (e : Ending) (l : List Mg) : Prop where
  ex : ∃ b F, e = .returned (.pointer (some ⟨b, 0, none⟩)) ∧ RefN W' b F l ∧ ∀ i, F i → W.heap.size ≤ i
  keeps : Keeps W W'
theorem ref_box {w W : World} {l : List Mg} {v : Value} (k : Keeps w W) (ho : mgK.Own w.heap.size W v l) : ∃ b F, Ending.returned (.pointer (some ⟨W.heap.size, 0, none⟩)) = .returned (.pointer (some ⟨b, 0, none⟩)) ∧ RefN (W.alloc (.cells #[v] tRn)) b F l ∧ ∀ i, F i → w.heap.size ≤ i := by
  refine ⟨_, fun i => i = W.heap.size ∨ v.ownBlock = some i, rfl, ⟨v, heap_alloc_new W _, ?_, fun i => Iff.rfl⟩, ?_⟩
  · exact mgK.own_base (mgK.own_keeps ho (nbox _ _)) fun i _ => Nat.zero_le i
  · rintro i (rfl | e)
    · exact k.size
    · exact (mgK.own_lt ho i e).1
set_option maxRecDepth 100000 in
theorem nr_copy (b : Nat) (F : Nat → Prop) (l : List Mg) (W : World) (h : RefN W b F l) (hl : l.length ≤ 1000) : Calls Try.prog 11 #[.pointer (some ⟨b, 0, none⟩)] W fun e w' => RNew W w' e l := by
  obtain ⟨v, h1, h2, h3⟩ := h
  obtain ⟨p, c, rfl⟩ := mgK.own_shape h2
  obtain ⟨n, hn⟩ : ∃ n, l.length = n := ⟨_, rfl⟩
  obtain ⟨p', c', w', q1, q2, q3⟩ := mgK.copy_row W (.slice p n c) l (by rw [← hn]; exact mgK.own_src h2) (by omega)
  have y0 := (one_at h1).1
  rw [hn] at y0 q1 q2
  have R1 : Hid ((Builtin.append_ #[tMgs, tMgs] tMgs #[.slice none 0 0, .slice p n c]).run Try.prog W = .ok (.slice p' n c') w') := Lib.hid q1
  have O1 := Lib.hid q2
  have K1 := Lib.hid q3
  clear q1 q2 q3 h1 h2 h3 hn
  go_enter Try.func11, Try.ntmps11
  go_wp2_with (at_builtin; refine wpAppKnown rfl _ _ _ _ rfl _ _ _ _ rfl rfl R1.out ?_)
  go_ret
  exact ⟨ref_box K1.out O1.out, K1.out.trans (nbox _ _)⟩
set_option maxHeartbeats 8000000 in
set_option maxRecDepth 100000 in
theorem nr_send (b : Nat) (F : Nat → Prop) (l : List Mg) (m : Mg) (W : World) (h : RefN W b F l) (hl : l.length ≤ 1000) :
    Calls Try.prog 26 #[.pointer (some ⟨b, 0, none⟩), mgV m] W fun e w' => e = .returned (.bool (room l)) ∧ RGoes W w' b F (send l m) := by
  obtain ⟨w1, hw1⟩ : ∃ w1, W.alloc (mgBox m) = w1 := ⟨_, rfl⟩
  have K1 : Hid (Keeps W w1) := Lib.hid (hw1 ▸ nbox _ _)
  have B1 : Hid (w1.heap[W.heap.size]? = some (mgBox m)) := Lib.hid (hw1 ▸ heap_alloc_new _ _)
  have HR := Lib.hid h
  have HR1 := Lib.hid (h.keeps K1.out)
  obtain ⟨v, h1, h2, h3⟩ := h.keeps K1.out
  obtain ⟨p, c, rfl⟩ := mgK.own_shape h2
  obtain ⟨nG, hnG⟩ : ∃ n, l.length = n := ⟨_, rfl⟩
  have SG := Lib.hid (mgK.own_src h2)
  rw [hnG] at h1 SG
  have HB : Hid (∀ X, Keeps w1 X → X.cell? ⟨b, 0, none⟩ = some (.slice p nG c) ∧ X.frozen? ⟨b, 0, none⟩ = false) := Lib.hid fun X k => one_at (box_keep h1 k)
  have bl : b < W.heap.size := h.lt h.self
  have bl1 : b < w1.heap.size := box_lt h1
  have bn : b ≠ w1.heap.size := Nat.ne_of_lt bl1
  have bm : w1.heap.size ≠ b := Ne.symm bn
  have HM : Hid (∀ X, Only (fun i => i = b) w1 X → X.cell? ⟨W.heap.size, 0, none⟩ = some (.int .i64 m.t) ∧ X.cell? ⟨W.heap.size, 1, none⟩ = some (.int .i64 m.o) ∧ X.cell? ⟨W.heap.size, 2, none⟩ = some (.int .i64 m.k) ∧ X.cell? ⟨W.heap.size, 3, none⟩ = some (.string m.s) ∧ X.cell? ⟨W.heap.size, 4, none⟩ = some (.int .i64 m.q) ∧ X.cell? ⟨W.heap.size, 5, none⟩ = some (.int .i64 m.a) ∧ X.cell? ⟨W.heap.size, 6, none⟩ = some (.int .i64 m.c)) := Lib.hid fun X k =>
    (mg_box_cells ((k.same _ (box_lt B1.out) (by omega)).trans B1.out)).1
  have N1 : Hid (([] : List Mg).length + l.length = nG) := Lib.hid (by rw [hnG]; simp)
  have L1 : Hid (([] : List Mg).length + l.length ≤ 100000) := Lib.hid (by rw [N1.out]; omega)
  have N2 : Hid (([] ++ l).length + [m].length = nG + 1) := Lib.hid (by simp [hnG])
  have L2 : Hid (([] ++ l).length + [m].length ≤ 100000) := Lib.hid (by rw [N2.out]; omega)
  have EW1 := Lib.hid hw1
  obtain ⟨rb, hrb⟩ : ∃ rb, room l = rb := ⟨_, rfl⟩
  have RB : Hid (rb = decide (nG < 1000)) := Lib.hid (by rw [← hrb]; unfold room; rw [hnG])
  obtain ⟨l', hl'⟩ : ∃ l', send l m = l' := ⟨_, rfl⟩
  have SL : Hid (l' = if nG < 1000 then l ++ [m] else l) := Lib.hid (by rw [← hl']; unfold send; rw [hnG])
  have hn1 : nG ≤ 1000 := by omega
  rw [hrb, hl']
  clear h h1 h2 h3 hw1 hnG hrb hl' hl
  unfold mgBox at EW1
  unfold mgV
  obtain ⟨y0, f0⟩ := HB.out _ (Keeps.refl _)
  by_cases hroom : nG < 1000
  · obtain rfl : rb = true := by rw [RB.out]; exact decide_eq_true hroom
    obtain rfl : l' = l ++ [m] := by rw [SL.out, if_pos hroom]
    have hgt : ¬ ((999 : Int) < (nG : Int)) := by omega
    clear RB SL
    go_enter Try.func26, Try.ntmps26
    go_upto_region 1 with (fail)
    rw [EW1.out]
    go_upto_region 3 with (fail)
    clear EW1 y0 f0
    -- region 3
    refine wp_region_held_drew (S := fun W => Only (fun i => i = b) w1 W) (by kernel_rfl) (Only.of_keeps (ndrew _)) (fun hHeld => ?_)
    refine takeH (i := 0) (d := some 11) (v := ?va0) rfl rfl (by kernel_rfl) (by kernel_rfl) (by kernel_rfl) (fun _ _ _ h => h) (Or.inl ⟨by rfl, ?ya0⟩) (by assumption) ?ra0
    case ya0 => (intro W hSw; obtain ⟨x0, x1, x2, x3, x4, x5, x6⟩ := HM.out W hSw; go_simp; try with_reducible rfl)
    try simp only [Act.put, List.setIfInBounds_toArray, List.set_cons_zero, List.set_cons_succ]
    refine takeH (i := 1) (d := some 12) (v := ?va1) rfl rfl (by kernel_rfl) (by kernel_rfl) (by kernel_rfl) (fun _ _ _ h => h) (Or.inl ⟨by rfl, ?ya1⟩) (by assumption) ?ra1
    case ya1 => (intro W hSw; obtain ⟨x0, x1, x2, x3, x4, x5, x6⟩ := HM.out W hSw; go_simp; try with_reducible rfl)
    try simp only [Act.put, List.setIfInBounds_toArray, List.set_cons_zero, List.set_cons_succ]
    refine takeH (i := 2) (d := some 13) (v := ?va2) rfl rfl (by kernel_rfl) (by kernel_rfl) (by kernel_rfl) (fun _ _ _ h => h) (Or.inl ⟨by rfl, ?ya2⟩) (by assumption) ?ra2
    case ya2 => (intro W hSw; obtain ⟨x0, x1, x2, x3, x4, x5, x6⟩ := HM.out W hSw; go_simp; try with_reducible rfl)
    try simp only [Act.put, List.setIfInBounds_toArray, List.set_cons_zero, List.set_cons_succ]
    refine takeH (i := 3) (d := some 14) (v := ?va3) rfl rfl (by kernel_rfl) (by kernel_rfl) (by kernel_rfl) (fun _ _ _ h => h) (Or.inl ⟨by rfl, ?ya3⟩) (by assumption) ?ra3
    case ya3 => (intro W hSw; obtain ⟨x0, x1, x2, x3, x4, x5, x6⟩ := HM.out W hSw; go_simp; try with_reducible rfl)
    try simp only [Act.put, List.setIfInBounds_toArray, List.set_cons_zero, List.set_cons_succ]
    refine takeH (i := 6) (d := some 17) (v := ?va6) rfl rfl (by kernel_rfl) (by kernel_rfl) (by kernel_rfl) (fun _ _ _ h => h) (Or.inl ⟨by rfl, ?ya6⟩) (by assumption) ?ra6
    case ya6 => (intro W hSw; obtain ⟨x0, x1, x2, x3, x4, x5, x6⟩ := HM.out W hSw; go_simp; try with_reducible rfl)
    try simp only [Act.put, List.setIfInBounds_toArray, List.set_cons_zero, List.set_cons_succ]
    refine wpAnyH_ready (rs := [4, 7]) (by kernel_rfl) (by simp) ?_
    refine AllReadyH.cons rfl (fun K hK => ?_) (AllReadyH.cons rfl (fun K hK => ?_) AllReadyH.nil)
    · obtain ⟨y4, f4⟩ := HB.out _ (Keeps.refl _)
      go_simp
      refine hK.out _ _ (Only.of_keeps (ndrew w1)) (fun hHeld => ?_)
      clear hK K
      try simp only [Act.put, List.setIfInBounds_toArray, List.set_cons_zero, List.set_cons_succ]
      clear y4 f4
      refine wpAnyH_ready (rs := [5, 7]) (by kernel_rfl) (by simp) ?_
      refine AllReadyH.cons rfl (fun K hK => ?_) (AllReadyH.cons rfl (fun K hK => ?_) AllReadyH.nil)
      · refine stepAppOwnK mgK rfl _ _ rfl rfl w1.heap.size (ndrew w1).size (.slice none 0 0) _ [] l nG N1.out rfl rfl (mgK.own_nil _ _) (RowK.Src.keeps mgK SG.out (ndrew w1)) L1.out ?_
        intro p5 c5 W5 o5 g5
        have K5 : Keeps w1 W5 := mono_grown (ndrew w1) g5 (fun j hj => by cases hj)
        refine hK.out _ _ (Only.of_keeps K5) (fun hHeld => ?_)
        clear hK K
        try simp only [Act.put, List.setIfInBounds_toArray, List.set_cons_zero, List.set_cons_succ]
        refine wpAnyH_ready (rs := [7]) (by kernel_rfl) (by simp) ?_
        refine AllReadyH.cons rfl (fun K hK => ?_) AllReadyH.nil
        go_simp
        refine hK.out _ _ (Only.of_keeps (Keeps.trans K5 (nbox _ _))) (fun hHeld => ?_)
        clear hK K
        try simp only [Act.put, List.setIfInBounds_toArray, List.set_cons_zero, List.set_cons_succ]
        refine wpAnyH_ready (rs := [8]) (by kernel_rfl) (by simp) ?_
        refine AllReadyH.cons rfl (fun K hK => ?_) AllReadyH.nil
        refine stepAppOwnK mgK rfl _ _ rfl rfl w1.heap.size (Keeps.trans K5 (nbox _ _)).size (.slice p5 nG c5) _ ([] ++ l) [m] (nG + 1) N2.out rfl rfl (mgK.own_keeps o5 (nbox _ _)) (mg_src1 W5 m) L2.out ?_
        intro p6 c6 W6 o6 g6
        have K6 : Keeps w1 W6 := mono_grown (Keeps.trans K5 (nbox _ _)) g6 (fun j hj => (mgK.own_lt o5 j hj).1)
        refine hK.out _ _ (Only.of_keeps K6) (fun hHeld => ?_)
        clear hK K
        try simp only [Act.put, List.setIfInBounds_toArray, List.set_cons_zero, List.set_cons_succ]
        refine takeH (i := 9) (d := some 20) (v := ?vb9) rfl rfl (by kernel_rfl) (by kernel_rfl) (by kernel_rfl) (fun _ _ _ h => h) (Or.inl ⟨by rfl, ?yb9⟩) (by assumption) ?rb9
        case yb9 => (intro W hSw; obtain ⟨x0, x1, x2, x3, x4, x5, x6⟩ := HM.out W hSw; go_simp; try with_reducible rfl)
        try simp only [Act.put, List.setIfInBounds_toArray, List.set_cons_zero, List.set_cons_succ]
        refine takeH (i := 10) (d := some 21) (v := ?vb10) rfl rfl (by kernel_rfl) (by kernel_rfl) (by kernel_rfl) (fun _ _ _ h => h) (Or.inl ⟨by rfl, ?yb10⟩) (by assumption) ?rb10
        case yb10 => (intro W hSw; obtain ⟨x0, x1, x2, x3, x4, x5, x6⟩ := HM.out W hSw; go_simp; try with_reducible rfl)
        try simp only [Act.put, List.setIfInBounds_toArray, List.set_cons_zero, List.set_cons_succ]
        refine wpAnyH_ready (rs := [11]) (by kernel_rfl) (by simp) ?_
        refine AllReadyH.cons rfl (fun K hK => ?_) AllReadyH.nil
        obtain ⟨y6, f6⟩ := HB.out _ K6
        go_simp
        refine hK.out _ _ ((Only.of_keeps K6).trans (Only.cell _)) (fun hHeld => ?_)
        clear hK K
        try simp only [Act.put, List.setIfInBounds_toArray, List.set_cons_zero, List.set_cons_succ]
        refine wpAnyH_done (by kernel_rfl) ?_ _
        go_wp2
        go_ret
        exact ⟨rfl, (ref_put HR1.out K6 o6).from K1.out⟩
      · go_simp
        refine hK.out _ _ (Only.of_keeps (show Keeps w1 ((w1.drew).alloc (.cells #[.int .i64 m.t, .int .i64 m.o, .int .i64 m.k, .string m.s, .int .i64 m.q, .int .i64 m.a, .int .i64 m.c] tMg)) from Keeps.trans (ndrew _) (nbox _ _))) (fun hHeld => ?_)
        clear hK K
        try simp only [Act.put, List.setIfInBounds_toArray, List.set_cons_zero, List.set_cons_succ]
        refine wpAnyH_ready (rs := [5]) (by kernel_rfl) (by simp) ?_
        refine AllReadyH.cons rfl (fun K hK => ?_) AllReadyH.nil
        refine stepAppOwnK mgK rfl _ _ rfl rfl w1.heap.size (show Keeps w1 ((w1.drew).alloc (.cells #[.int .i64 m.t, .int .i64 m.o, .int .i64 m.k, .string m.s, .int .i64 m.q, .int .i64 m.a, .int .i64 m.c] tMg)) from Keeps.trans (ndrew _) (nbox _ _)).size (.slice none 0 0) _ [] l nG N1.out rfl rfl (mgK.own_nil _ _) (RowK.Src.keeps mgK SG.out (show Keeps w1 ((w1.drew).alloc (.cells #[.int .i64 m.t, .int .i64 m.o, .int .i64 m.k, .string m.s, .int .i64 m.q, .int .i64 m.a, .int .i64 m.c] tMg)) from Keeps.trans (ndrew _) (nbox _ _))) L1.out ?_
        intro p5 c5 W5 o5 g5
        have K5 : Keeps w1 W5 := mono_grown (show Keeps w1 ((w1.drew).alloc (.cells #[.int .i64 m.t, .int .i64 m.o, .int .i64 m.k, .string m.s, .int .i64 m.q, .int .i64 m.a, .int .i64 m.c] tMg)) from Keeps.trans (ndrew _) (nbox _ _)) g5 (fun j hj => by cases hj)
        refine hK.out _ _ (Only.of_keeps K5) (fun hHeld => ?_)
        clear hK K
        try simp only [Act.put, List.setIfInBounds_toArray, List.set_cons_zero, List.set_cons_succ]
        refine wpAnyH_ready (rs := [8]) (by kernel_rfl) (by simp) ?_
        refine AllReadyH.cons rfl (fun K hK => ?_) AllReadyH.nil
        refine stepAppOwnK mgK rfl _ _ rfl rfl w1.heap.size (Keeps.trans K5 (Keeps.refl _)).size (.slice p5 nG c5) _ ([] ++ l) [m] (nG + 1) N2.out rfl rfl (o5) (RowK.Src.keeps mgK (mg_src1 w1.drew m) (mono_grown (Keeps.refl _) g5 (fun j hj => by cases hj))) L2.out ?_
        intro p6 c6 W6 o6 g6
        have K6 : Keeps w1 W6 := mono_grown (Keeps.trans K5 (Keeps.refl _)) g6 (fun j hj => (mgK.own_lt o5 j hj).1)
        refine hK.out _ _ (Only.of_keeps K6) (fun hHeld => ?_)
        clear hK K
        try simp only [Act.put, List.setIfInBounds_toArray, List.set_cons_zero, List.set_cons_succ]
        refine takeH (i := 9) (d := some 20) (v := ?vc9) rfl rfl (by kernel_rfl) (by kernel_rfl) (by kernel_rfl) (fun _ _ _ h => h) (Or.inl ⟨by rfl, ?yc9⟩) (by assumption) ?rc9
        case yc9 => (intro W hSw; obtain ⟨x0, x1, x2, x3, x4, x5, x6⟩ := HM.out W hSw; go_simp; try with_reducible rfl)
        try simp only [Act.put, List.setIfInBounds_toArray, List.set_cons_zero, List.set_cons_succ]
        refine takeH (i := 10) (d := some 21) (v := ?vc10) rfl rfl (by kernel_rfl) (by kernel_rfl) (by kernel_rfl) (fun _ _ _ h => h) (Or.inl ⟨by rfl, ?yc10⟩) (by assumption) ?rc10
        case yc10 => (intro W hSw; obtain ⟨x0, x1, x2, x3, x4, x5, x6⟩ := HM.out W hSw; go_simp; try with_reducible rfl)
        try simp only [Act.put, List.setIfInBounds_toArray, List.set_cons_zero, List.set_cons_succ]
        refine wpAnyH_ready (rs := [11]) (by kernel_rfl) (by simp) ?_
        refine AllReadyH.cons rfl (fun K hK => ?_) AllReadyH.nil
        obtain ⟨y6, f6⟩ := HB.out _ K6
        go_simp
        refine hK.out _ _ ((Only.of_keeps K6).trans (Only.cell _)) (fun hHeld => ?_)
        clear hK K
        try simp only [Act.put, List.setIfInBounds_toArray, List.set_cons_zero, List.set_cons_succ]
        refine wpAnyH_done (by kernel_rfl) ?_ _
        go_wp2
        go_ret
        exact ⟨rfl, (ref_put HR1.out K6 o6).from K1.out⟩
    · go_simp
      refine hK.out _ _ (Only.of_keeps (show Keeps w1 ((w1.drew).alloc (.cells #[.int .i64 m.t, .int .i64 m.o, .int .i64 m.k, .string m.s, .int .i64 m.q, .int .i64 m.a, .int .i64 m.c] tMg)) from Keeps.trans (ndrew _) (nbox _ _))) (fun hHeld => ?_)
      clear hK K
      try simp only [Act.put, List.setIfInBounds_toArray, List.set_cons_zero, List.set_cons_succ]
      refine wpAnyH_ready (rs := [4]) (by kernel_rfl) (by simp) ?_
      refine AllReadyH.cons rfl (fun K hK => ?_) AllReadyH.nil
      obtain ⟨y4, f4⟩ := HB.out _ (Keeps.refl _)
      go_simp
      refine hK.out _ _ (Only.of_keeps (show Keeps w1 ((w1.drew).alloc (.cells #[.int .i64 m.t, .int .i64 m.o, .int .i64 m.k, .string m.s, .int .i64 m.q, .int .i64 m.a, .int .i64 m.c] tMg)) from Keeps.trans (ndrew _) (nbox _ _))) (fun hHeld => ?_)
      clear hK K
      try simp only [Act.put, List.setIfInBounds_toArray, List.set_cons_zero, List.set_cons_succ]
      clear y4 f4
      refine wpAnyH_ready (rs := [5]) (by kernel_rfl) (by simp) ?_
      refine AllReadyH.cons rfl (fun K hK => ?_) AllReadyH.nil
      refine stepAppOwnK mgK rfl _ _ rfl rfl w1.heap.size (show Keeps w1 ((w1.drew).alloc (.cells #[.int .i64 m.t, .int .i64 m.o, .int .i64 m.k, .string m.s, .int .i64 m.q, .int .i64 m.a, .int .i64 m.c] tMg)) from Keeps.trans (ndrew _) (nbox _ _)).size (.slice none 0 0) _ [] l nG N1.out rfl rfl (mgK.own_nil _ _) (RowK.Src.keeps mgK SG.out (show Keeps w1 ((w1.drew).alloc (.cells #[.int .i64 m.t, .int .i64 m.o, .int .i64 m.k, .string m.s, .int .i64 m.q, .int .i64 m.a, .int .i64 m.c] tMg)) from Keeps.trans (ndrew _) (nbox _ _))) L1.out ?_
      intro p5 c5 W5 o5 g5
      have K5 : Keeps w1 W5 := mono_grown (show Keeps w1 ((w1.drew).alloc (.cells #[.int .i64 m.t, .int .i64 m.o, .int .i64 m.k, .string m.s, .int .i64 m.q, .int .i64 m.a, .int .i64 m.c] tMg)) from Keeps.trans (ndrew _) (nbox _ _)) g5 (fun j hj => by cases hj)
      refine hK.out _ _ (Only.of_keeps K5) (fun hHeld => ?_)
      clear hK K
      try simp only [Act.put, List.setIfInBounds_toArray, List.set_cons_zero, List.set_cons_succ]
      refine wpAnyH_ready (rs := [8]) (by kernel_rfl) (by simp) ?_
      refine AllReadyH.cons rfl (fun K hK => ?_) AllReadyH.nil
      refine stepAppOwnK mgK rfl _ _ rfl rfl w1.heap.size (Keeps.trans K5 (Keeps.refl _)).size (.slice p5 nG c5) _ ([] ++ l) [m] (nG + 1) N2.out rfl rfl (o5) (RowK.Src.keeps mgK (mg_src1 w1.drew m) (mono_grown (Keeps.refl _) g5 (fun j hj => by cases hj))) L2.out ?_
      intro p6 c6 W6 o6 g6
      have K6 : Keeps w1 W6 := mono_grown (Keeps.trans K5 (Keeps.refl _)) g6 (fun j hj => (mgK.own_lt o5 j hj).1)
      refine hK.out _ _ (Only.of_keeps K6) (fun hHeld => ?_)
      clear hK K
      try simp only [Act.put, List.setIfInBounds_toArray, List.set_cons_zero, List.set_cons_succ]
      refine takeH (i := 9) (d := some 20) (v := ?vd9) rfl rfl (by kernel_rfl) (by kernel_rfl) (by kernel_rfl) (fun _ _ _ h => h) (Or.inl ⟨by rfl, ?yd9⟩) (by assumption) ?rd9
      case yd9 => (intro W hSw; obtain ⟨x0, x1, x2, x3, x4, x5, x6⟩ := HM.out W hSw; go_simp; try with_reducible rfl)
      try simp only [Act.put, List.setIfInBounds_toArray, List.set_cons_zero, List.set_cons_succ]
      refine takeH (i := 10) (d := some 21) (v := ?vd10) rfl rfl (by kernel_rfl) (by kernel_rfl) (by kernel_rfl) (fun _ _ _ h => h) (Or.inl ⟨by rfl, ?yd10⟩) (by assumption) ?rd10
      case yd10 => (intro W hSw; obtain ⟨x0, x1, x2, x3, x4, x5, x6⟩ := HM.out W hSw; go_simp; try with_reducible rfl)
      try simp only [Act.put, List.setIfInBounds_toArray, List.set_cons_zero, List.set_cons_succ]
      refine wpAnyH_ready (rs := [11]) (by kernel_rfl) (by simp) ?_
      refine AllReadyH.cons rfl (fun K hK => ?_) AllReadyH.nil
      obtain ⟨y6, f6⟩ := HB.out _ K6
      go_simp
      refine hK.out _ _ ((Only.of_keeps K6).trans (Only.cell _)) (fun hHeld => ?_)
      clear hK K
      try simp only [Act.put, List.setIfInBounds_toArray, List.set_cons_zero, List.set_cons_succ]
      refine wpAnyH_done (by kernel_rfl) ?_ _
      go_wp2
      go_ret
      exact ⟨rfl, (ref_put HR1.out K6 o6).from K1.out⟩
    -- region 3 end
  · obtain rfl : rb = false := by rw [RB.out]; exact decide_eq_false hroom
    obtain rfl : l' = l := by rw [SL.out, if_neg hroom]
    have hgt : (999 : Int) < (nG : Int) := by omega
    clear RB SL
    go_enter Try.func26, Try.ntmps26
    go_upto_region 1 with (fail)
    rw [EW1.out]
    go_wp2
    go_ret
    exact ⟨rfl, RGoes.same HR.out K1.out⟩
end Nt
end Go.Proofs.Ytajphjlfefhajaa
