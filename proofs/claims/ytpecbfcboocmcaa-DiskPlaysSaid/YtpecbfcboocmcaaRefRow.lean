
/- The document's own disk: rows of files appended, fails, with. -/
import Derived.Test.YtpecbfcboocmcaaRefOps
import Derived.Deep.AppendLies
import Derived.Test.YtpecbfcboocmcaaDiskOps4
import Derived.Outline
import Derived.RegionTactic
import Derived.ChangeAlike
set_option linter.unusedVariables false
namespace Go.Proofs.Ytpecbfcboocmcaa
open Go.ChangeShapes Go.WideShapes Go.ChangeAt Go.RowKit Go.Maps Csv Dk

/-- 'append' in a region that draws its order, whose run is known. -/
theorem step_append_known {P : Program} {w : World} {ops : Array Oper} {o : Oper} {a : Act} {K : Act → World → Prop} {Q : Exit → Act → World → Prop} {E : Prop} (hgd : o.guard = none) (sl x : Operand) (t u : TypeId)
    (ho : o.op = .call { callee := .builtin .append, args := #[sl, x], argTypes := #[t, u] }) (v y v' : Value) (w' : World) (hs : a.eval sl = v) (hx : a.eval x = y)
    (hr : (Builtin.append_ #[t, u] o.type #[v, y]).run P w = .ok v' w') (h : K (a.put o.dst v') w') : if Region.wanted o (yielded ops a.tmps) = true then Oper.wp P o a w K Q else E := by
  have hw : Region.wanted o (yielded ops a.tmps) = true := by simp [Region.wanted, hgd]
  rw [if_pos hw]
  unfold Oper.wp execOp
  simp only [ho, resolve, invoke, builtin, Sem.run_bind, Sem.run_pure, Result.andThen_ok, List.map_toArray, List.map_cons, List.map_nil, hs, hx, hr]
  exact h

theorem info_fr : (Try.prog.info? tFr).map (fun i => (i.zero, i.size, i.bytes)) = some (some (.agg #[.int .i64 0, .string ⟨#[]⟩, .int .i64 0]), 3, 32) := by kernel_rfl
theorem fcells_one (l : List FileM) : ∀ u ∈ rcells l, u.oneCell' = true := by
  intro u hu
  obtain ⟨f, _, hu⟩ := List.mem_flatMap.1 hu
  simp only [fcells, List.mem_cons, List.not_mem_nil, or_false] at hu
  rcases hu with rfl | rfl | rfl <;> rfl
/-- Files that are read from a place on. -/
def Src (w : World) (v : Value) (L : List FileM) : Prop := ∃ p c, v = .slice p L.length c ∧ (p = none → L = [] ∧ c = 0) ∧ ∀ a, p = some a → ∀ j u, (rcells L)[j]? = some u → w.cell? (a.add j) = some u
theorem Src.keeps {w w' : World} {v : Value} {L : List FileM} (h : Src w v L) (k : Keeps w w') : Src w' v L := by
  obtain ⟨p, c, h1, h2, h3⟩ := h
  exact ⟨p, c, h1, h2, fun a ha j u hu => cell_keeps k (h3 a ha j u hu)⟩
theorem own_src {w : World} {B : Nat} {v : Value} {L : List FileM} (h : w.ownsRow B tFr 3 v L.length (rcells L)) : Src w v L := by
  have hh := h
  rcases h.2 with ⟨rfl, h0⟩ | ⟨g, cap, cur, rfl, hb, hg, r1, r2, r3, r4⟩
  · exact ⟨none, 0, by rw [h0], fun _ => ⟨List.length_eq_zero_iff.1 h0, rfl⟩, fun a ha => by cases ha⟩
  · exact ⟨_, cap, rfl, (fun e => by cases e), fun a ha j u hu => by cases ha; exact hh.cells rfl j u hu⟩
theorem app_row (w : World) (B : Nat) (v : Value) (L : List FileM) (src : Value) (M : List FileM) (hown : w.ownsRow B tFr 3 v L.length (rcells L)) (hs : Src w src M) (hn : L.length + M.length ≤ 1000) (hB : B ≤ w.heap.size) :
    ∃ p' c' w', (Builtin.append_ #[tFs, tFs] tFs #[v, src]).run Try.prog w = .ok (.slice p' (L.length + M.length) c') w' ∧ w'.ownsRow B tFr 3 (.slice p' (L.length + M.length) c') (L ++ M).length (rcells (L ++ M)) ∧ w.grownBy w' v.ownBlock := by
  obtain ⟨i, hi, hz, hsz, hb⟩ := info_parts info_fr
  obtain ⟨p, c, rfl, h1, h2⟩ := hs
  cases p with
  | none =>
    obtain ⟨rfl, rfl⟩ := h1 rfl
    have hr := run_append_owned_none (P := Try.prog) w B tFs tFs tFr i 3 Try.underlying37 hi v L.length (rcells L) hown
    obtain ⟨p', c', rfl⟩ : ∃ p c, v = .slice p L.length c := by
      rcases hown.2 with ⟨rfl, h0⟩ | ⟨g, cap, cur, rfl, _⟩
      · exact ⟨none, 0, by rw [h0]⟩
      · exact ⟨_, _, rfl⟩
    exact ⟨p', c', w, hr, by simpa using hown, ⟨rfl, rfl, rfl, Nat.le_refl _, fun _ _ _ => rfl⟩⟩
  | some a =>
    obtain ⟨v', w', q1, q2, q3, _⟩ := run_append_own (P := Try.prog) w B tFs tFs tFr i _ 3 32 Try.underlying37 hi hz hsz hb rfl (by omega) v L.length (rcells L) hown a M.length c (rcells M) (rcells_len M) (h2 a rfl) (fcells_one M) (by unfold maxLen; omega) (by omega) hB
    obtain ⟨p', c', rfl⟩ : ∃ p c, v' = .slice p (L.length + M.length) c := by
      rcases q2.2 with ⟨rfl, h0⟩ | ⟨g, cap, cur, rfl, _⟩
      · exact ⟨none, 0, by rw [h0]⟩
      · exact ⟨_, _, rfl⟩
    exact ⟨p', c', w', q1, by rw [rcells_app, List.length_append]; exact q2, q3⟩
theorem shape3 {w : World} {B : Nat} {e : TypeId} {sz : Nat} {v : Value} {n : Nat} {xs : List Value} (h : w.ownsRow B e sz v n xs) : ∃ p c, v = .slice p n c := by
  rcases h.2 with ⟨rfl, rfl⟩ | ⟨g, cap, cur, rfl, _⟩
  · exact ⟨_, _, rfl⟩
  · exact ⟨_, _, rfl⟩
/-- A copy of a row. -/
theorem copy_row (w : World) (src : Value) (M : List FileM) (hs : Src w src M) (hn : M.length ≤ 1000) :
    ∃ p' c' w', (Builtin.append_ #[tFs, tFs] tFs #[.slice none 0 0, src]).run Try.prog w = .ok (.slice p' M.length c') w' ∧ w'.ownsRow w.heap.size tFr 3 (.slice p' M.length c') M.length (rcells M) ∧ Keeps w w' := by
  obtain ⟨p', c', w', q1, q2, q3⟩ := app_row w w.heap.size (.slice none 0 0) [] src M (World.ownsRow_nil _ _ _ _) hs (by simpa using hn) (Nat.le_refl _)
  simp only [List.length_nil, Nat.zero_add, List.nil_append] at q1 q2
  exact ⟨p', c', w', q1, q2, ⟨q3.os, q3.tape, q3.output, q3.size, fun i hi => q3.block i hi (by simp [Value.ownBlock])⟩⟩

/-! ### fails -/
section
variable {w w' : World} {r : Nat} {vL vK : Value} {ks : List Int} {D : DiskM}
theorem rfails_no (h : RefAt w r vL vK ks D) (hc : D.count.1 = 0) : Calls Try.prog 45 #[ptrV r] w fun e w' => e = .returned (.bool false) ∧ RefAt w' r vL vK ks D.count.2 ∧ w.grownBy w' (some r) := by
  obtain ⟨c0, c1, c2, c3, c4, c5, fz⟩ := h.cells
  have f4 := fz 4
  rcases h.fail with hf | ⟨a, hf, ha⟩
  · have e : D.count = (0, D) := by unfold DiskM.count; rw [hf]
    rw [e]
    have c4' : w.cell? ⟨r, 4, none⟩ = some (.int .i64 0) := by rw [c4, hf]; rfl
    have H := Lib.hid h
    clear h hc e hf c0 c1 c2 c3 c4 c5 fz f4
    unfold ptrV
    go_enter Try.func45, Try.ntmps45
    go_wp2
    go_ret
    exact ⟨rfl, H.out, rfl, rfl, rfl, Nat.le_refl _, fun _ _ _ => rfl⟩
  · cases a with
    | zero => exfalso; unfold DiskM.count at hc; rw [hf] at hc; simp at hc
    | succ a =>
      have e : D.count = (0, ⟨D.cap, D.files, D.up, D.starts, some (a, ks)⟩) := by unfold DiskM.count; rw [hf]
      have c4' : w.cell? ⟨r, 4, none⟩ = some (.int .i64 ((a + 2 : Nat) : Int)) := by rw [c4, hf]; rfl
      have key : ∀ w4, w4 = w.setCell ⟨r, 4, none⟩ (.int .i64 ((a + 1 : Nat) : Int)) → RefAt w4 r vL vK ks D.count.2 ∧ w.grownBy w4 (some r) := by
        rintro w4 rfl
        have b1 := Joins.block_setCell (i := 4) h.ref (.int .i64 ((a + 1 : Nat) : Int))
        have o : ∀ b, b ≠ r → (w.setCell ⟨r, 4, none⟩ (.int .i64 ((a + 1 : Nat) : Int))).heap[b]? = w.heap[b]? := fun b hb => Below.heap_setCell _ _ _ _ hb
        have hok := h.okay.count
        rw [e] at hok ⊢
        exact ⟨RefAt.turn (by rw [b1]; rfl) (own_local h.row fun g hg => o g fun e => h.r_ne.1 (e ▸ hg)) (own_local h.kept fun g hg => o g fun e => h.r_ne.2 (e ▸ hg)) (Or.inr ⟨a, rfl, by omega⟩) hok, grown_setCell _ _ _ _⟩
      obtain ⟨x1, hx1⟩ : ∃ x1, a + 1 = x1 := ⟨_, rfl⟩
      obtain ⟨x2, hx2⟩ : ∃ x2, a + 2 = x2 := ⟨_, rfl⟩
      rw [hx1] at key
      rw [hx2] at c4'
      have KEY := Lib.hid key
      have t0 : ((x2 : Int) == 0) = false := by rw [beq_eq_false_iff_ne]; omega
      have t1 : (x2 : Int) - 1 = (x1 : Int) := by omega
      have t2 : ((x1 : Int) == 0) = false := by rw [beq_eq_false_iff_ne]; omega
      have ha2 : x2 ≤ 1099511627777 := by omega
      have ha3 : 1 ≤ x2 := by omega
      clear h hc e hf c0 c1 c2 c3 c4 c5 fz key ha hx1 hx2
      unfold ptrV
      go_enter Try.func45, Try.ntmps45
      go_wp2
      go_ret
      exact ⟨rfl, KEY.out _ rfl⟩
theorem rfails_yes (h : RefAt w r vL vK ks D) (hc : D.count.1 = 61) : D.count.2 = D.down ks ∧ Calls Try.prog 45 #[ptrV r] w fun e w' => e = .returned (.bool true) ∧ RefAt w' r vL vK ks ⟨D.cap, D.files, D.up, D.starts, none⟩ ∧ w.grownBy w' (some r) := by
  obtain ⟨c0, c1, c2, c3, c4, c5, fz⟩ := h.cells
  have f4 := fz 4
  rcases h.fail with hf | ⟨a, hf, ha⟩
  · exfalso; unfold DiskM.count at hc; rw [hf] at hc; simp at hc
  · cases a with
    | succ a => exfalso; unfold DiskM.count at hc; rw [hf] at hc; simp at hc
    | zero =>
      refine ⟨by unfold DiskM.count; rw [hf], ?_⟩
      have c4' : w.cell? ⟨r, 4, none⟩ = some (.int .i64 1) := by rw [c4, hf]; rfl
      have key : ∀ w4, w4 = w.setCell ⟨r, 4, none⟩ (.int .i64 0) → RefAt w4 r vL vK ks ⟨D.cap, D.files, D.up, D.starts, none⟩ ∧ w.grownBy w4 (some r) := by
        rintro w4 rfl
        have b1 := Joins.block_setCell (i := 4) h.ref (.int .i64 0)
        have o : ∀ b, b ≠ r → (w.setCell ⟨r, 4, none⟩ (.int .i64 0)).heap[b]? = w.heap[b]? := fun b hb => Below.heap_setCell _ _ _ _ hb
        have ho := h.okay
        exact ⟨RefAt.turn (by rw [b1]; rfl) (own_local h.row fun g hg => o g fun e => h.r_ne.1 (e ▸ hg)) (own_local h.kept fun g hg => o g fun e => h.r_ne.2 (e ▸ hg)) (Or.inl rfl) ⟨ho.cap, ho.many, ho.rising, ho.nums, ho.sure, ho.room, (fun a ks h => by cases h)⟩, grown_setCell _ _ _ _⟩
      have KEY := Lib.hid key
      clear h hc hf c0 c1 c2 c3 c4 c5 fz key ha
      unfold ptrV
      go_enter Try.func45, Try.ntmps45
      go_wp2
      go_ret
      exact ⟨rfl, KEY.out _ rfl⟩
end

/-! ### with -/
theorem rcells_set {L : List FileM} {i : Nat} (f : FileM) (hi : i < L.length) : rcells (L.set i f) = (((rcells L).set (i * 3) (.int .i64 f.n)).set (i * 3 + 1) (sv f.data)).set (i * 3 + 2) (.int .i64 (f.sure : Int)) := by
  apply List.ext_getElem?
  intro k
  have hlen : (rcells L).length = L.length * 3 := rcells_len L
  have hlen2 : (rcells (L.set i f)).length = L.length * 3 := by rw [rcells_len, List.length_set]
  by_cases hk : k < L.length * 3
  · obtain ⟨j, q, hj, hq, rfl⟩ : ∃ j q, j < L.length ∧ q < 3 ∧ k = j * 3 + q := ⟨k / 3, k % 3, by omega, by omega, by omega⟩
    by_cases hij : j = i
    · subst hij
      rw [rcells_at (f := f) (by simp [hi]) q hq]
      have h0 : j * 3 < (rcells L).length := by omega
      have hq' : q = 0 ∨ q = 1 ∨ q = 2 := by omega
      rcases hq' with rfl | rfl | rfl
      · simp [fcells, h0]
      · simp [List.getElem?_set, fcells]; omega
      · simp [List.getElem?_set, fcells]; omega
    · obtain ⟨g, hg⟩ : ∃ g, L[j]? = some g := ⟨_, List.getElem?_eq_getElem hj⟩
      rw [rcells_at (f := g) (by rw [List.getElem?_set_ne (by omega)]; exact hg) q hq, ← rcells_at hg q hq]
      rw [List.getElem?_set_ne (by omega), List.getElem?_set_ne (by omega), List.getElem?_set_ne (by omega)]
  · rw [List.getElem?_eq_none (by omega), List.getElem?_eq_none (by simp; omega)]

theorem row_three {W W' : World} {B g c i : Nat} {L : List FileM} {f : FileM} (h : W.ownsRow B tFr 3 (.slice (some ⟨g, 0, none⟩) L.length c) L.length (rcells L)) (hi : i < L.length)
    (hW : W'.heap[g]? = (((W.setCell ⟨g, i * 3, none⟩ (.int .i64 f.n)).setCell ⟨g, i * 3 + 1, none⟩ (sv f.data)).setCell ⟨g, i * 3 + 2, none⟩ (.int .i64 (f.sure : Int))).heap[g]?) :
    W'.ownsRow B tFr 3 (.slice (some ⟨g, 0, none⟩) L.length c) (L.set i f).length (rcells (L.set i f)) := by
  rcases h.2 with ⟨e, _⟩ | ⟨g', cap, cur, e, hb, hg, r1, r2, r3, r4⟩
  · cases e
  · cases e
    have b1 := Joins.block_setCell (i := i * 3) hg (.int .i64 f.n)
    have b2 := Joins.block_setCell (i := i * 3 + 1) b1 (sv f.data)
    have b3 := Joins.block_setCell (i := i * 3 + 2) b2 (.int .i64 (f.sure : Int))
    rw [b3] at hW
    refine ⟨by rw [rcells_len], Or.inr ⟨g, c, _, by rw [List.length_set], hb, hW, by rw [List.length_set]; exact r1, r2, by simpa using r3, ?_⟩⟩
    rw [rcells_set f hi, ← r4, List.length_set]
    simp only [Array.toList_setIfInBounds, List.take_set]
set_option maxRecDepth 100000 in
set_option maxHeartbeats 2000000 in
theorem rwith_any (r : Nat) (vL vK : Value) (ks : List Int) (D : DiskM) (i : Nat) (f : FileM) (w : World) (h : RefAt w r vL vK ks D) (hi : i < D.files.length) (ho : Okay (D.put (D.files.set i f))) :
    Calls Try.prog 47 #[ptrV r, .int .i64 (i : Int), .agg #[.int .i64 f.n, sv f.data, .int .i64 (f.sure : Int)]] w fun e w' => e = .returned (.tuple #[]) ∧ ∃ vL', RefAt w' r vL' vK ks (D.put (D.files.set i f)) ∧ Frame [r] w w' ∧ ∀ b, vL'.ownBlock = some b → w.heap.size ≤ b := by
  have hmany := h.okay.many
  have hrlt := block_lt h.ref
  obtain ⟨pL, cL, rfl⟩ := shape3 h.row
  obtain ⟨W0, hW0⟩ : ∃ W0, w.alloc (.cells #[.int .i64 f.n, sv f.data, .int .i64 (f.sure : Int)] tFr) = W0 := ⟨_, rfl⟩
  have hk0 : Keeps w W0 := by rw [← hW0]; exact keeps_lit _ _
  have h0 := h.keeps hk0
  obtain ⟨_, cw1, _⟩ := h.cells
  obtain ⟨p', c', W1, q1, q2, q3⟩ := copy_row W0 _ D.files (own_src h0.row) (by omega)
  obtain ⟨g, hp⟩ : ∃ g, p' = some ⟨g, 0, none⟩ := by
    rcases q2.2 with ⟨e, e0⟩ | ⟨g, cap, cur, e, _⟩
    · omega
    · cases e; exact ⟨g, rfl⟩
  subst hp
  have hgB : W0.heap.size ≤ g := (q2.lt g rfl).1
  have hglt : g < W1.heap.size := (q2.lt g rfl).2
  have hB0 : W0.heap.size = w.heap.size + 1 := by rw [← hW0]; simp
  have h1 := h0.keeps q3
  obtain ⟨_, c1, _, _, _, _, fz⟩ := h0.cells
  obtain ⟨_, d1, _, _, _, _, fz1⟩ := h1.cells
  have f1 := fz1 1
  have b0 : W1.cell? ⟨w.heap.size, 0, none⟩ = some (.int .i64 f.n) ∧ W1.cell? ⟨w.heap.size, 1, none⟩ = some (sv f.data) ∧ W1.cell? ⟨w.heap.size, 2, none⟩ = some (.int .i64 (f.sure : Int)) := by
    have hb : W1.heap[w.heap.size]? = some (.cells #[.int .i64 f.n, sv f.data, .int .i64 (f.sure : Int)] tFr (0, 0)) := (q3.block _ (by omega)).trans (by rw [← hW0]; exact heap_alloc_new w _)
    exact ⟨Joins.cell_of_block hb 0, Joins.cell_of_block hb 1, Joins.cell_of_block hb 2⟩
  obtain ⟨N, hN⟩ : ∃ N, D.files.length = N := ⟨_, rfl⟩
  obtain ⟨y, hy⟩ : ∃ y, D.files[i]? = some y := ⟨_, List.getElem?_eq_getElem hi⟩
  have hold : ∀ q, q < 3 → W1.cell? ⟨g, i * 3 + q, none⟩ = (fcells y)[q]? ∧ W1.frozen? ⟨g, i * 3 + q, none⟩ = false := fun q hq => ⟨by rw [q2.cellAt (i * 3 + q) (by omega), rcells_at hy q hq], q2.frozenAt _⟩
  have o0 := hold 0 (by omega)
  have o1 := hold 1 (by omega)
  have o2 := hold 2 (by omega)
  rw [← hW0] at q1
  have Q1 := Lib.hid q1
  have Q2 := Lib.hid q2
  have HH := Lib.hid h1
  have HO := Lib.hid ho
  have K3 := Lib.hid q3
  have K0 := Lib.hid hk0
  have hgr : g ≠ r := by omega
  have hgw : g ≠ w.heap.size := by omega
  rw [hN] at Q1 hi cw1 d1
  have hi1 : (i : Int) < (N : Int) := by omega
  simp only [fcells, List.getElem?_cons_zero, List.getElem?_cons_succ, Nat.add_zero] at o0 o1 o2
  obtain ⟨o0, o0f⟩ := o0
  obtain ⟨o1, o1f⟩ := o1
  obtain ⟨o2, o2f⟩ := o2
  obtain ⟨b00, b01, b02⟩ := b0
  have HN := Lib.hid hN
  clear q1 q2 q3 hk0 h h0 h1 ho hold hmany fz fz1 hy hN hW0 c1
  unfold ptrV
  go_enter Try.func47, Try.ntmps47
  go_wp2_with (at_builtin; refine wpList_append_known rfl _ _ _ _ rfl _ _ _ _ rfl rfl Q1.out ?_)
  obtain ⟨W2, hW2⟩ : ∃ W2, W1.setCell ⟨r, 1, none⟩ (.slice (some ⟨g, 0, none⟩) N c') = W2 := ⟨_, rfl⟩
  rw [hW2]
  have far : ∀ b j, b ≠ r → W2.cell? ⟨b, j, none⟩ = W1.cell? ⟨b, j, none⟩ := fun b j hb => by rw [← hW2]; exact World.cell?_of_block (Below.heap_setCell _ _ _ _ hb)
  have farf : ∀ b j, b ≠ r → W2.frozen? ⟨b, j, none⟩ = W1.frozen? ⟨b, j, none⟩ := fun b j hb => by rw [← hW2]; exact World.frozen?_of_block (Below.heap_setCell _ _ _ _ hb)
  rw [← far _ _ hgr] at o0 o1 o2
  rw [← farf _ _ hgr] at o0f o1f o2f
  have hwr : w.heap.size ≠ r := by omega
  rw [← far _ _ hwr] at b00 b01 b02
  have e1 : W2.cell? ⟨r, 1, none⟩ = some (.slice (some ⟨g, 0, none⟩) N c') := by
    rw [← hW2]; exact World.cell?_setCell_same W1 _ _ d1
  have HW2 := Lib.hid hW2
  clear hW2 far farf d1 f1
  go_region
  go_end0
  refine ⟨rfl, .slice (some ⟨g, 0, none⟩) N c', ?_, ?_, fun b hb => by cases hb; show w.heap.size ≤ g; omega⟩
  · have hNN := HN.out
    have q2 := Q2.out
    have blk2 : ∀ b, b ≠ r → W2.heap[b]? = W1.heap[b]? := fun b hb => by rw [← HW2.out]; exact Below.heap_setCell _ _ _ _ hb
    have row2 : W2.ownsRow W0.heap.size tFr 3 (.slice (some ⟨g, 0, none⟩) D.files.length c') D.files.length (rcells D.files) := own_local q2 fun b hb => by cases hb; exact blk2 g hgr
    have row3 := row_three (f := f) row2 (by rw [hNN]; exact hi) (W' := (((W2.setCell ⟨g, i * 3, none⟩ (.int .i64 f.n)).setCell ⟨g, i * 3 + 1, none⟩ (sv f.data)).setCell ⟨g, i * 3 + 2, none⟩ (.int .i64 (f.sure : Int))).drew) rfl
    rw [hNN] at row3
    have o : ∀ b, b ≠ g → (((W2.setCell ⟨g, i * 3, none⟩ (.int .i64 f.n)).setCell ⟨g, i * 3 + 1, none⟩ (sv f.data)).setCell ⟨g, i * 3 + 2, none⟩ (.int .i64 (f.sure : Int))).drew.heap[b]? = W2.heap[b]? := fun b hb => by
      show (((W2.setCell ⟨g, i * 3, none⟩ (.int .i64 f.n)).setCell ⟨g, i * 3 + 1, none⟩ (sv f.data)).setCell ⟨g, i * 3 + 2, none⟩ (.int .i64 (f.sure : Int))).heap[b]? = _
      rw [Below.heap_setCell _ _ _ _ hb, Below.heap_setCell _ _ _ _ hb, Below.heap_setCell _ _ _ _ hb]
    have h1 := HH.out
    have b1 := Joins.block_setCell (i := 1) h1.ref (.slice (some ⟨g, 0, none⟩) N c')
    rw [HW2.out] at b1
    refine RefAt.turn (by rw [o r hgr.symm, b1]; rfl) (own_zero row3) (own_local h1.kept fun b hb => ?_) h1.fail HO.out
    have hbr : b ≠ r := fun e => h1.r_ne.2 (e ▸ hb)
    have hbg : b ≠ g := by
      obtain ⟨cc, hcc⟩ := own_tag h1.kept hb
      obtain ⟨cd, hcd⟩ := own_tag q2 (g := g) rfl
      exact tag_ne hcc hcd (by decide)
    rw [o b hbg, blk2 b hbr]
  · have k0 := K0.out
    have k3 := K3.out
    have e1 : w.heap.size ≤ W1.heap.size := Nat.le_trans k0.size k3.size
    refine ⟨?_, ?_, ?_, ?_, fun b hb hn => ?_⟩
    · show W2.os = w.os
      rw [← HW2.out]; exact k3.os.trans k0.os
    · show W2.tape = w.tape
      rw [← HW2.out]; exact k3.tape.trans k0.tape
    · show W2.output = w.output
      rw [← HW2.out]; exact k3.output.trans k0.output
    · have : W2.heap.size = W1.heap.size := by rw [← HW2.out]; simp
      simp [World.drew]
      omega
    · have hbg : b ≠ g := by omega
      have hbr : b ≠ r := by simpa using hn
      show (((W2.setCell ⟨g, i * 3, none⟩ (.int .i64 f.n)).setCell ⟨g, i * 3 + 1, none⟩ (sv f.data)).setCell ⟨g, i * 3 + 2, none⟩ (.int .i64 (f.sure : Int))).heap[b]? = _
      rw [Below.heap_setCell _ _ _ _ hbg, Below.heap_setCell _ _ _ _ hbg, Below.heap_setCell _ _ _ _ hbg, ← HW2.out, Below.heap_setCell _ _ _ _ hbr]
      exact (k3.block b (by omega)).trans (k0.block b hb)
end Go.Proofs.Ytpecbfcboocmcaa
