
/- A state, a snapshot and entries, by value: same, with. -/
import Derived.Test.YtlaepdpgegoopaaJnKept
import Derived.RegionTactic
import Derived.Deep.RegionLaw
import Derived.Deep.RegionHeld3
import Derived.Deep.AppendLies
import Derived.ChangeAlike
set_option linter.unusedVariables false
namespace Go.Proofs.Ytlaepdpgegoopaa
open Go.ChangeShapes Go.WideShapes Go.ChangeAt Go.RowKit Go.Maps Csv Dk Jn

abbrev tSt : TypeId := 44
theorem info_st : (Try.prog.info? tS).map (fun i => (i.zero, i.size, i.bytes)) = some (some (.string ByteArray.empty), 1, 16) := by kernel_rfl
theorem svs_one (l : List Bs) : ∀ u ∈ svs l, u.oneCell' = true := by
  intro u hu
  obtain ⟨x, _, rfl⟩ := List.mem_map.1 hu
  rfl
theorem nil_runS (w : World) (c : Nat) : (Builtin.append_ #[tR, tR] tR #[.slice none 0 0, .slice none 0 c]).run Try.prog w = .ok (.slice none 0 0) w := by
  obtain ⟨i, hi, hz, hsz, hb⟩ := info_parts info_st
  simp [Builtin.append_, run_underlying Try.underlying32, sizeOf, typeInfo, hi, Builtin.lenOf, Builtin.firstCells]
theorem app_strs (w : World) (B : Nat) (v : Value) (L : List Bs) (a : Addr) (M : List Bs) (c : Nat) (hown : w.ownsRow B tS 1 v L.length (svs L)) (hs : ∀ j x, M[j]? = some x → w.cell? (a.add j) = some (sv x)) (hn : L.length + M.length ≤ 100000) (hB : B ≤ w.heap.size) :
    ∃ p' c' w', (Builtin.append_ #[tR, tR] tR #[v, .slice (some a) M.length c]).run Try.prog w = .ok (.slice p' (L.length + M.length) c') w' ∧ w'.ownsRow B tS 1 (.slice p' (L.length + M.length) c') (L ++ M).length (svs (L ++ M)) ∧ w.grownBy w' v.ownBlock := by
  obtain ⟨i, hi, hz, hsz, hb⟩ := info_parts info_st
  obtain ⟨v', w', q1, q2, q3, _⟩ := run_append_own (P := Try.prog) w B tR tR tS i _ 1 16 Try.underlying32 hi hz hsz hb rfl (by omega) v L.length (svs L) hown a M.length c (svs M) (by rw [svs_len]; omega)
    (fun j u hj => by
      unfold svs at hj
      rw [List.getElem?_map] at hj
      obtain ⟨x, hx, rfl⟩ := Option.map_eq_some_iff.1 hj
      exact hs j x hx)
    (svs_one M) (by unfold maxLen; omega) (by omega) hB
  obtain ⟨p', c', rfl⟩ : ∃ p c, v' = .slice p (L.length + M.length) c := by
    rcases q2.2 with ⟨rfl, h0⟩ | ⟨g, cap, cur, rfl, _⟩
    · exact ⟨none, 0, by rw [h0]⟩
    · exact ⟨_, _, rfl⟩
  refine ⟨p', c', w', q1, ?_, q3⟩
  rw [List.length_append, show svs (L ++ M) = svs L ++ svs M by simp [svs]]
  exact q2
theorem copy_strs (w : World) (v : Value) (l : List Bs) (h : StrsAt w v l) (hl : l.length ≤ 100000) :
    ∃ p' c' w', (Builtin.append_ #[tR, tR] tR #[.slice none 0 0, v]).run Try.prog w = .ok (.slice p' l.length c') w' ∧ w'.ownsRow w.heap.size tS 1 (.slice p' l.length c') l.length (svs l) ∧ Keeps w w' := by
  obtain ⟨p, c, rfl, h1, h2⟩ := h
  cases p with
  | none =>
    have h0 : l = [] := by
      cases l with
      | nil => rfl
      | cons x r => obtain ⟨a, ha, _⟩ := h2 0 x rfl; cases ha
    subst h0
    exact ⟨none, 0, w, nil_runS w c, World.ownsRow_nil _ _ _ _, Keeps.refl _⟩
  | some a =>
    obtain ⟨p', c', w', q1, q2, q3⟩ := app_strs w w.heap.size (.slice none 0 0) [] a l c (World.ownsRow_nil _ _ _ _) (fun j x hx => by obtain ⟨a', e, hc⟩ := h2 j x hx; cases e; exact hc) (by simpa using hl) (Nat.le_refl _)
    simp only [List.length_nil, Nat.zero_add, List.nil_append] at q1 q2
    exact ⟨p', c', w', q1, q2, ⟨q3.os, q3.tape, q3.output, q3.size, fun i hi => q3.block i hi (by simp [Value.ownBlock])⟩⟩
/-- 'append' in a region that draws its order, whose run is known. -/
theorem step_known {P : Program} {w : World} {ops : Array Oper} {o : Oper} {a : Act} {K : Act → World → Prop} {Q : Exit → Act → World → Prop} {E : Prop} (hgd : o.guard = none) (sl x : Operand) (t u : TypeId)
    (ho : o.op = .call { callee := .builtin .append, args := #[sl, x], argTypes := #[t, u] }) (v y v' : Value) (w' : World) (hs : a.eval sl = v) (hx : a.eval x = y)
    (hr : (Builtin.append_ #[t, u] o.type #[v, y]).run P w = .ok v' w') (h : K (a.put o.dst v') w') : if Region.wanted o (yielded ops a.tmps) = true then Oper.wp P o a w K Q else E := by
  have hw : Region.wanted o (yielded ops a.tmps) = true := by simp [Region.wanted, hgd]
  rw [if_pos hw]
  unfold Oper.wp execOp
  simp only [ho, resolve, invoke, builtin, Sem.run_bind, Sem.run_pure, Result.andThen_ok, List.map_toArray, List.map_cons, List.map_nil, hs, hx, hr]
  exact h
theorem bel_trans {w0 w w' : World} (k0 : Below w0.heap.size w0 w) (k : Keeps w w') : Below w0.heap.size w0 w' := ⟨k.os.trans k0.os, k.tape.trans k0.tape, k.output.trans k0.output, Nat.le_trans k0.size k.size, fun i hi => (k.block i (Nat.lt_of_lt_of_le hi k0.size)).trans (k0.block i hi)⟩
theorem step_copyS {w : World} {ops : Array Oper} {o : Oper} {a : Act} {K : Act → World → Prop} {Q : Exit → Act → World → Prop} {E : Prop} (hgd : o.guard = none) (sl x : Operand)
    (ho : o.op = .call { callee := .builtin .append, args := #[sl, x], argTypes := #[tR, tR] }) (ht : o.type = tR) (w0 : World) (k0 : Below w0.heap.size w0 w) (src : Value) (M : List Bs) (m : Nat) (hm : M.length = m) (hs : a.eval sl = .slice none 0 0) (hx : a.eval x = src) (hsrc : StrsAt w0 src M) (hn : M.length ≤ 100000)
    (h : ∀ p' c' w', w'.ownsRow w0.heap.size tS 1 (.slice p' m c') M.length (svs M) → Below w0.heap.size w0 w' → (∀ b, b < w.heap.size → w'.heap[b]? = w.heap[b]?) → w.heap.size ≤ w'.heap.size → K (a.put o.dst (.slice p' m c')) w') : if Region.wanted o (yielded ops a.tmps) = true then Oper.wp Try.prog o a w K Q else E := by
  subst hm
  obtain ⟨p', c', w', h1, h2, h3⟩ := copy_strs w src M (hsrc.keeps k0) hn
  exact step_known hgd sl x _ _ ho _ _ _ w' hs hx (by rw [ht]; exact h1) (h p' c' w' (own_base h2 fun g hg => Nat.le_trans k0.size (h2.lt g hg).1) (bel_trans k0 h3) h3.block h3.size)
theorem step_appS {w : World} {ops : Array Oper} {o : Oper} {a : Act} {K : Act → World → Prop} {Q : Exit → Act → World → Prop} {E : Prop} (hgd : o.guard = none) (sl x : Operand)
    (ho : o.op = .call { callee := .builtin .append, args := #[sl, x], argTypes := #[tR, tR] }) (ht : o.type = tR) (w0 w1 : World) (k1 : Below w0.heap.size w0 w1) (k0 : Keeps w1 w) (v : Value) (b : Nat) (L : List Bs) (y : Bs) (m : Nat) (hm : L.length + 1 = m) (hs : a.eval sl = v) (hx : a.eval x = .slice (some ⟨b, 0, none⟩) 1 1) (hown : w1.ownsRow w0.heap.size tS 1 v L.length (svs L)) (hsrc : w.cell? ⟨b, 0, none⟩ = some (sv y)) (hn : L.length + 1 ≤ 100000)
    (h : ∀ p' c' w', w'.ownsRow w0.heap.size tS 1 (.slice p' m c') (L ++ [y]).length (svs (L ++ [y])) → Below w0.heap.size w0 w' → K (a.put o.dst (.slice p' m c')) w') : if Region.wanted o (yielded ops a.tmps) = true then Oper.wp Try.prog o a w K Q else E := by
  subst hm
  have k := bel_trans k1 k0
  have hown' : w.ownsRow w0.heap.size tS 1 v L.length (svs L) := own_local hown fun g hg => k0.block g (hown.lt g hg).2
  obtain ⟨p', c', w', q1, q2, q3⟩ := app_strs w w0.heap.size v L ⟨b, 0, none⟩ [y] 1 hown' (fun j x hj => by
    have : j = 0 := by
      have := (List.getElem?_eq_some_iff.1 hj).1
      simp at this; omega
    subst this
    simp at hj
    subst hj
    exact hsrc) hn k.size
  exact step_known hgd sl x _ _ ho _ _ _ w' hs hx (by rw [ht]; exact q1) (h p' c' w' q2 (k.grown q3 k.size fun g hg => (hown'.lt g hg).1))

set_option maxRecDepth 100000 in
set_option maxHeartbeats 1000000 in
theorem same_st (a b : Bs) (v1 v2 : Value) (A B : List Bs) (w : World) (h1 : StrsAt w v1 A) (h2 : StrsAt w v2 B) :
    Calls Try.prog 19 #[.agg #[sv a, v1], .agg #[sv b, v2]] w fun e w' => e = .returned (.bool (decide (a :: A = b :: B))) ∧ Keeps w w' := by
  obtain ⟨X, hX⟩ : ∃ X : ByteArray, (⟨a.toArray⟩ : ByteArray) = X := ⟨_, rfl⟩
  obtain ⟨Y, hY⟩ : ∃ X : ByteArray, (⟨b.toArray⟩ : ByteArray) = X := ⟨_, rfl⟩
  have HX := Lib.hid (show X.toList = a by rw [← hX, ByteArray.toList_eq])
  have HY := Lib.hid (show Y.toList = b by rw [← hY, ByteArray.toList_eq])
  unfold sv
  rw [hX, hY]
  have K0 : Keeps w ((w.alloc (.cells #[.string X, v1] tSt)).alloc (.cells #[.string Y, v2] tSt)) := (keeps_lit _ _).trans (keeps_lit _ _)
  have HK := Lib.hid K0
  have CT := Lib.hid (texts_any v1 v2 A B _ (h1.keeps K0) (h2.keeps K0))
  clear K0 h1 h2 hX hY
  by_cases hab : a = b
  · have t1 : (X.toList == Y.toList) = true := by rw [HX.out, HY.out, hab]; simp
    have HD := Lib.hid (show decide (A = B) = decide (a :: A = b :: B) by rw [hab]; simp)
    clear hab
    go_enter Try.func19, Try.ntmps19
    go_wp2_with fail
    refine CT.out.mono ?_
    rintro e w2 ⟨rfl, k2⟩
    have K2 := Lib.hid k2
    clear k2
    go_wp2
    go_ret
    exact ⟨by rw [← HD.out]; rfl, HK.out.trans K2.out⟩
  · have t1 : (X.toList == Y.toList) = false := by rw [HX.out, HY.out]; simpa using hab
    have HD := Lib.hid (show decide (a :: A = b :: B) = false from decide_eq_false fun e => hab (List.cons.inj e).1)
    clear hab
    go_enter Try.func19, Try.ntmps19
    go_wp2
    go_ret
    exact ⟨by rw [HD.out]; rfl, HK.out⟩

/-- What with tells. -/
def WithOut (a : Bs) (A : List Bs) (x : Bs) (w : World) (e : Ending) (w' : World) : Prop :=
  ∃ p c, e = .returned (.agg #[sv a, .slice p (A.length + 1) c]) ∧ w'.ownsRow w.heap.size tS 1 (.slice p (A.length + 1) c) (A.length + 1) (svs (A ++ [x])) ∧ Keeps w w'
/-- The two cells of a state at rest, set. -/
abbrev set2 (w : World) (b : Nat) (x y : Value) : World := (w.setCell ⟨b, 0, none⟩ x).setCell ⟨b, 1, none⟩ y
set_option maxRecDepth 100000 in
set_option maxHeartbeats 4000000 in
theorem with_st (a : Bs) (v : Value) (A : List Bs) (x : ByteArray) (w : World) (h : StrsAt w v A) (hA : A.length ≤ 1000) :
    Calls Try.prog 16 #[.agg #[sv a, v], .string x] w (WithOut a A x.data.toList w) := by
  obtain ⟨X, hX⟩ : ∃ X : ByteArray, (⟨a.toArray⟩ : ByteArray) = X := ⟨_, rfl⟩
  have HXV := Lib.hid (show sv a = .string X by unfold sv; rw [hX])
  unfold sv
  rw [hX]
  obtain ⟨N, hN⟩ : ∃ N, A.length = N := ⟨_, rfl⟩
  have HN := Lib.hid hN
  have HA := Lib.hid h
  have HA9 := Lib.hid (show A.length ≤ 100000 by omega)
  have HA8 := Lib.hid (show A.length + 1 ≤ 100000 by omega)
  have HN1 := Lib.hid (show A.length + 1 = N + 1 by omega)
  have HSV : ∀ W : World, ∀ ad : Addr, W.cell? ad = some (.string x) → W.cell? ad = some (sv x.data.toList) := fun W ad h => h
  have HSV := Lib.hid HSV
  clear hX hN h hA
  go_enter Try.func16, Try.ntmps16
  go_wp2
  have k2 : Keeps w ((w.alloc (.cells #[.string X, v] tSt)).alloc (.cells #[.string ⟨#[]⟩, .slice none 0 0] tSt)) := (keeps_lit _ _).trans (keeps_lit _ _)
  have bX : ((w.alloc (.cells #[.string X, v] tSt)).alloc (.cells #[.string ⟨#[]⟩, .slice none 0 0] tSt)).heap[w.heap.size]? = some (.cells #[.string X, v] tSt (0, 0)) := ((keeps_lit _ _).block _ (by simp)).trans (heap_alloc_new w _)
  have bY : ((w.alloc (.cells #[.string X, v] tSt)).alloc (.cells #[.string ⟨#[]⟩, .slice none 0 0] tSt)).heap[w.heap.size + 1]? = some (.cells #[.string ⟨#[]⟩, .slice none 0 0] tSt (0, 0)) := by
    have := heap_alloc_new (w.alloc (.cells #[.string X, v] tSt)) (.cells #[.string ⟨#[]⟩, .slice none 0 0] tSt)
    simpa using this
  generalize (w.alloc (.cells #[.string X, v] tSt)).alloc (.cells #[.string ⟨#[]⟩, .slice none 0 0] tSt) = w2 at *
  have hz : w.heap.size + 1 < w2.heap.size := block_lt bY
  have FACT : Hid (∀ W, Below w2.heap.size w2 W → (W.cell? ⟨w.heap.size, 0, none⟩ = some (.string X) ∧ W.cell? ⟨w.heap.size, 1, none⟩ = some v) ∧ (W.cell? ⟨w.heap.size + 1, 0, none⟩ = some (.string ⟨#[]⟩) ∧ W.cell? ⟨w.heap.size + 1, 1, none⟩ = some (.slice none 0 0)) ∧ W.frozen? ⟨w.heap.size + 1, 0, none⟩ = false ∧ W.frozen? ⟨w.heap.size + 1, 1, none⟩ = false ∧ w.heap.size + 1 < W.heap.size) := Lib.hid fun W k => by
    have b1 := (k.block _ (block_lt bX)).trans bX
    have b2 := (k.block _ (block_lt bY)).trans bY
    exact ⟨⟨Joins.cell_of_block b1 0, Joins.cell_of_block b1 1⟩, ⟨Joins.cell_of_block b2 0, Joins.cell_of_block b2 1⟩, Joins.unfrozen_of_block b2 0, Joins.unfrozen_of_block b2 1, block_lt b2⟩
  have HA2 := Lib.hid (HA.out.keeps k2)
  have FIN : Hid (∀ W p c, W.ownsRow w2.heap.size tS 1 (.slice p (N + 1) c) (A ++ [x.data.toList]).length (svs (A ++ [x.data.toList])) → Below w2.heap.size w2 W → (set2 W (w.heap.size + 1) (.string X) (.slice p (N + 1) c)).cell? ⟨w.heap.size + 1, 0, none⟩ = some (.string X) ∧ (set2 W (w.heap.size + 1) (.string X) (.slice p (N + 1) c)).cell? ⟨w.heap.size + 1, 1, none⟩ = some (.slice p (N + 1) c) ∧ WithOut a A x.data.toList w (.returned (.agg #[.string X, .slice p (N + 1) c])) (set2 W (w.heap.size + 1) (.string X) (.slice p (N + 1) c))) := Lib.hid fun W p c ho k => by
    have b2 := (k.block _ (block_lt bY)).trans bY
    have b3 := Joins.block_setCell (i := 0) b2 (.string X)
    have b4 := Joins.block_setCell (i := 1) b3 (.slice p (N + 1) c)
    refine ⟨Joins.cell_of_block b4 0, Joins.cell_of_block b4 1, p, c, ?_, ?_, ?_⟩
    · rw [← HXV.out, HN.out]
    · have e : (A ++ [x.data.toList]).length = A.length + 1 := by simp
      rw [e] at ho
      rw [HN.out] at ho ⊢
      refine own_base (own_local ho fun g hg => ?_) fun g hg => by have := (ho.lt g hg).1; omega
      have h2 : g ≠ w.heap.size + 1 := by have := (ho.lt g hg).1; omega
      rw [Below.heap_setCell _ _ _ _ h2, Below.heap_setCell _ _ _ _ h2]
    · have kk : Keeps w W := ⟨k.os.trans k2.os, k.tape.trans k2.tape, k.output.trans k2.output, Nat.le_trans k2.size k.size, fun i hi => (k.block i (Nat.lt_of_lt_of_le hi k2.size)).trans (k2.block i hi)⟩
      exact (kk.setCell (p := ⟨w.heap.size + 1, 0, none⟩) (by simp) _).setCell (p := ⟨w.heap.size + 1, 1, none⟩) (by simp) _
  obtain ⟨⟨c0, c1⟩, ⟨r0, r1⟩, f0, f1, _⟩ := FACT.out w2 (Below.refl _ _)
  have n0 : w.heap.size ≠ w2.heap.size := by omega
  have n1 : w.heap.size + 1 ≠ w2.heap.size := by omega
  have n2 : w.heap.size < w2.heap.size := by omega
  clear k2 bX bY
  go_region_law (first
    | (refine step_copyS rfl _ _ rfl rfl w2 ?c1 _ A N HN.out rfl rfl HA2.out HA9.out ?_
       case c1 => first | exact ⟨rfl, rfl, rfl, Nat.le_refl _, fun _ _ => rfl⟩ | exact (⟨rfl, rfl, rfl, Nat.le_refl _, fun _ _ => rfl⟩ : Below w2.heap.size w2 w2.drew).alloc (Nat.le_refl _) _
       intro p1 cp1 W1 q1 k1 z1 s1
       have d0 := (FACT.out W1 k1).1.1
       have d1 := (FACT.out W1 k1).1.2
       have e0 := (FACT.out W1 k1).2.1.1
       have e1 := (FACT.out W1 k1).2.1.2
       have g0 := (FACT.out W1 k1).2.2.1
       have g1 := (FACT.out W1 k1).2.2.2.1
       have hz1 := (FACT.out W1 k1).2.2.2.2
       have m0 : w.heap.size ≠ W1.heap.size := by omega
       have m1 : w.heap.size + 1 ≠ W1.heap.size := by omega
       have m2 : w.heap.size < W1.heap.size := by omega)
    | (refine step_appS rfl _ _ rfl rfl w2 W1 k1 ?c1 _ _ A x.data.toList (N + 1) HN1.out rfl rfl q1 ?c2 HA8.out ?_
       case c1 => first | exact Keeps.refl _ | exact (Keeps.refl _).alloc (Nat.le_refl _) _
       case c2 => refine HSV.out _ _ ?_; first | exact Joins.cell_of_block (heap_alloc_new W1 _) 0 | exact Joins.cell_of_block ((z1 _ (by simp)).trans (heap_alloc_new w2 _)) 0
       intro p2 cp2 W2 q2 k2
       have d0' := (FACT.out W2 k2).1.1
       have d1' := (FACT.out W2 k2).1.2
       have e0' := (FACT.out W2 k2).2.1.1
       have e1' := (FACT.out W2 k2).2.1.2
       have g0' := (FACT.out W2 k2).2.2.1
       have g1' := (FACT.out W2 k2).2.2.2.1
       have hz1' := (FACT.out W2 k2).2.2.2.2))
  all_goals (clear n0 n1 n2 m0 m1 m2; go_wp2)
  all_goals exact bodyPost_ret (v := .agg #[.string X, .slice p2 (N + 1) cp2]) (by simp [results, Try.results16, go_sem, (FIN.out W2 p2 cp2 q2 k2).1, (FIN.out W2 p2 cp2 q2 k2).2.1]) rfl (FIN.out W2 p2 cp2 q2 k2).2.2
end Go.Proofs.Ytlaepdpgegoopaa
