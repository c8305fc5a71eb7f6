
/- The document's own disk: Delete. -/
import Derived.Test.YtpecbfcboocmcaaRefTrunc
import Derived.Deep.RegionLaw
set_option linter.unusedVariables false
namespace Go.Proofs.Ytpecbfcboocmcaa
open Go.ChangeShapes Go.WideShapes Go.ChangeAt Go.RowKit Go.Maps Csv Dk

theorem src_take {w : World} {g c : Nat} {L : List FileM} {N : Nat} (h : Src w (.slice (some ⟨g, 0, none⟩) N c) L) (i : Nat) (hi : i ≤ L.length) : Src w (.slice (some ⟨g, 0, none⟩) i c) (L.take i) := by
  obtain ⟨p, c', h1, h2, h3⟩ := h
  cases h1
  refine ⟨_, c, by rw [List.length_take, Nat.min_eq_left hi], (fun e => by cases e), fun a ha j u hu => ?_⟩
  refine h3 a ha j u ?_
  have e : rcells L = rcells (L.take i) ++ rcells (L.drop i) := by rw [← rcells_app, List.take_append_drop]
  rw [e, List.getElem?_append_left (List.getElem?_eq_some_iff.1 hu).1]
  exact hu
theorem src_drop {w : World} {g c c2 : Nat} {L : List FileM} {N : Nat} (h : Src w (.slice (some ⟨g, 0, none⟩) N c) L) (i o n : Nat) (hi : i ≤ L.length) (hn : n = L.length - i) (ho : o = i * 3 ∨ n = 0) : Src w (.slice (some ⟨g, o, none⟩) n c2) (L.drop i) := by
  obtain ⟨p, c', h1, h2, h3⟩ := h
  cases h1
  subst hn
  refine ⟨_, c2, by rw [List.length_drop], (fun e => by cases e), fun a ha j u hu => ?_⟩
  cases ha
  have hj : j < (rcells (L.drop i)).length := (List.getElem?_eq_some_iff.1 hu).1
  rw [rcells_len, List.length_drop] at hj
  rcases ho with rfl | h0
  · have e : rcells L = rcells (L.take i) ++ rcells (L.drop i) := by rw [← rcells_app, List.take_append_drop]
    have e2 : (rcells (L.take i)).length = i * 3 := by rw [rcells_len, List.length_take, Nat.min_eq_left hi]
    have := h3 ⟨g, 0, none⟩ rfl (i * 3 + j) u (by rw [e, List.getElem?_append_right (by omega), e2, Nat.add_sub_cancel_left]; exact hu)
    rw [addr_of] at this
    have e3 : (⟨g, i * 3, none⟩ : Addr).add j = ⟨g, i * 3 + j, none⟩ := by
      unfold Addr.add
      split <;> simp_all
    rw [e3]; exact this
  · omega
theorem step_copy {w : World} {ops : Array Oper} {o : Oper} {a : Act} {K : Act → World → Prop} {Q : Exit → Act → World → Prop} {E : Prop} (hgd : o.guard = none) (sl x : Operand)
    (ho : o.op = .call { callee := .builtin .append, args := #[sl, x], argTypes := #[tFs, tFs] }) (ht : o.type = tFs) (src : Value) (M : List FileM) (m : Nat) (hm : M.length = m) (hs : a.eval sl = .slice none 0 0) (hx : a.eval x = src) (hsrc : Src w src M) (hn : M.length ≤ 1000)
    (h : ∀ p' c' w', w'.ownsRow w.heap.size tFr 3 (.slice p' m c') M.length (rcells M) → Below w.heap.size w w' → K (a.put o.dst (.slice p' m c')) w') : if Region.wanted o (yielded ops a.tmps) = true then Oper.wp Try.prog o a w K Q else E := by
  subst hm
  obtain ⟨p', c', w', h1, h2, h3⟩ := copy_row w src M hsrc hn
  exact step_append_known hgd sl x _ _ ho _ _ _ w' hs hx (by rw [ht]; exact h1) (h p' c' w' h2 h3)
theorem step_app {w : World} {ops : Array Oper} {o : Oper} {a : Act} {K : Act → World → Prop} {Q : Exit → Act → World → Prop} {E : Prop} (hgd : o.guard = none) (sl x : Operand)
    (ho : o.op = .call { callee := .builtin .append, args := #[sl, x], argTypes := #[tFs, tFs] }) (ht : o.type = tFs) (B : Nat) (v src : Value) (L M : List FileM) (m : Nat) (hm : L.length + M.length = m) (hs : a.eval sl = v) (hx : a.eval x = src) (hown : w.ownsRow B tFr 3 v L.length (rcells L)) (hsrc : Src w src M) (hn : L.length + M.length ≤ 1000) (hB : B ≤ w.heap.size)
    (h : ∀ p' c' w', w'.ownsRow B tFr 3 (.slice p' m c') (L ++ M).length (rcells (L ++ M)) → Below B w w' → K (a.put o.dst (.slice p' m c')) w') : if Region.wanted o (yielded ops a.tmps) = true then Oper.wp Try.prog o a w K Q else E := by
  subst hm
  obtain ⟨p', c', w', h1, h2, h3⟩ := app_row w B v L src M hown hsrc hn hB
  exact step_append_known hgd sl x _ _ ho _ _ _ w' hs hx (by rw [ht]; exact h1) (h p' c' w' h2 ((Frame.of_grown h3 (G := v.ownBlock.toList) (fun g hg => by simp [hg])).below hB fun x hx => (hown.lt x (by simpa using hx)).1))
theorem keepS {w2 W : World} {r B : Nat} {v : Value} (hb : ∀ i, i < B → W.heap[i]? = w2.heap[i]?) (hr : r < B) (c : w2.cell? ⟨r, 1, none⟩ = some v) (f : w2.frozen? ⟨r, 1, none⟩ = false) : W.cell? ⟨r, 1, none⟩ = some v ∧ W.frozen? ⟨r, 1, none⟩ = false :=
  ⟨(World.cell?_of_block (hb r hr)).trans c, (World.frozen?_of_block (hb r hr)).trans f⟩
theorem del_eq {l : List FileM} {i : Nat} {f : FileM} {n : Int} (hr : Rising l) (hi : l[i]? = some f) (hn : f.n = n) : delF l n = l.take i ++ l.drop (i + 1) := by
  induction l generalizing i with
  | nil => simp at hi
  | cons g r ih =>
    obtain ⟨h1, h2⟩ := List.pairwise_cons.1 hr
    unfold delF at *
    rw [List.filter_cons]
    cases i with
    | zero =>
      simp at hi
      subst hi
      have : r.filter (fun f => f.n != n) = r := List.filter_eq_self.2 fun x hx => by have := h1 x hx; simp; omega
      simp [hn, this]
    | succ i =>
      have hi' : r[i]? = some f := by simpa using hi
      have := h1 f (List.mem_of_getElem? hi')
      have e : (g.n != n) = true := by simp; omega
      simp only [e, if_true, ih h2 hi', List.take_succ_cons, List.drop_succ_cons, List.cons_append]

set_option maxRecDepth 100000 in
set_option maxHeartbeats 2000000 in
theorem rdelete_any (r : Nat) (D : DiskM) (G : List Nat) (n : Int)  (w : World) (h : IsRef w r D G)  :
    Calls Try.prog 28 #[ptrV r, .int .i64 n] w fun e w' => e = .returned (.int .i64 (deleteD D n).1) ∧ RGoes w w' G r (deleteD D n).2 := by
  obtain ⟨vL, vK, ks, h, rfl⟩ := h
  have H := Lib.hid h
  have cf := rfind_any r vL vK ks D n w h
  obtain ⟨c0, c1, c2, c3, c4, c5, fz⟩ := h.cells
  clear c0 c3 c4 c5 fz
  cases hu : D.up with
  | false =>
    have e : deleteD D n = (61, D) := withF_down hu
    rw [e]
    have c2' : w.cell? ⟨r, 2, none⟩ = some (.bool true) := by rw [c2, hu]; rfl
    obtain ⟨q, hq⟩ : ∃ q, posI (posF D.files n) = q := ⟨_, rfl⟩
    rw [hq] at cf
    clear h hu e c1 c2 hq
    unfold ptrV at *
    go_enter Try.func28, Try.ntmps28
    go_wp2_with (go_at_call 44; refine cf.mono ?_; rintro e w' ⟨rfl, rfl⟩)
    go_ret
    exact ⟨rfl, RGoes.same ⟨vL, vK, ks, H.out, rfl⟩ (Keeps.refl _)⟩
  | true =>
    have c2' : w.cell? ⟨r, 2, none⟩ = some (.bool false) := by rw [c2, hu]; rfl
    cases hp : posF D.files n with
    | none =>
      have e : deleteD D n = (4, D) := withF_none hu (pos_none hp)
      rw [e]
      rw [hp] at cf
      have cf' : Calls Try.prog 44 #[ptrV r, .int .i64 n] w fun e w' => e = .returned (.int .i64 (-1)) ∧ w = w' := cf
      clear h hu e c1 c2 hp cf
      unfold ptrV at *
      go_enter Try.func28, Try.ntmps28
      go_wp2_with (go_at_call 44; refine cf'.mono ?_; rintro e w' ⟨rfl, rfl⟩)
      go_ret
      exact ⟨rfl, RGoes.same ⟨vL, vK, ks, H.out, rfl⟩ (Keeps.refl _)⟩
    | some i =>
      obtain ⟨f, hi, hn, hf⟩ := pos_some hp
      rw [hp] at cf
      have cf' : Calls Try.prog 44 #[ptrV r, .int .i64 n] w fun e w' => e = .returned (.int .i64 (i : Int)) ∧ w = w' := cf
      have hmany := h.okay.many
      have hil : i < D.files.length := (List.getElem?_eq_some_iff.1 hi).1
      have hxf : f ∈ D.files := List.mem_of_getElem? hi
      have hlen : f.data.length ≤ 1048576 := by have := used_mem hxf; have := h.okay.room; have := h.okay.cap; omega
      have hsu := h.okay.sure f hxf
      clear cf hp
      have e : deleteD D n = D.then fun l => delF l n := withF_some hu hf
      rw [e]
      have hrlt := block_lt h.ref
      rcases count_code D with ⟨hc, cfi, cc, cu⟩ | hc
      · rw [then_ok hc]
        have cn := rfails_no h hc
        have HI := Lib.hid hi
        have HN := Lib.hid hn
        have HCF := Lib.hid cfi
        clear h hu e c2 hf hi hn hc cfi cc cu hxf c1
        unfold ptrV at *
        go_enter Try.func28, Try.ntmps28
        go_wp2_with (first
          | (go_at_call 44; refine cf'.mono ?_; rintro e w' ⟨rfl, rfl⟩)
          | fail)
        refine cn.mono ?_
        rintro e w2 ⟨rfl, h2, hg2⟩
        have hi2 : D.count.2.files[i]? = some f := by rw [HCF.out]; exact HI.out
        have hdel := del_eq h2.okay.rising hi2 HN.out
        have hok := h2.okay.del n
        rw [hdel] at hok
        have HDEL := Lib.hid hdel
        obtain ⟨g, c, hvL, _⟩ := file_cells h2.row hi2
        obtain ⟨_, c1, _, _, _, _, fz⟩ := h2.cells
        have f1 := fz 1
        obtain ⟨N, hNe⟩ : ∃ N, D.count.2.files.length = N := ⟨_, rfl⟩
        have hcap : N ≤ c := by
          have := own_files h2.row
          rw [hvL] at this
          obtain ⟨p, c', h1, h3, _⟩ := this
          cases h1; omega
        have hilN : i < N := by rw [← hNe, HCF.out]; exact hil
        have hmN : N ≤ 100 := by rw [← hNe, HCF.out]; exact hmany
        have src0 := own_src h2.row
        rw [hvL] at src0
        rw [hNe] at hvL src0
        rw [hvL] at c1
        have s1 := src_take src0 i (by omega)
        have SRC := Lib.hid src0
        have S1 := Lib.hid s1
        have hi1 : (i : Int) < (N : Int) := by omega
        have hi2' : (i : Int) + 1 ≤ (N : Int) := by omega
        have hi3 : ((i : Int) + 1).toNat = i + 1 := by omega
        have hi0 : (0 : Int) ≤ (i : Int) + 1 := by omega
        have hic : i ≤ c := by omega
        have hic1 : i + 1 ≤ c := by omega
        have hic2 : i + 1 ≤ N := by omega
        have HLT := Lib.hid (show (D.count.2.files.take i).length = i by rw [List.length_take]; omega)
        have HLT9 := Lib.hid (show (D.count.2.files.take i).length ≤ 1000 by rw [List.length_take]; omega)
        have HTT := Lib.hid (show (D.count.2.files.take i).length + (D.count.2.files.drop (i + 1)).length = N - 1 by rw [List.length_take, List.length_drop]; omega)
        have HTT9 := Lib.hid (show (D.count.2.files.take i).length + (D.count.2.files.drop (i + 1)).length ≤ 1000 by rw [List.length_take, List.length_drop]; omega)
        have s2 : Src w2 (.slice (if c = i + 1 then some ⟨g, 0, none⟩ else some ⟨g, (i + 1) * 3, none⟩) (N - (i + 1)) (c - (i + 1))) (D.count.2.files.drop (i + 1)) := by
          split
          · exact src_drop src0 (i + 1) 0 _ (by omega) (by omega) (Or.inr (by omega))
          · exact src_drop src0 (i + 1) _ _ (by omega) (by omega) (Or.inl rfl)
        have S2 := Lib.hid s2
        clear s2
        have HR := Lib.hid (block_lt h2.ref)
        have CC := Lib.hid c1
        have FF := Lib.hid f1
        have key : ∀ W2 p2 cp2, W2.ownsRow w2.heap.size tFr 3 (.slice p2 (N - 1) cp2) (D.count.2.files.take i ++ D.count.2.files.drop (i + 1)).length (rcells (D.count.2.files.take i ++ D.count.2.files.drop (i + 1))) → Below w2.heap.size w2 W2 →
            RGoes w (W2.setCell ⟨r, 1, none⟩ (.slice p2 (N - 1) cp2)) (rfoot r vL vK) r (D.count.2.put (delF D.count.2.files n)) := fun W2 p2 cp2 q2 k2 => by
          have h3 := h2.keeps k2
          have b1 := Joins.block_setCell (i := 1) h3.ref (.slice p2 (N - 1) cp2)
          have o : ∀ b, b ≠ r → (W2.setCell ⟨r, 1, none⟩ (.slice p2 (N - 1) cp2)).heap[b]? = W2.heap[b]? := fun b hb => Below.heap_setCell _ _ _ _ hb
          have hrl := block_lt h2.ref
          rw [hdel]
          refine rgoes_mk (vL' := .slice p2 (N - 1) cp2) (vK' := vK) (ks' := ks) (RefAt.turn (by rw [b1]; rfl) (own_zero (own_local q2 fun b hb => o b fun e => by have := (q2.lt b hb).1; omega)) (own_local h3.kept fun b hb => o b fun e => h3.r_ne.2 (e ▸ hb)) h3.fail hok) ?_ (fun b hb => ?_) (fun b hb => Or.inl (mem_rfoot.2 (Or.inr (Or.inr hb))))
          · have fr : Frame [r] W2 (W2.setCell ⟨r, 1, none⟩ (.slice p2 (N - 1) cp2)) := grown_frame (grown_setCell _ _ _ _) (by simp)
            exact ((grown_frame hg2 (by simp [rfoot])).trans (Frame.of_keeps k2 (rfoot r vL vK)) fun x hx => Or.inl hx).trans fr fun x hx => by simp at hx; subst hx; exact Or.inl (by simp [rfoot])
          · have := (q2.lt b hb).1
            exact Or.inr (Nat.le_trans hg2.size this)
        have KEY := Lib.hid key
        have H2 := Lib.hid h2
        have HG2 := Lib.hid hg2
        have HOK := Lib.hid hok
        have HNE := Lib.hid hNe
        have HVL := Lib.hid hvL
        have HI2 := Lib.hid hi2
        have hw1 : IntKind.i64.wrap ((i : Int) + 1) = (i : Int) + 1 := IntWalk.i64_in _ (by omega)
        clear key h2 hg2 hi2 hdel hok src0 s1 hNe hvL fz cn cf'
        unfold ptrV at *
        go_wp2
        go_region_law (first
          | (refine step_copy rfl _ _ rfl rfl _ (D.count.2.files.take i) i HLT.out rfl rfl S1.out HLT9.out ?_; intro p1 cp1 W1 q1 k1
             have k1 : Below w2.heap.size w2 W1 := ⟨k1.os, k1.tape, k1.output, k1.size, k1.block⟩
             have c1' := (keepS k1.block HR.out CC.out FF.out).1
             have f1' := (keepS k1.block HR.out CC.out FF.out).2)
          | (refine step_app rfl _ _ rfl rfl w2.heap.size _ _ (D.count.2.files.take i) (D.count.2.files.drop (i + 1)) (N - 1) HTT.out rfl rfl q1 (S2.out.keeps k1) HTT9.out k1.size ?_; intro p2 cp2 W2 q2 k2
             have k2 : Below w2.heap.size w2 W2 := k1.trans k2
             have c2' := (keepS k2.block HR.out CC.out FF.out).1
             have f2' := (keepS k2.block HR.out CC.out FF.out).2))
        all_goals clear c1' f1' c2' f2' c1 f1
        all_goals go_wp2
        all_goals go_ret
        all_goals exact ⟨rfl, KEY.out _ _ _ q2 k2⟩
      · rw [then_no hc]
        obtain ⟨hd, cn⟩ := rfails_yes h hc
        rw [hd]
        have HU := Lib.hid hu
        clear h hu e c2 hf hi hn hc c1 hxf hd
        unfold ptrV at *
        go_enter Try.func28, Try.ntmps28
        go_wp2_with (first
          | (go_at_call 44; refine cf'.mono ?_; rintro e w' ⟨rfl, rfl⟩)
          | fail)
        refine cn.mono ?_
        rintro e w2 ⟨rfl, h2, hg2⟩
        have cs := rsunk_any r vL vK ks _ w2 h2 HU.out
        have HG := Lib.hid hg2
        clear cn h2 hg2
        unfold ptrV at *
        go_wp2_with (go_at_call 46; refine cs.mono ?_; rintro e w3 ⟨rfl, hg⟩)
        go_ret
        exact ⟨rfl, rgoes_sunk HG.out hg⟩
end Go.Proofs.Ytpecbfcboocmcaa
