
/- The document's own disk: Create. The document's own disk: Create. The document's own disk: Fail. Two disks that differ by how far off a failure is, and no call of few sees it: the mathematics. -/
import Derived.Test.YtlaepdpgegoopaaGreatRefAct
import Derived.Deep.CutBlock
set_option linter.unusedVariables false
namespace Go.Proofs.YtlaepdpgegoopaaGreat
open Go.ChangeShapes Go.WideShapes Go.ChangeAt Go.RowKit Go.Maps Csv Dk

theorem ins_eq {l : List FileM} {k : Nat} {n : Int} (hk : k ≤ l.length) (h1 : ∀ j g, j < k → l[j]? = some g → g.n < n) (h2 : ∀ g, l[k]? = some g → ¬ g.n < n) : insF l n = (l.take k ++ [⟨n, [], 0⟩]) ++ l.drop k := by
  induction l generalizing k with
  | nil => simp at hk; subst hk; rfl
  | cons f r ih =>
    unfold insF
    cases k with
    | zero =>
      rw [if_neg (h2 f rfl)]
      rfl
    | succ k =>
      rw [if_pos (h1 0 f (by omega) rfl), ih (by simpa using hk) (fun j g hj hg => h1 (j + 1) g (by omega) (by simpa using hg)) (fun g hg => h2 g (by simpa using hg))]
      rfl
theorem src_one {w : World} {b : Nat} {n : Int} (h : w.heap[b]? = some (.cells #[.int .i64 n, .string ⟨#[]⟩, .int .i64 0] tFr (0, 0))) : Src w (.slice (some ⟨b, 0, none⟩) 1 1) [⟨n, [], 0⟩] := by
  refine ⟨_, 1, rfl, (fun e => by cases e), fun a ha j u hu => ?_⟩
  cases ha
  rw [addr_of, Joins.cell_of_block h j]
  have e : rcells [⟨n, [], 0⟩] = [.int .i64 n, .string ⟨#[]⟩, .int .i64 0] := rfl
  rw [e] at hu
  rw [← hu]
  simp

theorem bel_drew (w : World) : Below w.heap.size w w.drew := ⟨rfl, rfl, rfl, Nat.le_refl _, fun _ _ => rfl⟩
theorem bel_alloc (w : World) (X : Obj) : Below w.heap.size w (w.drew.alloc X) := (bel_drew w).alloc (Nat.le_refl _) X
theorem step_copy2 {w : World} {ops : Array Oper} {o : Oper} {a : Act} {K : Act → World → Prop} {Q : Exit → Act → World → Prop} {E : Prop} (hgd : o.guard = none) (sl x : Operand)
    (ho : o.op = .call { callee := .builtin .append, args := #[sl, x], argTypes := #[tFs, tFs] }) (ht : o.type = tFs) (w0 : World) (k0 : Below w0.heap.size w0 w) (src : Value) (M : List FileM) (m : Nat) (hm : M.length = m) (hs : a.eval sl = .slice none 0 0) (hx : a.eval x = src) (hsrc : Src w0 src M) (hn : M.length ≤ 1000)
    (h : ∀ p' c' w', w'.ownsRow w0.heap.size tFr 3 (.slice p' m c') M.length (rcells M) → Below w0.heap.size w0 w' → (∀ b, b < w.heap.size → w'.heap[b]? = w.heap[b]?) → K (a.put o.dst (.slice p' m c')) w') : if Region.wanted o (yielded ops a.tmps) = true then Oper.wp Tryz.prog o a w K Q else E := by
  subst hm
  obtain ⟨p', c', w', h1, h2, h3⟩ := copy_row w src M (hsrc.keeps k0) hn
  exact step_append_known hgd sl x _ _ ho _ _ _ w' hs hx (by rw [ht]; exact h1) (h p' c' w' (own_base h2 fun g hg => Nat.le_trans k0.size (h2.lt g hg).1) ⟨h3.os.trans k0.os, h3.tape.trans k0.tape, h3.output.trans k0.output, Nat.le_trans k0.size h3.size, fun i hi => (h3.block i (Nat.lt_of_lt_of_le hi k0.size)).trans (k0.block i hi)⟩ h3.block)
theorem step_app2 {w : World} {ops : Array Oper} {o : Oper} {a : Act} {K : Act → World → Prop} {Q : Exit → Act → World → Prop} {E : Prop} (hgd : o.guard = none) (sl x : Operand)
    (ho : o.op = .call { callee := .builtin .append, args := #[sl, x], argTypes := #[tFs, tFs] }) (ht : o.type = tFs) (w0 w1 : World) (k1 : Below w0.heap.size w0 w1) (k0 : Below w1.heap.size w1 w) (v src : Value) (L M : List FileM) (m : Nat) (hm : L.length + M.length = m) (hs : a.eval sl = v) (hx : a.eval x = src) (hown : w1.ownsRow w0.heap.size tFr 3 v L.length (rcells L)) (hsrc : Src w src M) (hn : L.length + M.length ≤ 1000)
    (h : ∀ p' c' w', w'.ownsRow w0.heap.size tFr 3 (.slice p' m c') (L ++ M).length (rcells (L ++ M)) → Below w0.heap.size w0 w' → K (a.put o.dst (.slice p' m c')) w') : if Region.wanted o (yielded ops a.tmps) = true then Oper.wp Tryz.prog o a w K Q else E := by
  have k : Below w0.heap.size w0 w := ⟨k0.os.trans k1.os, k0.tape.trans k1.tape, k0.output.trans k1.output, Nat.le_trans k1.size k0.size, fun i hi => (k0.block i (Nat.lt_of_lt_of_le hi k1.size)).trans (k1.block i hi)⟩
  exact step_app hgd sl x ho ht w0.heap.size v src L M m hm hs hx (own_local hown fun b hb => k0.block b (hown.lt b hb).2) hsrc hn k.size fun p' c' w' g1 g2 => h p' c' w' g1 (k.trans g2)

set_option maxRecDepth 100000 in
set_option maxHeartbeats 4000000 in
theorem rmake_some (r g c N : Nat) (vK : Value) (ks : List Int) (D : DiskM) (n : Int) (w : World) (h : RefAt w r (.slice (some ⟨g, 0, none⟩) N c) vK ks D) (hN : D.files.length = N) (hn : I64 n) (h0 : ¬ n < 0) (hu : D.up = true) (hp : posF D.files n = none) (hfull : ¬ 100 ≤ N) (hc : D.count.1 = 0) (cfi : D.count.2.files = D.files) :
    Calls Tryz.prog 8 #[ptrV r, .int .i64 n] w fun e w' => e = .returned (.int .i64 0) ∧ RGoes w w' (rfoot r (.slice (some ⟨g, 0, none⟩) N c) vK) r (D.count.2.put (insF D.count.2.files n)) := by
  have H := Lib.hid h
  have hn' := hn.nat
  have cf := rfind_any r (.slice (some ⟨g, 0, none⟩) N c) vK ks D n w h
  rw [hp] at cf
  have cf' : Calls Tryz.prog 24 #[ptrV r, .int .i64 n] w fun e w' => e = .returned (.int .i64 (-1)) ∧ w = w' := cf
  have hmany := h.okay.many
  rw [hN] at hmany
  obtain ⟨_, c1, c2', _⟩ := h.cells
  rw [hu] at c2'
  have c2' : w.cell? ⟨r, 2, none⟩ = some (.bool false) := c2'
  have t0 : decide (n < 0) = false := decide_eq_false h0
  have t1 : decide ((100 : Int) ≤ (N : Int)) = false := decide_eq_false (by omega)
  have cn := rfails_no h hc
  have HF := Lib.hid (pos_none hp)
  have HCF := Lib.hid cfi
  have HNN := Lib.hid hN
  have HN0 := Lib.hid (show 0 ≤ n by omega)
  have HN9 := Lib.hid (show n ≤ 9223372036854775807 by omega)
  clear h hu hn h0 cf hp hN hc cfi
  unfold ptrV at *
  go_enter Tryz.func8, Tryz.ntmps8
  go_wp2_with (first
    | (go_at_call 24; refine cf'.mono ?_; rintro e w' ⟨rfl, rfl⟩)
    | fail)
  refine cn.mono ?_
  rintro e w2 ⟨rfl, h2, hg2⟩
  obtain ⟨_, d1, _, _, _, _, fz⟩ := h2.cells
  have f1 := fz 1
  have hrl := block_lt h2.ref
  have hNN : D.count.2.files.length = N := by rw [HCF.out]; exact HNN.out
  have hf2 : findF D.count.2.files n = none := by rw [HCF.out]; exact HF.out
  have hok := h2.okay.ins HN0.out HN9.out hf2 (by omega)
  have key : ∀ k, k ≤ N → (∀ j g, j < k → D.count.2.files[j]? = some g → g.n < n) → (∀ g, D.count.2.files[k]? = some g → ¬ g.n < n) → ∀ W2 p2 cp2, W2.ownsRow w2.heap.size tFr 3 (.slice p2 (N + 1) cp2) ((D.count.2.files.take k ++ ([⟨n, [], 0⟩] : List FileM)) ++ D.count.2.files.drop k).length (rcells ((D.count.2.files.take k ++ ([⟨n, [], 0⟩] : List FileM)) ++ D.count.2.files.drop k)) → Below w2.heap.size w2 W2 →
      RGoes w (W2.setCell ⟨r, 1, none⟩ (.slice p2 (N + 1) cp2)) (rfoot r (.slice (some ⟨g, 0, none⟩) N c) vK) r (D.count.2.put (insF D.count.2.files n)) := fun k hk g1 g2 W2 p2 cp2 q2 k2 => by
    have hins := ins_eq (n := n) (by omega) g1 g2
    have h3 := h2.keeps k2
    have b1 := Joins.block_setCell (i := 1) h3.ref (.slice p2 (N + 1) cp2)
    have o : ∀ b, b ≠ r → (W2.setCell ⟨r, 1, none⟩ (.slice p2 (N + 1) cp2)).heap[b]? = W2.heap[b]? := fun b hb => Below.heap_setCell _ _ _ _ hb
    have hlen : ((D.count.2.files.take k ++ ([⟨n, [], 0⟩] : List FileM)) ++ D.count.2.files.drop k).length = N + 1 := by simp [List.length_take, List.length_drop, hNN]; omega
    have hok := hok
    rw [hins] at hok ⊢
    refine rgoes_mk (vL' := .slice p2 (N + 1) cp2) (vK' := vK) (ks' := ks) (RefAt.turn (by rw [b1]; rfl) (own_zero (own_local q2 fun b hb => o b fun e => by have := (q2.lt b hb).1; omega)) (own_local h3.kept fun b hb => o b fun e => h3.r_ne.2 (e ▸ hb)) h3.fail hok) ?_ (fun b hb => ?_) (fun b hb => Or.inl (mem_rfoot.2 (Or.inr (Or.inr hb))))
    · have fr : Frame [r] W2 (W2.setCell ⟨r, 1, none⟩ (.slice p2 (N + 1) cp2)) := grown_frame (grown_setCell _ _ _ _) (by simp)
      exact ((grown_frame hg2 (by simp)).trans (Frame.of_keeps k2 [r]) fun x hx => Or.inl hx).trans fr fun x hx => by simp at hx; subst hx; exact Or.inl (by simp)
    · have := (q2.lt b hb).1
      exact Or.inr (Nat.le_trans hg2.size this)
  have KEY := Lib.hid key
  have FOU := Lib.hid (own_files h2.row)
  have SRC := Lib.hid (own_src h2.row)
  have ROW := Lib.hid h2.row
  have NN2 := Lib.hid hNN
  have HR := Lib.hid hrl
  clear key hok hf2 hNN h2 hg2 fz cn cf'
  have CC := Lib.hid d1
  have FF := Lib.hid f1
  go_upto_block 0 with (fail)
  go_cut [5] from 26 (fun i wc => ∃ k : Nat, k ≤ N ∧ i = .int .i64 (k : Int) ∧ (∀ j g, j < k → D.count.2.files[j]? = some g → g.n < n) ∧ (∀ g, D.count.2.files[k]? = some g → ¬ g.n < n) ∧ w2 = wc)
  case rest =>
    obtain ⟨k, hk, rfl, hA, hB, rfl⟩ := hcut
    have HA := Lib.hid hA
    have HB := Lib.hid hB
    clear hA hB
    have HLT := Lib.hid (show (D.count.2.files.take k).length = k by have := NN2.out; rw [List.length_take]; omega)
    have HLT9 := Lib.hid (show (D.count.2.files.take k).length ≤ 1000 by have := NN2.out; rw [List.length_take]; omega)
    have HT1 := Lib.hid (show (D.count.2.files.take k).length + ([⟨n, [], 0⟩] : List FileM).length = k + 1 by have := NN2.out; rw [List.length_take]; simp; omega)
    have HT19 := Lib.hid (show (D.count.2.files.take k).length + ([⟨n, [], 0⟩] : List FileM).length ≤ 1000 by have := NN2.out; rw [List.length_take]; simp; omega)
    have HT2 := Lib.hid (show (D.count.2.files.take k ++ ([⟨n, [], 0⟩] : List FileM)).length + (D.count.2.files.drop k).length = N + 1 by have := NN2.out; simp [List.length_take, List.length_drop]; omega)
    have HT29 := Lib.hid (show (D.count.2.files.take k ++ ([⟨n, [], 0⟩] : List FileM)).length + (D.count.2.files.drop k).length ≤ 1000 by have := NN2.out; simp [List.length_take, List.length_drop]; omega)
    have HNC : N ≤ c := by
      have h := FOU.out
      obtain ⟨p, c', h1, h3, _⟩ := h
      cases h1; have := NN2.out; omega
    have hkc : k ≤ c := by omega
    have S1 := Lib.hid (src_take SRC.out k (by have := NN2.out; omega))
    have S2 : Hid (Src w2 (.slice (if c = k then some ⟨g, 0, none⟩ else some ⟨g, k * 3, none⟩) (N - k) (c - k)) (D.count.2.files.drop k)) := Lib.hid (by
      have := NN2.out
      split
      · exact src_drop SRC.out k 0 _ (by omega) (by omega) (Or.inr (by omega))
      · exact src_drop SRC.out k _ _ (by omega) (by omega) (Or.inl rfl))
    go_wp2
    go_region_law (first
      | (refine step_copy2 rfl _ _ rfl rfl w2 ?c1 _ (D.count.2.files.take k) k HLT.out rfl rfl S1.out HLT9.out ?_
         case c1 => first | exact bel_drew w2 | exact bel_alloc w2 _
         intro p1 cp1 W1 q1 k1 z1
         have c1' := (keepS k1.block HR.out CC.out FF.out).1
         have f1' := (keepS k1.block HR.out CC.out FF.out).2
         have l1' : r < W1.heap.size := Nat.lt_of_lt_of_le HR.out k1.size)
      | (refine step_app2 rfl _ _ rfl rfl w2 W1 k1 ?c1 _ _ (D.count.2.files.take k) [⟨n, [], 0⟩] (k + 1) HT1.out rfl rfl q1 ?c2 HT19.out ?_
         case c1 => first | exact Below.refl _ _ | exact (Below.refl _ _).alloc (Nat.le_refl _) _
         case c2 => first | exact src_one (heap_alloc_new _ _) | exact src_one ((z1 _ (by simp)).trans (heap_alloc_new _ _))
         intro p2 cp2 W2 q2 k2
         have c2' := (keepS k2.block HR.out CC.out FF.out).1
         have f2' := (keepS k2.block HR.out CC.out FF.out).2
         have l2' : r < W2.heap.size := Nat.lt_of_lt_of_le HR.out k2.size)
      | (refine step_app2 rfl _ _ rfl rfl w2 W2 k2 (Below.refl _ _) _ _ (D.count.2.files.take k ++ ([⟨n, [], 0⟩] : List FileM)) (D.count.2.files.drop k) (N + 1) HT2.out rfl rfl q2 (S2.out.keeps k2) HT29.out ?_
         intro p3 cp3 W3 q3 k3
         have c3' := (keepS k3.block HR.out CC.out FF.out).1
         have f3' := (keepS k3.block HR.out CC.out FF.out).2))
    all_goals (clear d1 f1 HLT HLT9 HT1 HT19 HT2 HT29 S1 S2 q1 k1 z1 c1' f1' l1' q2 k2 c2' f2' l2' c3' f3'; go_wp2; all_goals (go_ret; exact ⟨rfl, KEY.out k (by omega) HA.out HB.out _ _ _ q3 k3⟩))
  case first =>
    go_wp2
    go_loop [5] (fun i => ∃ k : Nat, k ≤ N ∧ i = .int .i64 (k : Int) ∧ ∀ j g, j < k → D.count.2.files[j]? = some g → g.n < n) (fun i => N - (intOf i).toNat)
    case atStart => exact ⟨0, by omega, rfl, fun j g hj => by omega⟩
    case round =>
      obtain ⟨k, hk, rfl, hall⟩ := hrel
      have HA := Lib.hid hall
      clear hall
      by_cases hlt : k < N
      · obtain ⟨f, hf⟩ : ∃ f, D.count.2.files[k]? = some f := ⟨_, List.getElem?_eq_getElem (by have := NN2.out; omega)⟩
        obtain ⟨a, ca, ha, o0, _, _⟩ := file_cells ROW.out hf
        obtain rfl : g = a := by have := congrArg Value.ownBlock ha; simpa [Value.ownBlock] using this
        clear ha
        have hi1 : (k : Int) < (N : Int) := by omega
        have HFF := Lib.hid hf
        obtain ⟨m, hm⟩ : ∃ m, f.n = m := ⟨_, rfl⟩
        rw [hm] at o0
        have HM := Lib.hid hm
        clear hf hm
        by_cases hmn : m < n
        · have t : decide (m < n) = true := decide_eq_true hmn
          have HH := Lib.hid (show ∀ j g, j < k + 1 → D.count.2.files[j]? = some g → g.n < n from fun j g hj hg => by
            by_cases e : j = k
            · subst e
              rw [HFF.out] at hg
              cases hg
              rw [HM.out]; exact hmn
            · exact HA.out j g (by omega) hg)
          clear hmn
          go_wp2
          go_round
          case rel => exact ⟨k + 1, by omega, by go_num, HH.out⟩
          case measure => simp [intOf]; omega
        · have t : decide (m < n) = false := decide_eq_false hmn
          have HB := Lib.hid (show ∀ g, D.count.2.files[k]? = some g → ¬ g.n < n from fun g hg => by
            rw [HFF.out] at hg
            cases hg
            rw [HM.out]; exact hmn)
          clear hmn
          go_wp2
          go_meet
          case rel => exact ⟨k, by omega, rfl, HA.out, HB.out, rfl⟩
      · obtain rfl : k = N := by omega
        have hz : ¬ ((k : Int) < (k : Int)) := by omega
        have HB := Lib.hid (show ∀ g, D.count.2.files[k]? = some g → ¬ g.n < n from fun g hg => by
          have := (List.getElem?_eq_some_iff.1 hg).1
          have := NN2.out
          omega)
        go_wp2
        go_meet
        case rel => exact ⟨k, by omega, rfl, HA.out, HB.out, rfl⟩
end Go.Proofs.YtlaepdpgegoopaaGreat
namespace Go.Proofs.YtlaepdpgegoopaaGreat
open Go.ChangeShapes Go.WideShapes Go.ChangeAt Go.RowKit Go.Maps Csv Dk

theorem src_none (w : World) : Src w (.slice none 0 0) [] := ⟨none, 0, rfl, fun _ => ⟨rfl, rfl⟩, fun a ha => by cases ha⟩
set_option maxRecDepth 100000 in
set_option maxHeartbeats 4000000 in
theorem rmake_nil (r : Nat) (vK : Value) (ks : List Int) (D : DiskM) (n : Int) (w : World) (h : RefAt w r (.slice none 0 0) vK ks D) (hN : D.files = []) (hn : I64 n) (h0 : ¬ n < 0) (hu : D.up = true) (hp : posF D.files n = none) (hc : D.count.1 = 0) (cfi : D.count.2.files = D.files) :
    Calls Tryz.prog 8 #[ptrV r, .int .i64 n] w fun e w' => e = .returned (.int .i64 0) ∧ RGoes w w' (rfoot r (.slice none 0 0) vK) r (D.count.2.put (insF D.count.2.files n)) := by
  have H := Lib.hid h
  have hn' := hn.nat
  have cf := rfind_any r (.slice none 0 0) vK ks D n w h
  rw [hp] at cf
  have cf' : Calls Tryz.prog 24 #[ptrV r, .int .i64 n] w fun e w' => e = .returned (.int .i64 (-1)) ∧ w = w' := cf
  obtain ⟨_, c1, c2', _⟩ := h.cells
  rw [hu] at c2'
  have c2' : w.cell? ⟨r, 2, none⟩ = some (.bool false) := c2'
  have t0 : decide (n < 0) = false := decide_eq_false h0
  have cn := rfails_no h hc
  have HF := Lib.hid (pos_none hp)
  have HCF := Lib.hid cfi
  have HNN := Lib.hid hN
  have HN0 := Lib.hid (show 0 ≤ n by omega)
  have HN9 := Lib.hid (show n ≤ 9223372036854775807 by omega)
  clear h hu hn h0 cf hp hN hc cfi
  unfold ptrV at *
  go_enter Tryz.func8, Tryz.ntmps8
  go_wp2_with (first
    | (go_at_call 24; refine cf'.mono ?_; rintro e w' ⟨rfl, rfl⟩)
    | fail)
  refine cn.mono ?_
  rintro e w2 ⟨rfl, h2, hg2⟩
  obtain ⟨_, d1, _, _, _, _, fz⟩ := h2.cells
  have f1 := fz 1
  have hrl := block_lt h2.ref
  have hNN : D.count.2.files = [] := by rw [HCF.out]; exact HNN.out
  have hf2 : findF D.count.2.files n = none := by rw [HCF.out]; exact HF.out
  have hok := h2.okay.ins HN0.out HN9.out hf2 (by rw [hNN]; simp)
  rw [hNN] at hok
  have key : ∀ W2 p2 cp2, W2.ownsRow w2.heap.size tFr 3 (.slice p2 1 cp2) (([] ++ ([⟨n, [], 0⟩] : List FileM)) ++ []).length (rcells (([] ++ ([⟨n, [], 0⟩] : List FileM)) ++ [])) → Below w2.heap.size w2 W2 →
      RGoes w (W2.setCell ⟨r, 1, none⟩ (.slice p2 1 cp2)) (rfoot r (.slice none 0 0) vK) r (D.count.2.put (insF D.count.2.files n)) := fun W2 p2 cp2 q2 k2 => by
    have h3 := h2.keeps k2
    have b1 := Joins.block_setCell (i := 1) h3.ref (.slice p2 1 cp2)
    have o : ∀ b, b ≠ r → (W2.setCell ⟨r, 1, none⟩ (.slice p2 1 cp2)).heap[b]? = W2.heap[b]? := fun b hb => Below.heap_setCell _ _ _ _ hb
    rw [hNN]
    refine rgoes_mk (vL' := .slice p2 1 cp2) (vK' := vK) (ks' := ks) (RefAt.turn (by rw [b1]; rfl) (own_zero (own_local q2 fun b hb => o b fun e => by have := (q2.lt b hb).1; omega)) (own_local h3.kept fun b hb => o b fun e => h3.r_ne.2 (e ▸ hb)) h3.fail hok) ?_ (fun b hb => ?_) (fun b hb => Or.inl (mem_rfoot.2 (Or.inr (Or.inr hb))))
    · have fr : Frame [r] W2 (W2.setCell ⟨r, 1, none⟩ (.slice p2 1 cp2)) := grown_frame (grown_setCell _ _ _ _) (by simp)
      exact ((grown_frame hg2 (by simp)).trans (Frame.of_keeps k2 [r]) fun x hx => Or.inl hx).trans fr fun x hx => by simp at hx; subst hx; exact Or.inl (by simp)
    · have := (q2.lt b hb).1
      exact Or.inr (Nat.le_trans hg2.size this)
  have KEY := Lib.hid key
  have HR := Lib.hid hrl
  clear key hok hf2 hNN h2 hg2 fz cn cf'
  have CC := Lib.hid d1
  have FF := Lib.hid f1
  go_upto_block 0 with (fail)
  go_cut [5] from 26 (fun i wc => i = .int .i64 0 ∧ w2 = wc)
  case rest =>
    obtain ⟨rfl, rfl⟩ := hcut
    have HLT := Lib.hid (show ([] : List FileM).length = 0 from rfl)
    have HLT9 := Lib.hid (show ([] : List FileM).length ≤ 1000 by simp)
    have HT1 := Lib.hid (show ([] : List FileM).length + ([⟨n, [], 0⟩] : List FileM).length = 1 from rfl)
    have HT19 := Lib.hid (show ([] : List FileM).length + ([⟨n, [], 0⟩] : List FileM).length ≤ 1000 by simp)
    have HT2 := Lib.hid (show ([] ++ ([⟨n, [], 0⟩] : List FileM)).length + ([] : List FileM).length = 1 from rfl)
    have HT29 := Lib.hid (show ([] ++ ([⟨n, [], 0⟩] : List FileM)).length + ([] : List FileM).length ≤ 1000 by simp)
    have S1 := Lib.hid (src_none w2)
    go_wp2
    go_region_law (first
      | (refine step_copy2 rfl _ _ rfl rfl w2 ?c1 _ [] 0 HLT.out rfl rfl S1.out HLT9.out ?_
         case c1 => first | exact bel_drew w2 | exact bel_alloc w2 _
         intro p1 cp1 W1 q1 k1 z1
         have c1' := (keepS k1.block HR.out CC.out FF.out).1
         have f1' := (keepS k1.block HR.out CC.out FF.out).2
         have l1' : r < W1.heap.size := Nat.lt_of_lt_of_le HR.out k1.size)
      | (refine step_app2 rfl _ _ rfl rfl w2 W1 k1 ?c1 _ _ [] [⟨n, [], 0⟩] 1 HT1.out rfl rfl q1 ?c2 HT19.out ?_
         case c1 => first | exact Below.refl _ _ | exact (Below.refl _ _).alloc (Nat.le_refl _) _
         case c2 => first | exact src_one (heap_alloc_new _ _) | exact src_one ((z1 _ (by simp)).trans (heap_alloc_new _ _))
         intro p2 cp2 W2 q2 k2
         have c2' := (keepS k2.block HR.out CC.out FF.out).1
         have f2' := (keepS k2.block HR.out CC.out FF.out).2
         have l2' : r < W2.heap.size := Nat.lt_of_lt_of_le HR.out k2.size)
      | (refine step_app2 rfl _ _ rfl rfl w2 W2 k2 (Below.refl _ _) _ _ ([] ++ ([⟨n, [], 0⟩] : List FileM)) [] 1 HT2.out rfl rfl q2 (S1.out.keeps k2) HT29.out ?_
         intro p3 cp3 W3 q3 k3
         have c3' := (keepS k3.block HR.out CC.out FF.out).1
         have f3' := (keepS k3.block HR.out CC.out FF.out).2))
    all_goals (clear d1 f1 HLT HLT9 HT1 HT19 HT2 HT29 S1 q1 k1 z1 c1' f1' l1' q2 k2 c2' f2' l2' c3' f3'; go_wp2; all_goals (go_ret; exact ⟨rfl, KEY.out _ _ _ q3 k3⟩))
  case first =>
    go_wp2
    go_loop [5] (fun i => i = .int .i64 0) (fun i => 0)
    case atStart => rfl
    case round =>
      subst hrel
      go_wp2
      go_meet
      case rel => exact ⟨rfl, rfl⟩
set_option maxRecDepth 100000 in
set_option maxHeartbeats 2000000 in
theorem rcreate_any (r : Nat) (D : DiskM) (G : List Nat) (n : Int) (w : World) (h : IsRef w r D G) (hn : I64 n) :
    Calls Tryz.prog 8 #[ptrV r, .int .i64 n] w fun e w' => e = .returned (.int .i64 (createD D n).1) ∧ RGoes w w' G r (createD D n).2 := by
  obtain ⟨vL, vK, ks, h, rfl⟩ := h
  have H := Lib.hid h
  have hn' := hn.nat
  have cf := rfind_any r vL vK ks D n w h
  obtain ⟨c0, c1, c2, c3, c4, c5, fz⟩ := h.cells
  clear c0 c3 c4 c5 fz
  cases hu : D.up with
  | false =>
    have e : createD D n = (61, D) := by unfold createD; rw [if_pos hu]
    rw [e]
    have c2' : w.cell? ⟨r, 2, none⟩ = some (.bool true) := by rw [c2, hu]; rfl
    clear h hu e c1 c2 hn hn' cf
    unfold ptrV at *
    go_enter Tryz.func8, Tryz.ntmps8
    go_wp2
    go_ret
    exact ⟨rfl, RGoes.same ⟨vL, vK, ks, H.out, rfl⟩ (Keeps.refl _)⟩
  | true =>
    have hnu : ¬ D.up = false := by rw [hu]; decide
    have c2' : w.cell? ⟨r, 2, none⟩ = some (.bool false) := by rw [c2, hu]; rfl
    by_cases h0 : n < 0
    · have e : createD D n = (2, D) := by unfold createD; rw [if_neg hnu, if_pos h0]
      rw [e]
      have t0 : decide (n < 0) = true := decide_eq_true h0
      clear h hu e hn' hn c1 c2 h0 hnu cf
      unfold ptrV at *
      go_enter Tryz.func8, Tryz.ntmps8
      go_wp2
      go_ret
      exact ⟨rfl, RGoes.same ⟨vL, vK, ks, H.out, rfl⟩ (Keeps.refl _)⟩
    · have t0 : decide (n < 0) = false := decide_eq_false h0
      cases hp : posF D.files n with
      | some i =>
        obtain ⟨f, hi, hnf, hf⟩ := pos_some hp
        have e : createD D n = (62, D) := by unfold createD; rw [if_neg hnu, if_neg h0, if_pos (by rw [hf]; rfl)]
        rw [e]
        rw [hp] at cf
        have cf' : Calls Tryz.prog 24 #[ptrV r, .int .i64 n] w fun e w' => e = .returned (.int .i64 (i : Int)) ∧ w = w' := cf
        have hil : i < D.files.length := (List.getElem?_eq_some_iff.1 hi).1
        have hmany := h.okay.many
        clear h hu e hn' hn c1 c2 h0 hnu cf hi hnf hf hp
        unfold ptrV at *
        go_enter Tryz.func8, Tryz.ntmps8
        go_wp2_with (go_at_call 24; refine cf'.mono ?_; rintro e w' ⟨rfl, rfl⟩)
        go_ret
        exact ⟨rfl, RGoes.same ⟨vL, vK, ks, H.out, rfl⟩ (Keeps.refl _)⟩
      | none =>
        have hf := pos_none hp
        have hnf : ¬ (findF D.files n).isSome = true := by rw [hf]; decide
        rw [hp] at cf
        have cf' : Calls Tryz.prog 24 #[ptrV r, .int .i64 n] w fun e w' => e = .returned (.int .i64 (-1)) ∧ w = w' := cf
        have hmany := h.okay.many
        obtain ⟨pL, cL, hvL⟩ := shape3 h.row
        obtain ⟨N, hN⟩ : ∃ N, D.files.length = N := ⟨_, rfl⟩
        rw [hvL, hN] at c1
        rw [hN] at hmany
        by_cases hfull : 100 ≤ D.files.length
        · have e : createD D n = (60, D) := by unfold createD; rw [if_neg hnu, if_neg h0, if_neg hnf, if_pos hfull]
          rw [e]
          rw [hN] at hfull
          have t1 : decide ((100 : Int) ≤ (N : Int)) = true := decide_eq_true (by omega)
          clear h hu e hn' hn c2 h0 hnu cf hnf hf hp hvL hN hfull
          unfold ptrV at *
          go_enter Tryz.func8, Tryz.ntmps8
          go_wp2_with (go_at_call 24; refine cf'.mono ?_; rintro e w' ⟨rfl, rfl⟩)
          go_ret
          exact ⟨rfl, RGoes.same ⟨vL, vK, ks, H.out, rfl⟩ (Keeps.refl _)⟩
        · have e : createD D n = D.then fun l => insF l n := by unfold createD; rw [if_neg hnu, if_neg h0, if_neg hnf, if_neg hfull]
          rw [e]
          rw [hN] at hfull
          have t1 : decide ((100 : Int) ≤ (N : Int)) = false := decide_eq_false (by omega)
          rcases count_code D with ⟨hc, cfi, cc, cu⟩ | hc
          · rw [then_ok hc]
            rcases h.row.2 with ⟨e1, e0⟩ | ⟨g, c, _, e1, _⟩
            · have h0' : D.files = [] := List.length_eq_zero_iff.1 e0
              rw [e1] at h ⊢
              exact rmake_nil r vK ks D n w h h0' hn h0 hu hp hc cfi
            · rw [e1, hN] at h ⊢
              exact rmake_some r g c N vK ks D n w h hN hn h0 hu hp hfull hc cfi
          · rw [then_no hc]
            obtain ⟨hd, cn⟩ := rfails_yes h hc
            rw [hd]
            have HU := Lib.hid hu
            clear h hu e hn' hn c2 h0 hnu cf hnf hf hp hvL hN hfull hc hd
            unfold ptrV at *
            go_enter Tryz.func8, Tryz.ntmps8
            go_wp2_with (first
              | (go_at_call 24; refine cf'.mono ?_; rintro e w' ⟨rfl, rfl⟩)
              | fail)
            refine cn.mono ?_
            rintro e w2 ⟨rfl, h2, hg2⟩
            have cs := rsunk_any r vL vK ks _ w2 h2 HU.out
            have HG := Lib.hid hg2
            clear cn h2 hg2
            unfold ptrV at *
            go_wp2_with (go_at_call 26; refine cs.mono ?_; rintro e w3 ⟨rfl, hg⟩)
            go_ret
            exact ⟨rfl, rgoes_sunk HG.out hg⟩
end Go.Proofs.YtlaepdpgegoopaaGreat
namespace Go.Proofs.YtlaepdpgegoopaaGreat
open Go.ChangeShapes Go.WideShapes Go.ChangeAt Go.RowKit Go.Maps Csv Dk

abbrev tIs : TypeId := 57
theorem copy_ints (w : World) (v : Value) (ws : List Int) (h : IntsAt w v ws) (hc : ∀ n c, v = .slice none n c → c = 0) (hl : ws.length ≤ 1000) :
    ∃ p' c' w', (Builtin.append_ #[tIs, tIs] tIs #[.slice none 0 0, v]).run Tryz.prog w = .ok (.slice p' ws.length c') w' ∧ w'.ownsRow w.heap.size tI 1 (.slice p' ws.length c') ws.length (ivs ws) ∧ Keeps w w' := by
  obtain ⟨i, hi, hz, hsz, hb⟩ := info_parts info_int
  obtain ⟨p, c, rfl, h1, h2⟩ := h
  cases p with
  | none =>
    have h0 : ws = [] := by
      cases ws with
      | nil => rfl
      | cons x r => obtain ⟨a, ha, _⟩ := h2 0 x rfl; cases ha
    subst h0
    obtain rfl := hc _ _ rfl
    have hr := run_append_owned_none (P := Tryz.prog) w w.heap.size tIs tIs tI i 1 Tryz.underlying57 hi (.slice none 0 0) 0 [] (World.ownsRow_nil _ _ _ _)
    exact ⟨none, 0, w, hr, World.ownsRow_nil _ _ _ _, Keeps.refl _⟩
  | some a =>
    obtain ⟨v', w', q1, q2, q3, _⟩ := run_append_own (P := Tryz.prog) w w.heap.size tIs tIs tI i _ 1 8 Tryz.underlying57 hi hz hsz hb rfl (by omega) (.slice none 0 0) 0 [] (World.ownsRow_nil _ _ _ _) a ws.length c (ivs ws) (by rw [ivs_len]; omega)
      (fun j u hj => by
        unfold ivs at hj
        rw [List.getElem?_map] at hj
        obtain ⟨x, hx, rfl⟩ := Option.map_eq_some_iff.1 hj
        obtain ⟨a', e, hcell⟩ := h2 j x hx
        cases e
        exact hcell)
      (fun u hu => by obtain ⟨x, _, rfl⟩ := List.mem_map.1 hu; rfl) (by unfold maxLen; omega) (by omega) (Nat.le_refl _)
    obtain ⟨p', c', rfl⟩ : ∃ p c, v' = .slice p ws.length c := by
      rcases q2.2 with ⟨rfl, h0⟩ | ⟨g, cap, cur, rfl, _⟩
      · exact ⟨none, 0, by rw [show ws.length = 0 by omega]⟩
      · exact ⟨_, _, by rw [Nat.zero_add]⟩
    exact ⟨p', c', w', q1, by simpa using q2, ⟨q3.os, q3.tape, q3.output, q3.size, fun i hi => q3.block i hi (by simp [Value.ownBlock])⟩⟩
theorem step_ints {w : World} {ops : Array Oper} {o : Oper} {a : Act} {K : Act → World → Prop} {Q : Exit → Act → World → Prop} {E : Prop} (hgd : o.guard = none) (sl x : Operand)
    (ho : o.op = .call { callee := .builtin .append, args := #[sl, x], argTypes := #[tIs, tIs] }) (ht : o.type = tIs) (w0 : World) (k0 : Below w0.heap.size w0 w) (v : Value) (ws : List Int) (m : Nat) (hm : ws.length = m) (hs : a.eval sl = .slice none 0 0) (hx : a.eval x = v) (hv : IntsAt w0 v ws) (hc : ∀ n c, v = .slice none n c → c = 0) (hn : ws.length ≤ 1000)
    (h : ∀ p' c' w', w'.ownsRow w0.heap.size tI 1 (.slice p' m c') ws.length (ivs ws) → Below w0.heap.size w0 w' → K (a.put o.dst (.slice p' m c')) w') : if Region.wanted o (yielded ops a.tmps) = true then Oper.wp Tryz.prog o a w K Q else E := by
  subst hm
  obtain ⟨p', c', w', h1, h2, h3⟩ := copy_ints w v ws (hv.keeps k0) hc hn
  exact step_append_known hgd sl x _ _ ho _ _ _ w' hs hx (by rw [ht]; exact h1) (h p' c' w' (own_base h2 fun g hg => Nat.le_trans k0.size (h2.lt g hg).1) ⟨h3.os.trans k0.os, h3.tape.trans k0.tape, h3.output.trans k0.output, Nat.le_trans k0.size h3.size, fun i hi => (h3.block i (Nat.lt_of_lt_of_le hi k0.size)).trans (k0.block i hi)⟩)

/-- What Fail leaves: the document's disk counts to 2^40 at most. -/
def rfailD (D : DiskM) (n : Int) (ws : List Int) : DiskM :=
  if D.up = false then D else if n < 0 then D else ⟨D.cap, D.files, D.up, D.starts, some (min n.toNat 1099511627776, ws)⟩

end Go.Proofs.YtlaepdpgegoopaaGreat
namespace Go.Proofs.YtlaepdpgegoopaaGreat
open Go.ChangeShapes Go.WideShapes Go.ChangeAt Go.RowKit Go.Maps Csv Dk

/-- Failures that k changes do not tell apart. -/
def FarR (k : Nat) (f f' : Option (Nat × List Int)) : Prop :=
  (f = none ∧ f' = none) ∨ ∃ a b ks, f = some (a, ks) ∧ f' = some (b, ks) ∧ (a = b ∨ (k ≤ a ∧ k ≤ b))
def Sim (k : Nat) (D R : DiskM) : Prop := ∃ f', R = ⟨D.cap, D.files, D.up, D.starts, f'⟩ ∧ FarR k D.fail f'
theorem FarR.less {k k' : Nat} {f f' : Option (Nat × List Int)} (h : FarR k f f') (hk : k' ≤ k) : FarR k' f f' := by
  rcases h with h | ⟨a, b, ks, h1, h2, h3⟩
  · exact Or.inl h
  · exact Or.inr ⟨a, b, ks, h1, h2, by omega⟩
theorem Sim.less {k k' : Nat} {D R : DiskM} (h : Sim k D R) (hk : k' ≤ k) : Sim k' D R := by
  obtain ⟨f', h1, h2⟩ := h
  exact ⟨f', h1, h2.less hk⟩
theorem Sim.refl (k : Nat) (D : DiskM) (h : D.fail = none) : Sim k D D := ⟨D.fail, rfl, Or.inl ⟨h, h⟩⟩
theorem count_sim {k : Nat} {D R : DiskM} (h : Sim (k + 1) D R) : D.count.1 = R.count.1 ∧ Sim k D.count.2 R.count.2 := by
  obtain ⟨f', rfl, h2⟩ := h
  obtain ⟨cap, files, up, st, f⟩ := D
  rcases h2 with ⟨h1, h2⟩ | ⟨a, b, ks, h1, h2, h3⟩
  · simp only at h1
    subst h1 h2
    exact ⟨rfl, none, rfl, Or.inl ⟨rfl, rfl⟩⟩
  · simp only at h1
    subst h1 h2
    cases a with
    | zero =>
      obtain rfl : b = 0 := by omega
      exact ⟨rfl, none, rfl, Or.inl ⟨rfl, rfl⟩⟩
    | succ a =>
      cases b with
      | zero => omega
      | succ b => exact ⟨rfl, some (b, ks), rfl, Or.inr ⟨a, b, ks, rfl, rfl, by omega⟩⟩
theorem put_sim {k : Nat} {D R : DiskM} (h : Sim k D R) (l : List FileM) : Sim k (D.put l) (R.put l) := by
  obtain ⟨f', rfl, h2⟩ := h
  exact ⟨f', rfl, h2⟩
theorem files_sim {k : Nat} {D R : DiskM} (h : Sim k D R) : R.files = D.files ∧ R.up = D.up ∧ R.cap = D.cap ∧ R.starts = D.starts := by
  obtain ⟨f', rfl, h2⟩ := h
  exact ⟨rfl, rfl, rfl, rfl⟩
theorem then_sim {k : Nat} {D R : DiskM} (h : Sim (k + 1) D R) (g : List FileM → List FileM) : (D.then g).1 = (R.then g).1 ∧ Sim k (D.then g).2 (R.then g).2 := by
  obtain ⟨h1, h2⟩ := count_sim h
  unfold DiskM.then
  rw [← h1]
  split
  · exact ⟨rfl, by rw [(files_sim h2).1]; exact put_sim h2 _⟩
  · exact ⟨h1, h2⟩
theorem withF_sim {k : Nat} {D R : DiskM} (h : Sim (k + 1) D R) (n : Int) (p q : FileM → Int × DiskM) (hpq : ∀ f, (p f).1 = (q f).1 ∧ Sim k (p f).2 (q f).2) : (withF D n p).1 = (withF R n q).1 ∧ Sim k (withF D n p).2 (withF R n q).2 := by
  unfold withF
  rw [(files_sim h).2.1, (files_sim h).1]
  split
  · exact ⟨rfl, h.less (by omega)⟩
  · split
    · exact ⟨rfl, h.less (by omega)⟩
    · exact hpq _
theorem create_sim {k : Nat} {D R : DiskM} (h : Sim (k + 1) D R) (n : Int) : (createD D n).1 = (createD R n).1 ∧ Sim k (createD D n).2 (createD R n).2 := by
  have h0 := h.less (show k ≤ k + 1 by omega)
  unfold createD
  rw [(files_sim h).2.1, (files_sim h).1]
  split
  · exact ⟨rfl, h0⟩
  · split
    · exact ⟨rfl, h0⟩
    · split
      · exact ⟨rfl, h0⟩
      · split
        · exact ⟨rfl, h0⟩
        · exact then_sim h _
theorem append_sim {k : Nat} {D R : DiskM} (h : Sim (k + 1) D R) (n : Int) (s : Bs) : (appendD D n s).1 = (appendD R n s).1 ∧ Sim k (appendD D n s).2 (appendD R n s).2 := by
  refine withF_sim h n _ _ fun f => ?_
  have hf : R.free = D.free := by unfold DiskM.free; rw [(files_sim h).1, (files_sim h).2.2.1]
  rw [hf, (files_sim h).1]
  split
  · exact ⟨rfl, h.less (by omega)⟩
  · exact count_sim (put_sim h _)
theorem sync_sim {k : Nat} {D R : DiskM} (h : Sim (k + 1) D R) (n : Int) : (syncD D n).1 = (syncD R n).1 ∧ Sim k (syncD D n).2 (syncD R n).2 := withF_sim h n _ _ fun f => then_sim h _
theorem trunc_sim {k : Nat} {D R : DiskM} (h : Sim (k + 1) D R) (n size : Int) : (truncD D n size).1 = (truncD R n size).1 ∧ Sim k (truncD D n size).2 (truncD R n size).2 := by
  refine withF_sim h n _ _ fun f => ?_
  split
  · exact ⟨rfl, h.less (by omega)⟩
  · exact then_sim h _
theorem delete_sim {k : Nat} {D R : DiskM} (h : Sim (k + 1) D R) (n : Int) : (deleteD D n).1 = (deleteD R n).1 ∧ Sim k (deleteD D n).2 (deleteD R n).2 := withF_sim h n _ _ fun f => then_sim h _
theorem read_sim {k : Nat} {D R : DiskM} (h : Sim k D R) (n a s : Int) : readD D n a s = readD R n a s := by
  unfold readD
  rw [(files_sim h).2.1, (files_sim h).1]
theorem size_sim {k : Nat} {D R : DiskM} (h : Sim k D R) (n : Int) : sizeD D n = sizeD R n := by
  unfold sizeD
  rw [(files_sim h).2.1, (files_sim h).1]
theorem down_sim {k : Nat} {D R : DiskM} (h : Sim k D R) (ks : List Int) : Sim k (D.down ks) (R.down ks) := by
  obtain ⟨f', rfl, h2⟩ := h
  exact ⟨none, rfl, Or.inl ⟨rfl, rfl⟩⟩
theorem crash_sim {k : Nat} {D R : DiskM} (h : Sim k D R) (ks : List Int) : (crashD D ks).1 = (crashD R ks).1 ∧ Sim k (crashD D ks).2 (crashD R ks).2 := by
  unfold crashD
  rw [(files_sim h).2.1]
  split
  · exact ⟨rfl, h⟩
  · exact ⟨rfl, down_sim h ks⟩
theorem start_sim {k : Nat} {D R : DiskM} (h : Sim k D R) : (startD D).1 = (startD R).1 ∧ Sim k (startD D).2 (startD R).2 := by
  unfold startD
  rw [(files_sim h).2.1, (files_sim h).2.2.2, (files_sim h).1, (files_sim h).2.2.1]
  split
  · exact ⟨rfl, h⟩
  · obtain ⟨f', rfl, h2⟩ := h
    exact ⟨rfl, f', rfl, h2⟩
theorem fail_sim {k : Nat} {D R : DiskM} (h : Sim k D R) (hk : k ≤ 1000) (n : Int) (ks : List Int) : (failD D n ks).1 = (failD R n ks).1 ∧ Sim k (failD D n ks).2 (rfailD R n ks) := by
  unfold failD rfailD
  rw [(files_sim h).2.1, (files_sim h).2.2.2, (files_sim h).1, (files_sim h).2.2.1]
  split
  · exact ⟨rfl, h⟩
  · split
    · exact ⟨rfl, h⟩
    · exact ⟨rfl, some (min n.toNat 1099511627776, ks), rfl, Or.inr ⟨n.toNat, min n.toNat 1099511627776, ks, rfl, rfl, by omega⟩⟩

/-- The document's own Crash, whatever the disk. -/
theorem rcrashd_any (r : Nat) (D : DiskM) (G : List Nat) (vA : Value) (ws : List Int) (w : World) (h : IsRef w r D G) (hA : IntsAt w vA ws) :
    Calls Tryz.prog 59 #[ptrV r, vA] w fun e w' => e = .returned (.int .i64 (crashD D ws).1) ∧ RGoes w w' G r (crashD D ws).2 := by
  obtain ⟨vL, vK, ks, h, rfl⟩ := h
  cases hu : D.up with
  | true =>
    have e : crashD D ws = (0, D.down ws) := by unfold crashD; rw [if_neg (by rw [hu]; decide)]
    rw [e]
    refine (rcrash_any r vL vK ks D vA ws w h hu hA).mono ?_
    rintro e w' ⟨rfl, vL', m1, m2, m3⟩
    exact ⟨rfl, rgoes_mk (vL' := vL') (vK' := .slice none 0 0) (ks' := []) m1 (m2.mono fun x hx => by simp at hx; subst hx; simp) (fun b hb => Or.inr (m3 b hb)) (fun b hb => by cases hb)⟩
  | false =>
    have e : crashD D ws = (61, D) := by unfold crashD; rw [if_pos hu]
    rw [e]
    have H := Lib.hid h
    obtain ⟨_, _, c2, _⟩ := h.cells
    have c2' : w.cell? ⟨r, 2, none⟩ = some (.bool true) := by rw [c2, hu]; rfl
    obtain ⟨pv, cv, rfl, _, _⟩ := hA
    clear h hu e c2
    unfold ptrV at *
    go_enter Tryz.func59, Tryz.ntmps59
    go_wp2
    go_ret
    exact ⟨rfl, RGoes.same ⟨vL, vK, ks, H.out, rfl⟩ (Keeps.refl _)⟩

/-! ### Both disks in memory -/
structure Pair (w : World) (d r : Nat) (D R : DiskM) (G GR : List Nat) : Prop where
  disk : IsDisk w d D G
  ref : IsRef w r R GR
  apart : ∀ b ∈ G, b ∉ GR
def PGoes (w w' : World) (G GR : List Nat) (d r : Nat) (D R : DiskM) : Prop :=
  ∃ G' GR', Pair w' d r D R G' GR' ∧ Frame (G ++ GR) w w' ∧ ∀ b ∈ G' ++ GR', b ∈ G ++ GR ∨ w.heap.size ≤ b
end Go.Proofs.YtlaepdpgegoopaaGreat
