
/- The document's own disk: Create. -/
import Derived.Test.YtpecbfcboocmcaaRefDel
import Derived.Deep.CutBlock
set_option linter.unusedVariables false
namespace Go.Proofs.Ytpecbfcboocmcaa
open Go.ChangeShapes Go.WideShapes Go.ChangeAt Go.RowKit Go.Maps Csv Dk

theorem ins_eq {l : List FileM} {k : Nat} {n : Int} (hk : k ≤ l.length) (h1 : ∀ j g, j < k → l[j]? = some g → g.n < n) (h2 : ∀ g, l[k]? = some g → ¬ g.n < n) : insF l n = (l.take k ++ [⟨n, [], 0⟩]) ++ l.drop k := by
  induction l generalizing k with
  | nil => simp at hk; subst hk; rfl
  | cons f r ih =>
    unfold insF
    cases k with
    | zero =>
      rw [if_neg (h2 f rfl)]
      rfl
    | succ k =>
      rw [if_pos (h1 0 f (by omega) rfl), ih (by simpa using hk) (fun j g hj hg => h1 (j + 1) g (by omega) (by simpa using hg)) (fun g hg => h2 g (by simpa using hg))]
      rfl
theorem src_one {w : World} {b : Nat} {n : Int} (h : w.heap[b]? = some (.cells #[.int .i64 n, .string ⟨#[]⟩, .int .i64 0] tFr (0, 0))) : Src w (.slice (some ⟨b, 0, none⟩) 1 1) [⟨n, [], 0⟩] := by
  refine ⟨_, 1, rfl, (fun e => by cases e), fun a ha j u hu => ?_⟩
  cases ha
  rw [addr_of, Joins.cell_of_block h j]
  have e : rcells [⟨n, [], 0⟩] = [.int .i64 n, .string ⟨#[]⟩, .int .i64 0] := rfl
  rw [e] at hu
  rw [← hu]
  simp

theorem bel_drew (w : World) : Below w.heap.size w w.drew := ⟨rfl, rfl, rfl, Nat.le_refl _, fun _ _ => rfl⟩
theorem bel_alloc (w : World) (X : Obj) : Below w.heap.size w (w.drew.alloc X) := (bel_drew w).alloc (Nat.le_refl _) X
theorem step_copy2 {w : World} {ops : Array Oper} {o : Oper} {a : Act} {K : Act → World → Prop} {Q : Exit → Act → World → Prop} {E : Prop} (hgd : o.guard = none) (sl x : Operand)
    (ho : o.op = .call { callee := .builtin .append, args := #[sl, x], argTypes := #[tFs, tFs] }) (ht : o.type = tFs) (w0 : World) (k0 : Below w0.heap.size w0 w) (src : Value) (M : List FileM) (m : Nat) (hm : M.length = m) (hs : a.eval sl = .slice none 0 0) (hx : a.eval x = src) (hsrc : Src w0 src M) (hn : M.length ≤ 1000)
    (h : ∀ p' c' w', w'.ownsRow w0.heap.size tFr 3 (.slice p' m c') M.length (rcells M) → Below w0.heap.size w0 w' → (∀ b, b < w.heap.size → w'.heap[b]? = w.heap[b]?) → K (a.put o.dst (.slice p' m c')) w') : if Region.wanted o (yielded ops a.tmps) = true then Oper.wp Try.prog o a w K Q else E := by
  subst hm
  obtain ⟨p', c', w', h1, h2, h3⟩ := copy_row w src M (hsrc.keeps k0) hn
  exact step_append_known hgd sl x _ _ ho _ _ _ w' hs hx (by rw [ht]; exact h1) (h p' c' w' (own_base h2 fun g hg => Nat.le_trans k0.size (h2.lt g hg).1) ⟨h3.os.trans k0.os, h3.tape.trans k0.tape, h3.output.trans k0.output, Nat.le_trans k0.size h3.size, fun i hi => (h3.block i (Nat.lt_of_lt_of_le hi k0.size)).trans (k0.block i hi)⟩ h3.block)
theorem step_app2 {w : World} {ops : Array Oper} {o : Oper} {a : Act} {K : Act → World → Prop} {Q : Exit → Act → World → Prop} {E : Prop} (hgd : o.guard = none) (sl x : Operand)
    (ho : o.op = .call { callee := .builtin .append, args := #[sl, x], argTypes := #[tFs, tFs] }) (ht : o.type = tFs) (w0 w1 : World) (k1 : Below w0.heap.size w0 w1) (k0 : Below w1.heap.size w1 w) (v src : Value) (L M : List FileM) (m : Nat) (hm : L.length + M.length = m) (hs : a.eval sl = v) (hx : a.eval x = src) (hown : w1.ownsRow w0.heap.size tFr 3 v L.length (rcells L)) (hsrc : Src w src M) (hn : L.length + M.length ≤ 1000)
    (h : ∀ p' c' w', w'.ownsRow w0.heap.size tFr 3 (.slice p' m c') (L ++ M).length (rcells (L ++ M)) → Below w0.heap.size w0 w' → K (a.put o.dst (.slice p' m c')) w') : if Region.wanted o (yielded ops a.tmps) = true then Oper.wp Try.prog o a w K Q else E := by
  have k : Below w0.heap.size w0 w := ⟨k0.os.trans k1.os, k0.tape.trans k1.tape, k0.output.trans k1.output, Nat.le_trans k1.size k0.size, fun i hi => (k0.block i (Nat.lt_of_lt_of_le hi k1.size)).trans (k1.block i hi)⟩
  exact step_app hgd sl x ho ht w0.heap.size v src L M m hm hs hx (own_local hown fun b hb => k0.block b (hown.lt b hb).2) hsrc hn k.size fun p' c' w' g1 g2 => h p' c' w' g1 (k.trans g2)

set_option maxRecDepth 100000 in
set_option maxHeartbeats 4000000 in
theorem rmake_some (r g c N : Nat) (vK : Value) (ks : List Int) (D : DiskM) (n : Int) (w : World) (h : RefAt w r (.slice (some ⟨g, 0, none⟩) N c) vK ks D) (hN : D.files.length = N) (hn : I64 n) (h0 : ¬ n < 0) (hu : D.up = true) (hp : posF D.files n = none) (hfull : ¬ 100 ≤ N) (hc : D.count.1 = 0) (cfi : D.count.2.files = D.files) :
    Calls Try.prog 23 #[ptrV r, .int .i64 n] w fun e w' => e = .returned (.int .i64 0) ∧ RGoes w w' (rfoot r (.slice (some ⟨g, 0, none⟩) N c) vK) r (D.count.2.put (insF D.count.2.files n)) := by
  have H := Lib.hid h
  have hn' := hn.nat
  have cf := rfind_any r (.slice (some ⟨g, 0, none⟩) N c) vK ks D n w h
  rw [hp] at cf
  have cf' : Calls Try.prog 44 #[ptrV r, .int .i64 n] w fun e w' => e = .returned (.int .i64 (-1)) ∧ w = w' := cf
  have hmany := h.okay.many
  rw [hN] at hmany
  obtain ⟨_, c1, c2', _⟩ := h.cells
  rw [hu] at c2'
  have c2' : w.cell? ⟨r, 2, none⟩ = some (.bool false) := c2'
  have t0 : decide (n < 0) = false := decide_eq_false h0
  have t1 : decide ((100 : Int) ≤ (N : Int)) = false := decide_eq_false (by omega)
  have cn := rfails_no h hc
  have HF := Lib.hid (pos_none hp)
  have HCF := Lib.hid cfi
  have HNN := Lib.hid hN
  have HN0 := Lib.hid (show 0 ≤ n by omega)
  have HN9 := Lib.hid (show n ≤ 9223372036854775807 by omega)
  clear h hu hn h0 cf hp hN hc cfi
  unfold ptrV at *
  go_enter Try.func23, Try.ntmps23
  go_wp2_with (first
    | (go_at_call 44; refine cf'.mono ?_; rintro e w' ⟨rfl, rfl⟩)
    | fail)
  refine cn.mono ?_
  rintro e w2 ⟨rfl, h2, hg2⟩
  obtain ⟨_, d1, _, _, _, _, fz⟩ := h2.cells
  have f1 := fz 1
  have hrl := block_lt h2.ref
  have hNN : D.count.2.files.length = N := by rw [HCF.out]; exact HNN.out
  have hf2 : findF D.count.2.files n = none := by rw [HCF.out]; exact HF.out
  have hok := h2.okay.ins HN0.out HN9.out hf2 (by omega)
  have key : ∀ k, k ≤ N → (∀ j g, j < k → D.count.2.files[j]? = some g → g.n < n) → (∀ g, D.count.2.files[k]? = some g → ¬ g.n < n) → ∀ W2 p2 cp2, W2.ownsRow w2.heap.size tFr 3 (.slice p2 (N + 1) cp2) ((D.count.2.files.take k ++ ([⟨n, [], 0⟩] : List FileM)) ++ D.count.2.files.drop k).length (rcells ((D.count.2.files.take k ++ ([⟨n, [], 0⟩] : List FileM)) ++ D.count.2.files.drop k)) → Below w2.heap.size w2 W2 →
      RGoes w (W2.setCell ⟨r, 1, none⟩ (.slice p2 (N + 1) cp2)) (rfoot r (.slice (some ⟨g, 0, none⟩) N c) vK) r (D.count.2.put (insF D.count.2.files n)) := fun k hk g1 g2 W2 p2 cp2 q2 k2 => by
    have hins := ins_eq (n := n) (by omega) g1 g2
    have h3 := h2.keeps k2
    have b1 := Joins.block_setCell (i := 1) h3.ref (.slice p2 (N + 1) cp2)
    have o : ∀ b, b ≠ r → (W2.setCell ⟨r, 1, none⟩ (.slice p2 (N + 1) cp2)).heap[b]? = W2.heap[b]? := fun b hb => Below.heap_setCell _ _ _ _ hb
    have hlen : ((D.count.2.files.take k ++ ([⟨n, [], 0⟩] : List FileM)) ++ D.count.2.files.drop k).length = N + 1 := by simp [List.length_take, List.length_drop, hNN]; omega
    have hok := hok
    rw [hins] at hok ⊢
    refine rgoes_mk (vL' := .slice p2 (N + 1) cp2) (vK' := vK) (ks' := ks) (RefAt.turn (by rw [b1]; rfl) (own_zero (own_local q2 fun b hb => o b fun e => by have := (q2.lt b hb).1; omega)) (own_local h3.kept fun b hb => o b fun e => h3.r_ne.2 (e ▸ hb)) h3.fail hok) ?_ (fun b hb => ?_) (fun b hb => Or.inl (mem_rfoot.2 (Or.inr (Or.inr hb))))
    · have fr : Frame [r] W2 (W2.setCell ⟨r, 1, none⟩ (.slice p2 (N + 1) cp2)) := grown_frame (grown_setCell _ _ _ _) (by simp)
      exact ((grown_frame hg2 (by simp [rfoot])).trans (Frame.of_keeps k2 (rfoot r (.slice (some ⟨g, 0, none⟩) N c) vK)) fun x hx => Or.inl hx).trans fr fun x hx => by simp at hx; subst hx; exact Or.inl (by simp [rfoot])
    · have := (q2.lt b hb).1
      exact Or.inr (Nat.le_trans hg2.size this)
  have KEY := Lib.hid key
  have FOU := Lib.hid (own_files h2.row)
  have SRC := Lib.hid (own_src h2.row)
  have ROW := Lib.hid h2.row
  have NN2 := Lib.hid hNN
  have HR := Lib.hid hrl
  clear key hok hf2 hNN h2 hg2 fz cn cf'
  have CC := Lib.hid d1
  have FF := Lib.hid f1
  go_upto_block 0 with (fail)
  go_cut [5] from 26 (fun i wc => ∃ k : Nat, k ≤ N ∧ i = .int .i64 (k : Int) ∧ (∀ j g, j < k → D.count.2.files[j]? = some g → g.n < n) ∧ (∀ g, D.count.2.files[k]? = some g → ¬ g.n < n) ∧ w2 = wc)
  case rest =>
    obtain ⟨k, hk, rfl, hA, hB, rfl⟩ := hcut
    have HA := Lib.hid hA
    have HB := Lib.hid hB
    clear hA hB
    have HLT := Lib.hid (show (D.count.2.files.take k).length = k by have := NN2.out; rw [List.length_take]; omega)
    have HLT9 := Lib.hid (show (D.count.2.files.take k).length ≤ 1000 by have := NN2.out; rw [List.length_take]; omega)
    have HT1 := Lib.hid (show (D.count.2.files.take k).length + ([⟨n, [], 0⟩] : List FileM).length = k + 1 by have := NN2.out; rw [List.length_take]; simp; omega)
    have HT19 := Lib.hid (show (D.count.2.files.take k).length + ([⟨n, [], 0⟩] : List FileM).length ≤ 1000 by have := NN2.out; rw [List.length_take]; simp; omega)
    have HT2 := Lib.hid (show (D.count.2.files.take k ++ ([⟨n, [], 0⟩] : List FileM)).length + (D.count.2.files.drop k).length = N + 1 by have := NN2.out; simp [List.length_take, List.length_drop]; omega)
    have HT29 := Lib.hid (show (D.count.2.files.take k ++ ([⟨n, [], 0⟩] : List FileM)).length + (D.count.2.files.drop k).length ≤ 1000 by have := NN2.out; simp [List.length_take, List.length_drop]; omega)
    have HNC : N ≤ c := by
      have h := FOU.out
      obtain ⟨p, c', h1, h3, _⟩ := h
      cases h1; have := NN2.out; omega
    have hkc : k ≤ c := by omega
    have S1 := Lib.hid (src_take SRC.out k (by have := NN2.out; omega))
    have S2 : Hid (Src w2 (.slice (if c = k then some ⟨g, 0, none⟩ else some ⟨g, k * 3, none⟩) (N - k) (c - k)) (D.count.2.files.drop k)) := Lib.hid (by
      have := NN2.out
      split
      · exact src_drop SRC.out k 0 _ (by omega) (by omega) (Or.inr (by omega))
      · exact src_drop SRC.out k _ _ (by omega) (by omega) (Or.inl rfl))
    go_wp2
    go_region_law (first
      | (refine step_copy2 rfl _ _ rfl rfl w2 ?c1 _ (D.count.2.files.take k) k HLT.out rfl rfl S1.out HLT9.out ?_
         case c1 => first | exact bel_drew w2 | exact bel_alloc w2 _
         intro p1 cp1 W1 q1 k1 z1
         have c1' := (keepS k1.block HR.out CC.out FF.out).1
         have f1' := (keepS k1.block HR.out CC.out FF.out).2
         have l1' : r < W1.heap.size := Nat.lt_of_lt_of_le HR.out k1.size)
      | (refine step_app2 rfl _ _ rfl rfl w2 W1 k1 ?c1 _ _ (D.count.2.files.take k) [⟨n, [], 0⟩] (k + 1) HT1.out rfl rfl q1 ?c2 HT19.out ?_
         case c1 => first | exact Below.refl _ _ | exact (Below.refl _ _).alloc (Nat.le_refl _) _
         case c2 => first | exact src_one (heap_alloc_new _ _) | exact src_one ((z1 _ (by simp)).trans (heap_alloc_new _ _))
         intro p2 cp2 W2 q2 k2
         have c2' := (keepS k2.block HR.out CC.out FF.out).1
         have f2' := (keepS k2.block HR.out CC.out FF.out).2
         have l2' : r < W2.heap.size := Nat.lt_of_lt_of_le HR.out k2.size)
      | (refine step_app2 rfl _ _ rfl rfl w2 W2 k2 (Below.refl _ _) _ _ (D.count.2.files.take k ++ ([⟨n, [], 0⟩] : List FileM)) (D.count.2.files.drop k) (N + 1) HT2.out rfl rfl q2 (S2.out.keeps k2) HT29.out ?_
         intro p3 cp3 W3 q3 k3
         have c3' := (keepS k3.block HR.out CC.out FF.out).1
         have f3' := (keepS k3.block HR.out CC.out FF.out).2))
    all_goals (clear d1 f1 HLT HLT9 HT1 HT19 HT2 HT29 S1 S2 q1 k1 z1 c1' f1' l1' q2 k2 c2' f2' l2' c3' f3'; go_wp2; all_goals (go_ret; exact ⟨rfl, KEY.out k (by omega) HA.out HB.out _ _ _ q3 k3⟩))
  case first =>
    go_wp2
    go_loop [5] (fun i => ∃ k : Nat, k ≤ N ∧ i = .int .i64 (k : Int) ∧ ∀ j g, j < k → D.count.2.files[j]? = some g → g.n < n) (fun i => N - (intOf i).toNat)
    case atStart => exact ⟨0, by omega, rfl, fun j g hj => by omega⟩
    case round =>
      obtain ⟨k, hk, rfl, hall⟩ := hrel
      have HA := Lib.hid hall
      clear hall
      by_cases hlt : k < N
      · obtain ⟨f, hf⟩ : ∃ f, D.count.2.files[k]? = some f := ⟨_, List.getElem?_eq_getElem (by have := NN2.out; omega)⟩
        obtain ⟨a, ca, ha, o0, _, _⟩ := file_cells ROW.out hf
        obtain rfl : g = a := by have := congrArg Value.ownBlock ha; simpa [Value.ownBlock] using this
        clear ha
        have hi1 : (k : Int) < (N : Int) := by omega
        have HFF := Lib.hid hf
        obtain ⟨m, hm⟩ : ∃ m, f.n = m := ⟨_, rfl⟩
        rw [hm] at o0
        have HM := Lib.hid hm
        clear hf hm
        by_cases hmn : m < n
        · have t : decide (m < n) = true := decide_eq_true hmn
          have HH := Lib.hid (show ∀ j g, j < k + 1 → D.count.2.files[j]? = some g → g.n < n from fun j g hj hg => by
            by_cases e : j = k
            · subst e
              rw [HFF.out] at hg
              cases hg
              rw [HM.out]; exact hmn
            · exact HA.out j g (by omega) hg)
          clear hmn
          go_wp2
          go_round
          case rel => exact ⟨k + 1, by omega, by go_num, HH.out⟩
          case measure => simp [intOf]; omega
        · have t : decide (m < n) = false := decide_eq_false hmn
          have HB := Lib.hid (show ∀ g, D.count.2.files[k]? = some g → ¬ g.n < n from fun g hg => by
            rw [HFF.out] at hg
            cases hg
            rw [HM.out]; exact hmn)
          clear hmn
          go_wp2
          go_meet
          case rel => exact ⟨k, by omega, rfl, HA.out, HB.out, rfl⟩
      · obtain rfl : k = N := by omega
        have hz : ¬ ((k : Int) < (k : Int)) := by omega
        have HB := Lib.hid (show ∀ g, D.count.2.files[k]? = some g → ¬ g.n < n from fun g hg => by
          have := (List.getElem?_eq_some_iff.1 hg).1
          have := NN2.out
          omega)
        go_wp2
        go_meet
        case rel => exact ⟨k, by omega, rfl, HA.out, HB.out, rfl⟩
end Go.Proofs.Ytpecbfcboocmcaa
