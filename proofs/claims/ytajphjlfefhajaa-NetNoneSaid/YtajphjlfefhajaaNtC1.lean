/- The program's net: what it is in memory; none, has, New, Mail, Copy. -/
import Derived.Test.YtajphjlfefhajaaNtP
import Derived.Test.YtajphjlfefhajaaNtWide
import Derived.Lib.SmallJoins
import Derived.Lib.SliceRun
set_option linter.unusedVariables false
set_option linter.unusedSimpArgs false
namespace Go.Proofs.Ytajphjlfefhajaa
open Go.ChangeShapes Go.WideShapes Go.ChangeAt Go.RowKit Csv Ky
namespace Nt
abbrev tNt : TypeId := 48
/-- The program's net, in its blocks F. -/
def NtAt (W : World) (b : Nat) (F : Nat → Prop) (l : List Mg) : Prop :=
  ∃ v, W.heap[b]? = some (.cells #[.bool true, v] tNt (0, 0)) ∧ mgK.Wide W v l ∧ ∀ i, F i ↔ (i = b ∨ v.ownBlock = some i)
theorem two_at {W : World} {n : Nat} {t : TypeId} {x0 x1 : Value} (h : W.heap[n]? = some (.cells #[x0, x1] t (0, 0))) : W.cell? ⟨n, 0, none⟩ = some x0 ∧ W.cell? ⟨n, 1, none⟩ = some x1 ∧ W.frozen? ⟨n, 0, none⟩ = false ∧ W.frozen? ⟨n, 1, none⟩ = false :=
  ⟨Joins.cell_of_block h 0, Joins.cell_of_block h 1, Joins.unfrozen_of_block h 0, Joins.unfrozen_of_block h 1⟩
section
variable {W W' : World} {b : Nat} {F : Nat → Prop} {l l' : List Mg} {v v' : Value}
theorem NtAt.loc (h : NtAt W b F l) (hs : ∀ i, F i → W'.heap[i]? = W.heap[i]?) : NtAt W' b F l := by
  obtain ⟨v, h1, h2, h3⟩ := h
  exact ⟨v, (hs b ((h3 b).2 (Or.inl rfl))).trans h1, mgK.wide_local h2 fun g hg => hs g ((h3 g).2 (Or.inr hg)), h3⟩
theorem NtAt.lt (h : NtAt W b F l) {i : Nat} (hi : F i) : i < W.heap.size := by
  obtain ⟨v, h1, h2, h3⟩ := h
  rcases (h3 i).1 hi with rfl | e
  · exact box_lt h1
  · exact mgK.wide_lt h2 e
theorem NtAt.self (h : NtAt W b F l) : F b := by
  obtain ⟨v, h1, h2, h3⟩ := h
  exact (h3 b).2 (Or.inl rfl)
theorem NtAt.keeps (h : NtAt W b F l) (k : Keeps W W') : NtAt W' b F l := h.loc fun i hi => k.block i (h.lt hi)
/-- The row's block is none of a net's own. -/
theorem nt_apart {x0 : Value} (h : W.heap[b]? = some (.cells #[x0, v'] tNt (0, 0))) (hw : mgK.Wide W v l) : v.ownBlock ≠ some b := fun e => by
  obtain ⟨c, hc⟩ := mgK.wide_tag hw e
  rw [h] at hc
  have : tNt = mgK.t := by injection hc with e; injection e
  exact absurd this (by decide)
/-- Another list stored: the block's second cell. -/
theorem nt_put {w : World} (hF : ∀ i, F i ↔ (i = b ∨ v.ownBlock = some i)) (o : Only F w W) (hb : W.heap[b]? = some (.cells #[.bool true, v] tNt (0, 0))) (ho : mgK.Wide W v' l') (hl : ∀ j, v'.ownBlock = some j → v.ownBlock = some j ∨ w.heap.size ≤ j) : PGoes NtAt w (W.setCell ⟨b, 1, none⟩ v') b F l' := by
  have g : Only (fun i => i = b) W (W.setCell ⟨b, 1, none⟩ v') := Only.cell v'
  have hne := nt_apart hb ho
  refine ⟨⟨fun i => i = b ∨ v'.ownBlock = some i, ⟨v', ?_, ?_, fun i => Iff.rfl⟩, ?_⟩, o.trans (g.mono fun i hi => (hF i).2 (Or.inl hi))⟩
  · rw [Joins.block_setCell (i := 1) hb v']; rfl
  · exact mgK.wide_local ho fun i hi => g.same i (mgK.wide_lt ho hi) (fun e => hne (by rw [hi, e]))
  · rintro i (rfl | e)
    · exact Or.inl ((hF _).2 (Or.inl rfl))
    · rcases hl i e with q | q
      · exact Or.inl ((hF _).2 (Or.inr q))
      · exact Or.inr q
/-- A net of one's own. -/
theorem nt_box {w : World} (k : Keeps w W) (ho : mgK.Own w.heap.size W v l) : PNew NtAt w (W.alloc (.cells #[.bool true, v] tNt)) (.returned (.pointer (some ⟨W.heap.size, 0, none⟩))) l := by
  refine ⟨⟨_, fun i => i = W.heap.size ∨ v.ownBlock = some i, rfl, ⟨v, heap_alloc_new W _, ?_, fun i => Iff.rfl⟩, ?_⟩, k.trans (nbox _ _)⟩
  · exact mgK.wide_own (mgK.own_keeps ho (nbox _ _))
  · rintro i (rfl | e)
    · exact k.size
    · exact (mgK.own_lt ho i e).1
theorem PGoes.same {P : World → Nat → (Nat → Prop) → List Mg → Prop} (h : P W' b F l) (o : Only F W W') : PGoes P W W' b F l := ⟨⟨F, h, fun i hi => Or.inl hi⟩, o⟩
end
theorem pn_none_box (b : Nat) (m : Bool) (v : Value) (W : World) (h : W.heap[b]? = some (.cells #[.bool m, v] tNt (0, 0))) : Calls Try.prog 20 #[.pointer (some ⟨b, 0, none⟩)] W fun e w' => e = .returned (.bool (!m)) ∧ w' = W := by
  obtain ⟨y0, y1, z0, z1⟩ := two_at h
  clear h
  cases m <;>
  · go_enter Try.func20, Try.ntmps20
    go_wp2
    go_ret
    exact ⟨rfl, rfl⟩
theorem pn_none_nil (W : World) : Calls Try.prog 20 #[.pointer none] W fun e w' => e = .returned (.bool true) ∧ w' = W := by
  go_enter Try.func20, Try.ntmps20
  go_wp2
  go_ret
  exact ⟨rfl, rfl⟩
theorem pn_has (b : Nat) (F : Nat → Prop) (l : List Mg) (i : Int) (W : World) (h : NtAt W b F l) : Calls Try.prog 27 #[.pointer (some ⟨b, 0, none⟩), .int .i64 i] W fun e w' => e = .returned (.bool (isB l i)) ∧ w' = W := by
  obtain ⟨v, h1, h2, h3⟩ := h
  obtain ⟨p, c, rfl⟩ := mgK.wide_shape h2
  have CN := Lib.hid (pn_none_box b true _ W h1)
  obtain ⟨y0, y1, z0, z1⟩ := two_at h1
  obtain ⟨n, hn⟩ : ∃ n, l.length = n := ⟨_, rfl⟩
  have E : Hid (isB l i = (decide (0 ≤ i) && decide (i < (n : Int)))) := Lib.hid (by unfold isB; rw [hn])
  rw [hn] at y1
  generalize isB l i = B at E ⊢
  clear h1 h2 h3 hn
  by_cases h0 : 0 ≤ i
  · go_enter Try.func27, Try.ntmps27
    go_wp2_with fail
    refine CN.out.mono ?_
    rintro e w2 ⟨rfl, rfl⟩
    go_wp2
    go_ret
    exact ⟨by rw [E.out]; simp [h0], rfl⟩
  · go_enter Try.func27, Try.ntmps27
    go_wp2_with fail
    refine CN.out.mono ?_
    rintro e w2 ⟨rfl, rfl⟩
    go_wp2
    go_ret
    exact ⟨by rw [E.out]; simp [h0]; first | done | omega | (intro hq; omega), rfl⟩
theorem pn_new (W : World) : Calls Try.prog 9 #[] W fun e w' => PNew NtAt W w' e [] := by
  go_enter Try.func9, Try.ntmps9
  go_wp2
  go_ret
  exact nt_box (Keeps.refl _) (mgK.own_nil _ _)
set_option maxHeartbeats 4000000 in
/-- slices.Clone, of messages. -/
theorem pclone_mg (v : Value) (l : List Mg) (w : World) (h : mgK.Wide w v l) (hl : l.length ≤ 100000) :
    Calls Try.prog 21 #[v] w fun e w' => ∃ p c, e = .returned (.slice p l.length c) ∧ mgK.Own w.heap.size w' (.slice p l.length c) l ∧ Keeps w w' := by
  obtain ⟨pv, cv, rfl⟩ := mgK.wide_shape h
  have HS := Lib.hid (mgK.wide_src h)
  obtain ⟨N, hN⟩ : ∃ N, l.length = N := ⟨_, rfl⟩
  have HN := Lib.hid hN
  rw [hN] at HS hl ⊢
  have HL := Lib.hid hl
  have hb := hN
  have q22 : ∀ (w : World) (a : Option Addr) (n c n' c' : Nat), (binOp .eql tMgs (.slice a n c) (.slice none n' c')).run Try.prog w = .ok (.bool a.isNone) w := fun w a n c n' c' => Lib.run_eql_slice_nil w _ _ a n c n' c' Try.underlying28
  clear h hN
  cases pv with
  | none =>
    obtain ⟨h0, hc⟩ : l = [] ∧ cv = 0 := by
      obtain ⟨p, c, e, h1, _⟩ := HS.out
      simp only [Value.slice.injEq] at e
      obtain ⟨rfl, _, rfl⟩ := e
      exact h1 rfl
    subst h0 hc
    obtain rfl : N = 0 := hb.symm
    go_enter Try.func21, Try.ntmps21
    go_wp2
    go_ret
    exact ⟨none, 0, rfl, mgK.own_nil _ _, Keeps.refl _⟩
  | some a =>
    go_enter Try.func21, Try.ntmps21
    have HW := Lib.hid (World.ownsRow_made w #[] 0 (base := w.heap.size) (e := mgK.t) (size := mgK.sz) (Nat.le_refl _) (Nat.zero_le _) (by simp))
    obtain ⟨p', c', w2, R1, R2, R3⟩ := mgK.app_row (w.alloc (.cells #[] mgK.t)) w.heap.size (.slice (some ⟨w.heap.size, 0, none⟩) 0 0) [] (.slice (some a) N cv) l HW.out (RowK.Src.keeps mgK HS.out (nbox _ _)) (by simp; omega) (by simp)
    simp only [List.length_nil, Nat.zero_add, List.nil_append] at R1 R2
    rw [HN.out] at R1 R2
    have HR : Hid ((Builtin.append_ #[tMgs, tMgs] tMgs #[.slice (some ⟨w.heap.size, 0, none⟩) 0 0, .slice (some a) N cv]).run Try.prog (w.alloc (.cells #[] mgK.t)) = .ok (.slice p' N c') w2) := Lib.hid R1
    have HO2 := Lib.hid R2
    have HK2 : Hid (Keeps w w2) := Lib.hid (by
      have k1 := nbox w (.cells #[] mgK.t)
      refine ⟨R3.os.trans k1.os, R3.tape.trans k1.tape, R3.output.trans k1.output, Nat.le_trans k1.size R3.size, fun i hi => (R3.block i (Nat.lt_of_lt_of_le hi k1.size) (fun e => ?_)).trans (k1.block i hi)⟩
      simp [Value.ownBlock] at e
      omega)
    have tt : mgK.t = tMg := rfl
    rw [tt] at HR
    clear R1 R2 R3 HW
    go_wp2_with (at_builtin; refine wpAppKnown rfl _ _ _ _ rfl _ _ _ _ rfl rfl HR.out ?_)
    go_ret
    exact ⟨p', c', rfl, HO2.out, HK2.out⟩
theorem pn_mail (b : Nat) (F : Nat → Prop) (l : List Mg) (W : World) (h : NtAt W b F l) (hl : l.length ≤ 1000) : Calls Try.prog 14 #[.pointer (some ⟨b, 0, none⟩)] W fun e w' => ∃ v, e = .returned v ∧ mgK.Own W.heap.size w' v l ∧ Keeps W w' := by
  obtain ⟨v, h1, h2, h3⟩ := h
  have CN := Lib.hid (pn_none_box b true _ W h1)
  have CC := Lib.hid (pclone_mg v l W h2 (by omega))
  obtain ⟨p, c, rfl⟩ := mgK.wide_shape h2
  obtain ⟨y0, y1, z0, z1⟩ := two_at h1
  clear h1 h2 h3
  go_enter Try.func14, Try.ntmps14
  go_wp2_with fail
  refine CN.out.mono ?_
  rintro e w2 ⟨rfl, rfl⟩
  go_wp2_with fail
  refine CC.out.mono ?_
  rintro e w3 ⟨p2, c2, rfl, q1, q2⟩
  have Q1 := Lib.hid q1
  have Q2 := Lib.hid q2
  clear q1 q2
  go_wp2
  go_ret
  exact ⟨_, rfl, Q1.out, Q2.out⟩
theorem pn_copy (b : Nat) (F : Nat → Prop) (l : List Mg) (W : World) (h : NtAt W b F l) (hl : l.length ≤ 1000) : Calls Try.prog 10 #[.pointer (some ⟨b, 0, none⟩)] W fun e w' => PNew NtAt W w' e l := by
  obtain ⟨v, h1, h2, h3⟩ := h
  have CN := Lib.hid (pn_none_box b true _ W h1)
  have CC := Lib.hid (pclone_mg v l W h2 (by omega))
  obtain ⟨p, c, rfl⟩ := mgK.wide_shape h2
  obtain ⟨y0, y1, z0, z1⟩ := two_at h1
  clear h1 h2 h3
  go_enter Try.func10, Try.ntmps10
  go_wp2_with fail
  refine CN.out.mono ?_
  rintro e w2 ⟨rfl, rfl⟩
  go_wp2_with fail
  refine CC.out.mono ?_
  rintro e w3 ⟨p2, c2, rfl, q1, q2⟩
  have Q1 := Lib.hid q1
  have Q2 := Lib.hid q2
  clear q1 q2
  go_wp2
  go_ret
  exact nt_box Q2.out Q1.out
end Nt
end Go.Proofs.Ytajphjlfefhajaa
