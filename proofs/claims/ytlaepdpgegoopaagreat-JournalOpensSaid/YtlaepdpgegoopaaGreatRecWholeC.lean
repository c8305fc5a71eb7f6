
/- The contract of records.Whole. -/
import Derived.Test.YtlaepdpgegoopaaGreatRecEach
set_option linter.unusedVariables false
namespace Go.Proofs.YtlaepdpgegoopaaGreat
open Go.RowKit Go.Shelf Rc Csv
attribute [local go_sem] Oper.semAt_some

theorem each_in (n : Nat) (s : ByteArray) (w : World) :
    CallsIn Fence.wide n Tryz.prog 88 #[.string s] w fun e w' => e = .returned (.func (.func 93) #[] #[.pointer (some ⟨w.heap.size, 0, none⟩)]) ∧ w' = w.alloc (.cells #[.string s] tS) := by
  refine callsIn_of_wp Tryz.func88 rfl trivial ?_ rfl
  simp only [Tryz.ntmps88, List.size_toArray, List.length_cons, List.length_nil, Nat.reduceAdd, Nat.reduceSub, Array.replicate_succ, Array.replicate_zero, List.push_toArray, List.append_toArray, List.nil_append, List.cons_append]
  gi_wp2
  go_ret
  exact ⟨rfl, rfl⟩
def SameAt (b : Nat) (A B : World) : Prop := B.heap[b]? = A.heap[b]?
theorem each_stops (n : Nat) (hn : 1 ≤ n) (Bn : Nat) (s : ByteArray) (hs : s.size ≤ 1000000) (w : World) (hB : Bn < w.heap.size) (hc : w.cell? ⟨Bn, 0, none⟩ = some (.string s)) :
    SeqStopsK Fence.wide n Tryz.prog 93 #[.pointer (some ⟨Bn, 0, none⟩)] (fun x : List UInt8 × Nat => #[Value.string ⟨x.1.toArray⟩, Value.int .i64 (x.2 : Int)]) (SameAt Bn) (fun ys => ∃ a, Done s.data.toList ys a) (fun _ => True) s.size w := fun l J Jx W hW hJ _ hY h0 =>
  each1_in n hn l Bn s hs J Jx W hJ hY ((hW.cell (p := ⟨Bn, 0, none⟩) hB).trans hc) h0

/-- What the loop keeps. -/
def WholeI (w : World) (s : ByteArray) (pre : List (List UInt8 × Nat)) (W : World) : Prop :=
  ∃ v, Boxed W w.heap.size tR v ∧ Boxed W (w.heap.size + 1) 3 (.int .i64 (lastE pre : Int)) ∧ Boxed W (w.heap.size + 1 + 1) tS (.string s) ∧ W.ownsRow (w.heap.size + 3) tS 1 v (pays pre).length (svs (pays pre)) ∧ Below w.heap.size w W
theorem boxed_turn {X Y : World} {row : Option Nat} {B : Nat} {t : TypeId} {v : Value} (h : Boxed X B t v) (hg : X.grownBy Y row) (hr : ∀ r, row = some r → ∃ o : Obj, X.heap[r]? = some o ∧ o.isCells = false) : Boxed Y B t v :=
  h.kept hg (fun e' => by
    obtain ⟨o, ho, hc⟩ := hr B e'.symm
    rw [show X.heap[B]? = _ from h] at ho; cases ho; cases hc)
theorem wholeI_own (w : World) (s : ByteArray) (n : Nat) (hn : w.heap.size ≤ n) : OwnFrom n (WholeI w s) := by
  rintro pre X Y row ⟨v, h1, h2, h3, h4, h5⟩ hg hr
  have hr' : ∀ r, row = some r → ∃ o : Obj, X.heap[r]? = some o ∧ o.isCells = false := fun r e => (hr r e).2
  refine ⟨v, boxed_turn h1 hg hr', boxed_turn h2 hg hr', boxed_turn h3 hg hr', h4.kept hg ?_, h5.grown hg h5.size fun k e => ?_⟩
  · rcases h4.2 with ⟨rfl, _⟩ | ⟨g, cap, cur, rfl, _, hgb, _⟩
    · exact .inl rfl
    · refine .inr fun e' => ?_
      obtain ⟨o, ho, hc⟩ := hr' g (by simpa [Value.ownBlock] using e'.symm)
      rw [hgb] at ho; cases ho; cases hc
  · have := (hr k e).1
    omega

/-- What an append in the round leaves. -/
theorem whole_step {w W w1 : World} {s : ByteArray} {v v' n1 X : Value} {k m : Nat} {xs ys : List Value} (hv : Boxed W w.heap.size tR v) (hv1 : Boxed W (w.heap.size + 1) 3 n1) (hv2 : Boxed W (w.heap.size + 1 + 1) tS (.string s))
    (hrow : W.ownsRow (w.heap.size + 3) tS 1 v k xs) (hB : Below w.heap.size w W) (hown' : w1.ownsRow (w.heap.size + 3) tS 1 v' m ys) (hgrow : (W.alloc (.cells #[X] tS)).grownBy w1 v.ownBlock) :
    Boxed w1 w.heap.size tR v ∧ Boxed (w1.setCell ⟨w.heap.size, 0, none⟩ v') w.heap.size tR v' ∧ KeepsOthers W (w1.setCell ⟨w.heap.size, 0, none⟩ v') ∧ Below w.heap.size W (w1.setCell ⟨w.heap.size, 0, none⟩ v') ∧
    Boxed (w1.setCell ⟨w.heap.size, 0, none⟩ v') (w.heap.size + 1) 3 n1 ∧ Boxed (w1.setCell ⟨w.heap.size, 0, none⟩ v') (w.heap.size + 1 + 1) tS (.string s) ∧ (w1.setCell ⟨w.heap.size, 0, none⟩ v').ownsRow (w.heap.size + 3) tS 1 v' m ys := by
  have lower : ∀ {A : World} {u : Value} {j : Nat} {zs : List Value}, A.ownsRow (w.heap.size + 3) tS 1 u j zs → A.ownsRow w.heap.size tS 1 u j zs := by
    rintro A u j zs ⟨h1, h2⟩
    refine ⟨h1, ?_⟩
    rcases h2 with h2 | ⟨g, cap, cur, rfl, hb, r⟩
    · exact Or.inl h2
    · exact Or.inr ⟨g, cap, cur, rfl, by omega, r⟩
  obtain ⟨q1, q2, q3, q4, q5⟩ := hv.appended (by decide) (lower hrow) hB.size (Nat.le_refl _) (lower hown') hgrow
  refine ⟨q1, q2, q4, q5, ((hv1.alloc _).kept hgrow (hv1.not_row (by decide) hrow)).kept (grownBy_setCell' _ _ _) (by simp), ((hv2.alloc _).kept hgrow fun e => ?_).kept (grownBy_setCell' _ _ _) (by simp; omega), hown'.kept (grownBy_setCell' _ _ _) (.inr fun e => ?_)⟩
  · have := (hrow.lt _ e.symm).1
    omega
  · have := (hown'.lt _ e).1
    omega

set_option maxRecDepth 100000 in
set_option maxHeartbeats 4000000 in
theorem whole_in (n : Nat) (hn : 3 ≤ n) (s : ByteArray) (w : World) (hs : s.size ≤ 1000000) :
    CallsIn Fence.wide n Tryz.prog 79 #[.string s] w (WholeOut s.data.toList w) := by
  have h1 : 1 ≤ n := by omega
  obtain ⟨iS, hiS, hS⟩ := Option.map_eq_some_iff.1 info_S
  simp only [Prod.mk.injEq] at hS
  obtain ⟨hz0, hz1, hz2⟩ := hS
  refine callsIn_of_wp_marks Tryz.func79 rfl trivial ?_ rfl
  simp only [Tryz.ntmps79, List.size_toArray, List.length_cons, List.length_nil, Nat.reduceAdd, Nat.reduceSub, Array.replicate_succ, Array.replicate_zero, List.push_toArray, List.append_toArray, List.nil_append, List.cons_append]
  gi_wp2_with (refine ⟨trivial, ?_⟩; gi_at_call 88; refine (each_in (n - 1) s _).mono ?_; rintro e w' ⟨rfl, rfl⟩)
  have b0 := Boxed.new w tR (.slice none 0 0)
  have b1 := Boxed.new (w.alloc (.cells #[.slice none 0 0] tR)) 3 (.int .i64 0)
  have b2 := Boxed.new ((w.alloc (.cells #[.slice none 0 0] tR)).alloc (.cells #[.int .i64 0] 3)) tS (.string s)
  rw [World.size_alloc] at b1
  rw [World.size_alloc, World.size_alloc] at b2
  have hB0 : Below w.heap.size w (((w.alloc (.cells #[.slice none 0 0] tR)).alloc (.cells #[.int .i64 0] 3)).alloc (.cells #[.string s] tS)) := (((Below.refl _ w).alloc (Nat.le_refl _) _).alloc (by simp) _).alloc (by simp; omega) _
  have hsz : (((w.alloc (.cells #[.slice none 0 0] tR)).alloc (.cells #[.int .i64 0] 3)).alloc (.cells #[.string s] tS)).heap.size = w.heap.size + 3 := by simp
  refine wpIn_rangeFunc_ownG rfl h1 (gf := 93) (lb := #[.pointer (some ⟨w.heap.size + 1 + 1, 0, none⟩)]) rfl trivial (enters_of Tryz.func93 (by kernel_rfl) rfl)
    (each_stops (n - 1) (by omega) (w.heap.size + 1 + 1) s hs _ (by rw [hsz]; omega) b2.cell) (fun h g => Eq.trans g h) (fun W l o o' hl _ _ _ => by
      show (W.putObj l o').heap[w.heap.size + 1 + 1]? = _
      rw [hsz] at hl
      simp [World.putObj, Array.getElem?_setIfInBounds]
      omega) (Below.refl _ _) (fun _ => rfl)
    (WholeI w s) (fun _ _ _ => False) (wholeI_own w s _ (by rw [hsz]; omega)) (fun _ _ _ _ _ hs _ _ => hs)
    ⟨_, (b0.alloc _).alloc _, b1.alloc _, b2, World.ownsRow_nil _ _ _ _, hB0⟩
    (fun x => { tmps := #[.string s, undef, .pointer (some ⟨w.heap.size, 0, none⟩), .pointer (some ⟨w.heap.size + 1, 0, none⟩), .string ⟨x.1.toArray⟩, .int .i64 (x.2 : Int), .string s, .func (.func 93) #[] #[.pointer (some ⟨w.heap.size + 1 + 1, 0, none⟩)], .string ⟨x.1.toArray⟩, .int .i64 (x.2 : Int), undef, undef, undef, undef, undef, undef, undef], defers := [] }) ?assign ?body ?done ?stop
  case assign =>
    intro l x W K hK
    gi_wp2
    exact hK
  case body =>
    rintro l pre x W ⟨v, hv, hv1, hv2, hrow, hB⟩ hlt
    have hc := hv.cell
    have hpl : (pays pre).length ≤ 1000000 := by rw [pays_len]; omega
    have hl2 := hv2.lt
    gi_wp2_with (gi_at_builtin; refine wpListIn_append_own _ rfl _ _ tR rfl (w.heap.size + 3) tS iS (.string ByteArray.empty) 1 16 Tryz.underlying36 hiS hz0 hz1 hz2 rfl (by decide) _ _ _ rfl (hrow.alloc _) ⟨W.heap.size, 0, none⟩ 1 1 [.string ⟨x.1.toArray⟩] rfl rfl (cell_one_new _ _ _) (by simp [Value.oneCell']) (by unfold maxLen; omega) (by omega) (by simp; omega) ?_; intro v' w1 hown' hgrow _; obtain ⟨g', cap', rfl⟩ := ownsRow_succ hown'; obtain ⟨q1, q2, q4, q5, r1, r2, r3⟩ := whole_step hv hv1 hv2 hrow hB hown' hgrow; have hc1 := q1.cell; have hf1 := q1.frozen; have hc2 := r1.cell; have hf2 := r1.frozen)
    refine ⟨(q4.trans (KeepsOthers.setCell _ _ _)).from _, ?_, _, q2.kept (grownBy_setCell' _ _ _) (by simp), by rw [lastE_snoc]; exact r1.set _, r2.kept (grownBy_setCell' _ _ _) (by simp), ?_, (hB.trans q5).setCell (p := ⟨w.heap.size + 1, 0, none⟩) (by simp) _⟩
    · exact Eq.trans (r2.kept (grownBy_setCell' _ _ _) (by simp)) hv2.symm
    · rw [pays_snoc, List.length_append, ← svs_snoc]
      exact r3.kept (grownBy_setCell' _ _ _) (.inr (fun e => by have := (hown'.lt g' rfl).1; have e' := Option.some.inj e; have e2 : g' = w.heap.size + 1 := e'; omega))
  case done =>
    rintro D ys W hD ⟨a, hdone⟩ ⟨v, hv, hv1, hv2, hrow, hB⟩ hK
    have hc := hv.cell
    have hc1 := hv1.cell
    have hf := hv.frozen
    have hf1 := hv1.frozen
    obtain ⟨pv, cv, rfl⟩ : ∃ p c, v = .slice p (pays ys).length c := by
      rcases hrow.2 with ⟨rfl, h0⟩ | ⟨g, cap, cur, rfl, _⟩
      · exact ⟨none, 0, by rw [h0]⟩
      · exact ⟨_, _, rfl⟩
    gi_wp2
    gi_region
    gi_wp2
    have hK2 : ((W.setCell ⟨w.heap.size, 0, none⟩ (.slice pv (pays ys).length cv)).setCell ⟨w.heap.size + 1, 0, none⟩ (.int .i64 (lastE ys : Int))).drew.heap[D]? = some (.deferred (some [])) :=
      ((KeepsOthers.setCell _ _ _).trans (KeepsOthers.setCell _ _ _)).same D _ hK rfl
    refine ⟨by simp, .inl ⟨_, _, rfl, run_takeDeferred hK2, ?_⟩⟩
    have ne1 : some w.heap.size ≠ (Value.slice pv (pays ys).length cv).ownBlock := hv.not_row (by decide) hrow
    have ne2 : some (w.heap.size + 1) ≠ (Value.slice pv (pays ys).length cv).ownBlock := hv1.not_row (by decide) hrow
    have turn : ∀ r, some D = some r → ∃ o : Obj, ((W.setCell ⟨w.heap.size, 0, none⟩ (.slice pv (pays ys).length cv)).setCell ⟨w.heap.size + 1, 0, none⟩ (.int .i64 (lastE ys : Int))).drew.heap[r]? = some o ∧ o.isCells = false := fun r e => by cases e; exact ⟨_, hK2, rfl⟩
    have bA0 : Boxed ((W.setCell ⟨w.heap.size, 0, none⟩ (.slice pv (pays ys).length cv)).setCell ⟨w.heap.size + 1, 0, none⟩ (.int .i64 (lastE ys : Int))) w.heap.size tR (.slice pv (pays ys).length cv) := (hv.set _).kept (grownBy_setCell' _ (w.heap.size + 1) _) (by simp)
    have bA : Boxed ((W.setCell ⟨w.heap.size, 0, none⟩ (.slice pv (pays ys).length cv)).setCell ⟨w.heap.size + 1, 0, none⟩ (.int .i64 (lastE ys : Int))).drew w.heap.size tR (.slice pv (pays ys).length cv) := bA0
    have bB0 : Boxed ((W.setCell ⟨w.heap.size, 0, none⟩ (.slice pv (pays ys).length cv)).setCell ⟨w.heap.size + 1, 0, none⟩ (.int .i64 (lastE ys : Int))) (w.heap.size + 1) 3 (.int .i64 (lastE ys : Int)) := (hv1.kept (grownBy_setCell' W w.heap.size _) (by simp)).set _
    have bB : Boxed ((W.setCell ⟨w.heap.size, 0, none⟩ (.slice pv (pays ys).length cv)).setCell ⟨w.heap.size + 1, 0, none⟩ (.int .i64 (lastE ys : Int))).drew (w.heap.size + 1) 3 (.int .i64 (lastE ys : Int)) := bB0
    have e0 := (boxed_turn bA (grownBy_putObj' _ D (.deferred none)) turn).cell
    have e1 := (boxed_turn bB (grownBy_putObj' _ D (.deferred none)) turn).cell
    have r0 : ((W.setCell ⟨w.heap.size, 0, none⟩ (.slice pv (pays ys).length cv)).setCell ⟨w.heap.size + 1, 0, none⟩ (.int .i64 (lastE ys : Int))).ownsRow (w.heap.size + 3) tS 1 (.slice pv (pays ys).length cv) (pays ys).length (svs (pays ys)) :=
      (hrow.kept (grownBy_setCell' W w.heap.size _) (.inr ne1.symm)).kept (grownBy_setCell' _ (w.heap.size + 1) _) (.inr ne2.symm)
    have r1 : ((W.setCell ⟨w.heap.size, 0, none⟩ (.slice pv (pays ys).length cv)).setCell ⟨w.heap.size + 1, 0, none⟩ (.int .i64 (lastE ys : Int))).drew.ownsRow (w.heap.size + 3) tS 1 (.slice pv (pays ys).length cv) (pays ys).length (svs (pays ys)) := r0
    have r2 := ownsRow_putObj r1 (.deferred none) hK2 rfl
    have hbw : Below w.heap.size w ((W.setCell ⟨w.heap.size, 0, none⟩ (.slice pv (pays ys).length cv)).setCell ⟨w.heap.size + 1, 0, none⟩ (.int .i64 (lastE ys : Int))).drew := ((hB.setCell (p := ⟨w.heap.size, 0, none⟩) (Nat.le_refl _) _).setCell (p := ⟨w.heap.size + 1, 0, none⟩) (by simp) _).drew
    refine ⟨.tuple #[.slice pv (pays ys).length cv, .int .i64 (lastE ys : Int)], by simp [results, Tryz.results79, go_sem, e0, e1], ys, a, _, by rw [hdone.1.last], hdone, ?_, hbw.trans (belowK_b (w := w) (Nat.le_refl _) _ D _ _ (by rw [hsz] at hD; omega) hK2 rfl rfl)⟩
    obtain ⟨z1, z2⟩ := r2
    refine ⟨z1, ?_⟩
    rcases z2 with z2 | ⟨g, cap, cur, e, hb, r⟩
    · exact Or.inl z2
    · exact Or.inr ⟨g, cap, cur, e, by omega, r⟩
  case stop =>
    rintro D c pre W _ _ h _
    exact h.elim
/-- **Whole**: all records from the front on. -/
theorem whole_any (s : ByteArray) (w : World) (hs : s.size ≤ 1000000) :
    Calls Tryz.prog 79 #[.string s] w (WholeOut s.data.toList w) := (callsIn_wide (n := 3)).1 (whole_in 3 (Nat.le_refl _) s w hs)
end Go.Proofs.YtlaepdpgegoopaaGreat
