
/- The program's waits, one by one, out of the map (maps.Values), and collected (slices.Collect). -/
import Derived.RangeFuncBox
import Derived.RangeFuncNested
import Derived.RangeFuncBound
import Derived.RangeFuncCalls
import Derived.RangeFuncLeaves
import Derived.Shelf.Abstract
import Derived.Shelf.RegionOpen
import Derived.WalkKit
import Derived.OwnWalkIn
import Derived.TacticsInMore
import Derived.RegionIn
import Derived.LoopNIn
import Derived.LoopIn
import Derived.Maps.AppendAt
import Derived.Sort.MapsRangeIn
import Derived.Test.YtbemkcnikoiecaaWmIs
set_option linter.unusedVariables false
namespace Go.Proofs.Ytbemkcnikoiecaa
open Go.ChangeShapes Go.WideShapes Go.ChangeAt Go.RowKit Go.Shelf Ky Km
attribute [local go_sem] Oper.semAt_some
namespace Wt
/-- The rows that have come: each of the map's, none twice; those whose keys are to come are not among them. -/
structure Came (L : List W5) (left : Lit → Bool) (xs : List W5) : Prop where
  sub : ∀ x ∈ xs, x ∈ L
  once : xs.Nodup
  iff_ : ∀ x ∈ L, x ∈ xs ↔ left (kK x.o x.d) = false
structure Tidy (L : List W5) : Prop where
  rise : Dist L
  keys : ∀ x ∈ L, I64 x.o ∧ I64 x.d
theorem Came.perm {L xs : List W5} {left : Lit → Bool} (h : Came L left xs) (t : Tidy L) (hl : ∀ k, left k = false) : xs.Perm L := by
  have nd : L.Nodup := (List.pairwise_map.1 (show (L.map keyW).Pairwise (· ≠ ·) from t.rise)).imp fun {a b} hab e => hab (by rw [e])
  exact (List.perm_ext_iff_of_nodup h.once nd).2 fun x => ⟨h.sub x, fun hx => (h.iff_ x hx).2 (hl _)⟩
theorem Came.start {D : DataW Value} {L : List W5} (h : ApW D L) (t : Tidy L) : Came L (Maps.has D) [] := by
  refine ⟨fun x hx => (by cases hx), List.nodup_nil, fun x hx => ⟨fun h => (by cases h), fun hl => ?_⟩⟩
  obtain ⟨i1, i2⟩ := t.keys x hx
  have hA := h x.o x.d i1 i2
  rw [fd_mem t.rise hx] at hA
  have := hA.1
  rw [hl] at this
  cases this
set_option maxRecDepth 100000 in
/-- The next one. -/
theorem Came.next {D : DataW Value} {L xs : List W5} {left : Lit → Bool} {k : Int × Int} {v : Value} {kl : Lit} (h : Came L left xs) (hD : ApW D L) (t : Tidy L) (i1 : I64 k.1) (i2 : I64 k.2) (hk : keyOf Try.prog tKy (kyV k.1 k.2) = some kl) (hl : left kl = true)
    (hv : ∀ z, D.atKey kl z = .held v) : ∃ x, x ∈ L ∧ v = wtV x ∧ Came L (fun z => left z && !z.sameKey kl) (xs ++ [x]) := by
  have ek : kl = kK k.1 k.2 := by
    have := kK_is i1 i2
    rw [hk] at this
    exact Option.some.inj this
  subst ek
  have hA := hD k.1 k.2 i1 i2
  cases hf : fdW L k.1 k.2 with
  | none =>
    rw [hf] at hA
    have := (hA.2 .nil).symm.trans (hv .nil)
    cases this
  | some x =>
    rw [hf] at hA
    obtain ⟨hx, ho, hd⟩ := fd_some hf
    have ev : v = wtV x := by
      have := (hv .nil).symm.trans (hA.2 .nil)
      cases this
      rfl
    have hnx : x ∉ xs := fun e => by
      have := (h.iff_ x hx).1 e
      rw [ho, hd, hl] at this
      cases this
    have sk : ∀ y ∈ L, (kK y.o y.d).sameKey (kK k.1 k.2) = true ↔ y = x := fun y hy => by
      obtain ⟨j1, j2⟩ := t.keys y hy
      constructor
      · intro e
        have e2 : kK y.o y.d = kK k.1 k.2 := by
          unfold kK at e ⊢
          simpa [Lit.sameKey] using e
        obtain ⟨a1, a2⟩ := kK_inj j1 j2 i1 i2 e2
        have := fd_mem t.rise hy
        rw [a1, a2, hf] at this
        exact (Option.some.inj this).symm
      · rintro rfl
        rw [ho, hd]
        unfold kK
        simp [Lit.sameKey]
    refine ⟨x, hx, ev, ⟨fun y hy => ?_, ?_, fun y hy => ?_⟩⟩
    · rcases List.mem_append.1 hy with h1 | h1
      · exact h.sub y h1
      · simp only [List.mem_singleton] at h1; rw [h1]; exact hx
    · rw [List.nodup_append]
      exact ⟨h.once, by simp, fun a ha c hc e => by simp only [List.mem_singleton] at hc; subst hc; exact hnx (e ▸ ha)⟩
    · rw [List.mem_append, List.mem_singleton, h.iff_ y hy]
      have := sk y hy
      by_cases e : y = x
      · have e1 := this.2 e
        subst e
        simp [e1]
      · have e1 : (kK y.o y.d).sameKey (kK k.1 k.2) = false := by
          cases hs : (kK y.o y.d).sameKey (kK k.1 k.2) with
          | false => rfl
          | true => exact absurd (this.1 hs) e
        simp [e, e1]
end Wt
end Go.Proofs.Ytbemkcnikoiecaa
namespace Go.Proofs.Ytbemkcnikoiecaa
open Go.ChangeShapes Go.WideShapes Go.ChangeAt Go.RowKit Go.Shelf Ky Km
attribute [local go_sem] Oper.semAt_some
namespace Wt
set_option maxRecDepth 100000 in
set_option maxHeartbeats 4000000 in
theorem vals1_in (n : Nat) (hn : 1 ≤ n) (l Bm b nn : Nat) (D : DataW Value) (L : List W5) (RA : ApW D L) (T : Tidy L) (J Jx : List W5 → World → Prop) (W : World) (hJ : AbidesFrom W.heap.size J)
    (hY : ∀ pre x W, J pre W → pre.length < Maps.size D → YieldAt Fence.wide (n - 1) Try.prog l #[wtV x] W fun e W' => (e = .returned (.bool true) ∧ J (pre ++ [x]) W' ∧ KeepsWalks W W') ∨ (e = .returned (.bool false) ∧ Jx (pre ++ [x]) W'))
    (hm : W.cell? ⟨Bm, 0, none⟩ = some (.map (some b))) (hown : W.ownsMap Try.prog tKy asIs b nn D) (h0 : J [] W) :
    CallsIn Fence.wide n Try.prog 45 #[.func (.yield l) #[] #[], .pointer (some ⟨Bm, 0, none⟩)] W fun e W' => (∃ v, e = .returned v) ∧
      ((∃ xs, xs.Perm L ∧ J xs W') ∨ (∃ pre, True ∧ Jx pre W')) := by
  refine callsIn_of_wp Try.func45 rfl trivial ?_ rfl
  simp only [Try.ntmps45, List.size_toArray, List.length_cons, List.length_nil, Nat.reduceAdd, Nat.reduceSub, Array.replicate_succ, Array.replicate_zero, List.push_toArray, List.append_toArray, List.nil_append, List.cons_append]
  gi_wp2_with (first
    | (gi_at_range; refine wpListIn_range_own _ rfl _ tMw rfl tKy tPw lawKy Try.underlying48 asIs b nn _ rfl hown ?_; intro w0 hrg0 hg0 hs0)
    | gi_in)
  go_frame
  gi_loopw [4] (fun _ wr => ∃ (left : Lit → Bool) (cnt : Nat) (xs : List W5), wr.ranges Try.prog tKy asIs b W.heap.size nn D left cnt ∧ xs.length + cnt ≤ Maps.size D ∧ Came L left xs ∧ J xs wr)
    (fun _ wr => wr.rangeLeft b W.heap.size)
  case atStart =>
    exact ⟨_, _, [], hrg0, by simp, Came.start RA T, hJ [] W w0 none h0 hg0 (fun r e => by cases e)⟩
  case round =>
    obtain ⟨left, cnt, xs, hrg, hcs, hC, hJs⟩ := hrel
    gi_wp2_with (first
      | (gi_at_next; refine wpListIn_next_ranges _ rfl _ rfl tKy lawKy asIs (fun x : Int × Int => kyV x.1 x.2) id (fun key kl h => by obtain ⟨x, e, _⟩ := ky_inv h; exact ⟨x, e⟩) (fun v _ _ => ⟨v, rfl⟩) b W.heap.size nn _ _ _ rfl hrg ?_ ?_)
      | gi_in)
    · intro hc0 hl0
      gi_wp2
      go_end0
      exact ⟨⟨_, rfl⟩, .inl ⟨xs, hC.perm T hl0, hJs⟩⟩
    · intro k1 k2 c kl yd yp w2 cnt2 hkey hlk hv hat hrg2 hlt hg2 hs2 hen
      have hyd := asIs_inv hv
      subst hyd
      obtain ⟨k', ek, i1, i2⟩ := ky_inv hkey
      obtain ⟨rfl, rfl⟩ : k1 = k'.1 ∧ k2 = k'.2 := by
        unfold kyV at ek
        simpa using ek
      obtain ⟨x, hx, ex, hC2⟩ := hC.next (k := k') RA T i1 i2 hkey hlk hat
      have hJ2 : J xs w2 := hJ xs wr w2 (some W.heap.size) hJs hg2 (fun r e => by cases e; exact ⟨Nat.le_refl _, hrg.iter_walk⟩)
      subst ex
      clear hs2 hat hv
      have hJ3 : J xs (w2.alloc (wtBox tPw x)) := hJ xs w2 _ none hJ2 (World.grownBy_alloc w2 _ none) (fun r e => by cases e)
      obtain ⟨fn, tmps, assign, body, hy, hR⟩ := hY xs x (w2.alloc (wtBox tPw x)) hJ3 (by omega)
      unfold wtV at hen hy ⊢
      unfold wtBox at hy hR hJ3
      gi_wp2
      refine hR.mono ?_
      rintro e W3 (⟨rfl, hJ4, hk3⟩ | ⟨rfl, hJx3⟩)
      · have hrg3 := (hrg2.alloc _).of_walks hk3
        gi_wp2
        go_roundw
        case rel => exact ⟨_, cnt2, xs ++ [x], hrg3, by simp; omega, hC2, hJ4⟩
        case measure => rw [hrg3.left_eq, hrg.left_eq]; exact hlt
      · gi_wp2
        refine bodyPost_ret (results_none rfl _ _ _) rfl ?_
        exact ⟨⟨_, rfl⟩, .inr ⟨xs ++ [x], trivial, hJx3⟩⟩
end Wt
end Go.Proofs.Ytbemkcnikoiecaa
namespace Go.Proofs.Ytbemkcnikoiecaa
open Go.ChangeShapes Go.WideShapes Go.ChangeAt Go.RowKit Go.Shelf Ky Km
attribute [local go_sem] Oper.semAt_some
namespace Wt
theorem vals_stops (n : Nat) (hn : 1 ≤ n) (Bm b nn : Nat) (D : DataW Value) (L : List W5) (RA : ApW D L) (T : Tidy L) (w : World) (hB : Bm < w.heap.size) (hm : w.cell? ⟨Bm, 0, none⟩ = some (.map (some b))) (hown : w.ownsMap Try.prog tKy asIs b nn D) :
    SeqStopsK Fence.wide n Try.prog 45 #[.pointer (some ⟨Bm, 0, none⟩)] (fun x : W5 => #[wtV x]) KeepsWalks (fun xs => xs.Perm L) (fun _ => True) (Maps.size D) w := fun l J Jx W hW hJ _ hY h0 =>
  vals1_in n hn l Bm b nn D L RA T J Jx W hJ hY ((hW.cell (p := ⟨Bm, 0, none⟩) hB).trans hm) (own_map hown (hW.block b hown.lt)) h0
theorem ppBoxed_turn {X Y : World} {row : Option Nat} {B : Nat} {t : TypeId} {v : Value} (h : Boxed X B t v) (hg : X.grownBy Y row) (hr : ∀ r, row = some r → ∃ o : Obj, X.heap[r]? = some o ∧ o.isCells = false) : Boxed Y B t v :=
  h.kept hg (fun e' => by
    obtain ⟨o, ho, hc⟩ := hr B e'.symm
    rw [show X.heap[B]? = _ from h] at ho; cases ho; cases hc)
/-- What the loop keeps. -/
def CollI (w : World) (xs : List W5) (W : World) : Prop := ∃ v, Boxed W w.heap.size tPws v ∧ pwK.Own w.heap.size W v xs ∧ Below w.heap.size w W
theorem collI_own (w : World) (n : Nat) (hn : w.heap.size ≤ n) : OwnFrom n (CollI w) := by
  rintro xs X Y row ⟨v, h1, h2, h3⟩ hg hr
  have hr' : ∀ r, row = some r → ∃ o : Obj, X.heap[r]? = some o ∧ o.isCells = false := fun r e => (hr r e).2
  refine ⟨v, ppBoxed_turn h1 hg hr', pwK.own_local h2 fun g hv => hg.block g (pwK.own_lt h2 g hv).2 fun e => ?_, h3.grown hg h3.size fun k e => ?_⟩
  · obtain ⟨o, ho, hc⟩ := hr' g e.symm
    obtain ⟨cs, hcs⟩ := pwK.own_tag h2 hv
    rw [hcs] at ho; cases ho; cases hc
  · have := (hr k e).1
    omega
/-- A round's variable, in a box of its own. -/
def CollA (w : World) (sq : Value) (x : W5) (a : Act) (W : World) : Prop :=
  ∃ g : Nat, a = { tmps := #[.slice none 0 0, sq, .pointer (some ⟨w.heap.size, 0, none⟩), undef, .slice none 0 0, .pointer (some ⟨g, 0, none⟩), sq, .agg #[.int .i64 x.o, .int .i64 x.d, .int .i64 x.t, .int .i64 x.n, .bool x.p], undef, undef, undef, undef, undef], defers := [] } ∧
    W.heap[g]? = some (.cells #[.int .i64 x.o, .int .i64 x.d, .int .i64 x.t, .int .i64 x.n, .bool x.p] tPw (0, 0))
theorem collA_own (w : World) (sq : Value) (n : Nat) (x : W5) (a : Act) : OwnFrom n (fun (_ : Unit) W => CollA w sq x a W) := by
  rintro _ X Y row ⟨g, h1, h2⟩ hg hr
  refine ⟨g, h1, (hg.block g (Array.getElem?_eq_some_iff.1 h2).1 fun e => ?_).trans h2⟩
  obtain ⟨o, ho, hc⟩ := (hr g e.symm).2
  rw [h2] at ho; cases ho; cases hc
set_option maxRecDepth 100000 in
set_option maxHeartbeats 4000000 in
theorem append_in (n : Nat) (hn : 3 ≤ n) (Bm b nn : Nat) (D : DataW Value) (L : List W5) (RA : ApW D L) (T : Tidy L) (w : World) (hB : Bm < w.heap.size) (hm : w.cell? ⟨Bm, 0, none⟩ = some (.map (some b))) (hown : w.ownsMap Try.prog tKy asIs b nn D) (hN : nn ≤ 1000000) :
    CallsIn Fence.wide n Try.prog 44 #[.slice none 0 0, .func (.func 45) #[] #[.pointer (some ⟨Bm, 0, none⟩)]] w fun e w' =>
      ∃ v xs, e = .returned v ∧ xs.Perm L ∧ pwK.Own w.heap.size w' v xs ∧ Below w.heap.size w w' := by
  have h1 : 1 ≤ n := by omega
  obtain ⟨iR, hiR, hz0, hz1, hz2⟩ := pwK.parts
  have hsz := hown.size_le
  refine callsIn_of_wp_marks Try.func44 rfl trivial ?_ rfl
  simp only [Try.ntmps44, List.size_toArray, List.length_cons, List.length_nil, Nat.reduceAdd, Nat.reduceSub, Array.replicate_succ, Array.replicate_zero, List.push_toArray, List.append_toArray, List.nil_append, List.cons_append]
  have b0 := Boxed.new w tPws (.slice none 0 0)
  have hB0 : Below w.heap.size w (w.alloc (.cells #[.slice none 0 0] tPws)) := ky_box w _
  have hbm : (w.alloc (.cells #[.slice none 0 0] tPws)).cell? ⟨Bm, 0, none⟩ = some (.map (some b)) := (hB0.cell (p := ⟨Bm, 0, none⟩) hB).trans hm
  gi_wp2
  refine wpIn_rangeFunc_ownH rfl h1 (gf := 45) (lb := #[.pointer (some ⟨Bm, 0, none⟩)]) rfl trivial (enters_of Try.func45 (by kernel_rfl) rfl)
    (vals_stops (n - 1) (by omega) Bm b nn D L RA T _ (by simp; omega) hbm (own_map hown (hB0.block b hown.lt))) (fun h g => h.trans g) (fun W l o o' _ h hc hw => KeepsWalks.putObj o' h hw) (Below.refl _ _) (fun _ => rfl)
    (CollI w) (fun _ _ _ => False) (collI_own w _ (by simp)) (fun _ _ _ _ _ hs _ _ => hs) ⟨_, b0, pwK.own_nil _ _, hB0⟩
    (CollA w (.func (.func 45) #[] #[.pointer (some ⟨Bm, 0, none⟩)])) (fun x a' => collA_own w _ _ x a') ?assign ?body ?done ?stop
  case assign =>
    intro l pre x W K hI hK
    unfold wtV
    gi_wp2
    obtain ⟨v, hv, hrow, hB'⟩ := hI
    exact hK _ _ ((KeepsOthers.alloc W _).from _) (KeepsWalks.alloc W _) ⟨v, hv.alloc _, pwK.own_keeps hrow (ky_box W _), hB'.alloc hB'.size _⟩ ⟨W.heap.size, rfl, heap_alloc_new W _⟩
  case body =>
    rintro l pre x a' W _ _ ⟨v, hv, hrow, hB'⟩ ⟨g5, rfl, hg5⟩ hlt
    have hc := hv.cell
    have hz5 : W.cell? ⟨g5, 0, none⟩ = some (.int .i64 x.o) ∧ W.cell? ⟨g5, 1, none⟩ = some (.int .i64 x.d) ∧ W.cell? ⟨g5, 2, none⟩ = some (.int .i64 x.t) ∧ W.cell? ⟨g5, 3, none⟩ = some (.int .i64 x.n) ∧ W.cell? ⟨g5, 4, none⟩ = some (.bool x.p) := by
      simp [World.cell?, hg5]
    obtain ⟨e0, e1, e2, e3, e4⟩ := hz5
    have hten : (W.alloc (.cells #[.int .i64 x.o, .int .i64 x.d, .int .i64 x.t, .int .i64 x.n, .bool x.p] tPw)).heap[W.heap.size]? = some (.cells #[.int .i64 x.o, .int .i64 x.d, .int .i64 x.t, .int .i64 x.n, .bool x.p] tPw (0, 0)) := heap_alloc_new W _
    have hcell : ∀ j u, (wtVals x)[j]? = some u → (W.alloc (.cells #[.int .i64 x.o, .int .i64 x.d, .int .i64 x.t, .int .i64 x.n, .bool x.p] tPw)).cell? ((⟨W.heap.size, 0, none⟩ : Addr).add j) = some u := fun j u hu => by
      have hj : j < 5 := (List.getElem?_eq_some_iff.1 hu).1
      have hj5 : j = 0 ∨ j = 1 ∨ j = 2 ∨ j = 3 ∨ j = 4 := by omega
      rcases hj5 with rfl | rfl | rfl | rfl | rfl <;> (cases hu; simp [Addr.add])
    have hrow1 : (W.alloc (.cells #[.int .i64 x.o, .int .i64 x.d, .int .i64 x.t, .int .i64 x.n, .bool x.p] tPw)).ownsRow w.heap.size tPw 5 v pre.length (pwK.row pre) := pwK.own_keeps hrow (ky_box W _)
    have hl1 : pre.length + 1 ≤ maxLen := by unfold maxLen; omega
    have hl2 : (pre.length + 1) * 40 ≤ 140737488355328 := by omega
    have hl3 : w.heap.size ≤ (W.alloc (.cells #[.int .i64 x.o, .int .i64 x.d, .int .i64 x.t, .int .i64 x.n, .bool x.p] tPw)).heap.size := by have := hB'.size; simp; omega
    clear hten hg5
    gi_wp2_with (gi_at_builtin; refine wpListIn_append_own _ rfl _ _ tPws rfl w.heap.size tPw iR pwK.zero 5 40 pwK.under hiR hz0 hz1 hz2 pwK.zsize (by decide) _ _ _ rfl hrow1 ⟨W.heap.size, 0, none⟩ 1 1 (wtVals x) rfl rfl hcell (fun u hu => pwK.one x u hu) hl1 hl2 hl3 ?_; intro v' w1 hown' hgrow _; obtain ⟨pv, cv, rfl⟩ := pwK.own_shape hown'; obtain ⟨q1, q2, q3, q4, q5⟩ := hv.appended (by decide) hrow hB'.size (Nat.le_refl _) hown' hgrow; have hc1 := q1.cell; have hf1 := q1.frozen)
    refine ⟨q4.from _, q4.walks, _, q2, ?_, hB'.trans q5⟩
    show World.ownsRow _ w.heap.size tPw 5 _ (pre ++ [x]).length (pwK.row (pre ++ [x]))
    rw [pwK.row_app, List.length_append]
    exact q3
  case done =>
    rintro D' xs W hD' hp ⟨v, hv, hrow, hB'⟩ hK
    have hc := hv.cell
    gi_wp2
    refine ⟨by simp, .inl ⟨_, _, rfl, run_takeDeferred hK, v, by simp [results, Try.results44, go_sem], v, xs, rfl, hp, ?_, hB'.trans (belowK_b (w := w) (Nat.le_refl _) _ D' _ _ (by simp at hD'; omega) hK rfl rfl)⟩⟩
    show World.ownsRow _ w.heap.size tPw 5 v xs.length (pwK.row xs)
    exact ownsRow_putObj (show W.ownsRow w.heap.size tPw 5 v xs.length (pwK.row xs) from hrow) (.deferred none) hK rfl
  case stop =>
    rintro D' c pre W _ _ h _
    exact h.elim
theorem coll_any (Bm b nn : Nat) (D : DataW Value) (L : List W5) (RA : ApW D L) (T : Tidy L) (w : World) (hB : Bm < w.heap.size) (hm : w.cell? ⟨Bm, 0, none⟩ = some (.map (some b))) (hown : w.ownsMap Try.prog tKy asIs b nn D) (hN : nn ≤ 1000000) :
    Calls Try.prog 35 #[.func (.func 45) #[] #[.pointer (some ⟨Bm, 0, none⟩)]] w fun e w' =>
      ∃ v xs, e = .returned v ∧ xs.Perm L ∧ pwK.Own w.heap.size w' v xs ∧ Keeps w w' := by
  have ha := (callsIn_wide (n := 3)).1 (append_in 3 (Nat.le_refl _) Bm b nn D L RA T w hB hm hown hN)
  go_enter Try.func35, Try.ntmps35
  go_wp2_with fail
  refine ha.mono ?_
  rintro e w1 ⟨v, xs, rfl, h1, h2, h3⟩
  go_wp2
  go_ret
  exact ⟨v, xs, rfl, h1, h2, h3⟩
end Wt
end Go.Proofs.Ytbemkcnikoiecaa
