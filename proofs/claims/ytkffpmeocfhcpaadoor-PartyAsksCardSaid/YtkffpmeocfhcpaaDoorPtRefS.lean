/- The document's party: Statement; what the law has left of any name. -/
import Derived.Test.YtkffpmeocfhcpaaDoorPtRefX
import Derived.Test.YtkffpmeocfhcpaaDoorPaTwo
set_option linter.unusedVariables false
namespace Go.Proofs.YtkffpmeocfhcpaaDoor
open Go.ChangeShapes Go.WideShapes Go.ChangeAt Go.RowKit Ky Rw Csv
namespace Pt
open Pp
/-- The party with another number: the block's sixth cell. -/
theorem ref_seq {W : World} {b : Nat} {p : P} {seq : Int} (h : RefP W b p seq) (u : Int) : RefP (W.setCell ⟨b, 5, none⟩ (.int .i64 u)) b p u := by
  obtain ⟨vL, vG, h1, h2, h3⟩ := h
  refine ⟨vL, vG, ?_, ?_, ?_⟩
  · rw [Joins.block_setCell (i := 5) h1 (.int .i64 u)]; rfl
  · refine rowK.own_local h2 fun g hg => Below.heap_setCell _ ⟨b, 5, none⟩ _ _ (fun e => ?_)
    obtain ⟨c, hc⟩ := rowK.own_tag h2 hg
    rw [e, h1] at hc
    simp only [Option.some.injEq, Obj.cells.injEq] at hc
    exact absurd hc.2.1 (by decide)
  · refine gdK.own_local h3 fun g hg => Below.heap_setCell _ ⟨b, 5, none⟩ _ _ (fun e => ?_)
    obtain ⟨c, hc⟩ := gdK.own_tag h3 hg
    rw [e, h1] at hc
    simp only [Option.some.injEq, Obj.cells.injEq] at hc
    exact absurd hc.2.1 (by decide)
/-- The result's box, written. -/
theorem ref_box {X Y : World} {n b : Nat} {p : P} {seq : Int} (h : RefP X b p seq) (hb : X.heap[n]? = some noStObj) (hn : n ≠ b) (g : Only (fun i => i = n) X Y) : RefP Y b p seq := by
  obtain ⟨vL, vG, h1, h2, h3⟩ := h
  refine ⟨vL, vG, (g.same b (Array.getElem?_eq_some_iff.1 h1).1 (fun e => hn e.symm)).trans h1, rowK.own_local h2 fun i hi => ?_, gdK.own_local h3 fun i hi => ?_⟩
  · obtain ⟨c, hc⟩ := rowK.own_tag h2 hi
    refine g.same i (rowK.own_lt h2 i hi).2 (fun e => ?_)
    subst e
    rw [hb] at hc
    unfold noStObj at hc
    simp only [Option.some.injEq, Obj.cells.injEq] at hc
    exact absurd hc.2.1 (by decide)
  · obtain ⟨c, hc⟩ := gdK.own_tag h3 hi
    refine g.same i (gdK.own_lt h3 i hi).2 (fun e => ?_)
    subst e
    rw [hb] at hc
    unfold noStObj at hc
    simp only [Option.some.injEq, Obj.cells.injEq] at hc
    exact absurd hc.2.1 (by decide)
set_option maxHeartbeats 8000000 in
set_option maxRecDepth 100000 in
theorem rp_stmt (b : Nat) (p : P) (q : Int) (W : World) (h : RefP W b p q) (hl : p.L.length ≤ 400) (h0 : 0 ≤ q) (hq : q < 1073741824) :
    Calls Tryd.prog 19 #[.pointer (some ⟨b, 0, none⟩)] W fun e w' => ∃ v, e = .returned (.agg #[.int .i64 p.kind, .int .i64 (q + 1), v]) ∧ rowK.Own W.heap.size w' v p.L ∧ RefP w' b p (q + 1) ∧ Only (fun i => i = b) W w' := by
  have y5 : W.cell? ⟨b, 5, none⟩ = some (.int .i64 q) := by
    obtain ⟨vL, vG, hb, _⟩ := h
    exact (six_at hb).1.2.2.2.2.2
  have f5 : W.frozen? ⟨b, 5, none⟩ = false := by
    obtain ⟨vL, vG, hb, _⟩ := h
    exact (six_at hb).2.2.2
  have lt : b < W.heap.size := by obtain ⟨_, _, hb, _⟩ := h; exact (Array.getElem?_eq_some_iff.1 hb).1
  have bn : b ≠ W.heap.size := Nat.ne_of_lt lt
  have bm : W.heap.size ≠ b := Ne.symm bn
  have q1 : (IntKind.i64).wrap (q + 1) = q + 1 := by unfold IntKind.wrap; simp [IntKind.bits, IntKind.signed]; omega
  have qb : (decide (q ≥ 1073741824)) = false := decide_eq_false (by omega)
  have qc : (decide (1073741824 ≤ q)) = false := decide_eq_false (by omega)
  go_enter Tryd.func19, Tryd.ntmps19
  go_upto_region 4 with fail
  have ks := ky_box (W.setCell ⟨b, 5, none⟩ (.int .i64 (q + 1))) noStObj
  have hA : RefP ((W.setCell ⟨b, 5, none⟩ (.int .i64 (q + 1))).alloc noStObj) b p (q + 1) := (ref_seq h (q + 1)).keeps ks
  have hO : Only (fun i => i = b) W ((W.setCell ⟨b, 5, none⟩ (.int .i64 (q + 1))).alloc noStObj) := (Only.cell _).trans (Only.of_keeps ks)
  have HB : ((W.setCell ⟨b, 5, none⟩ (.int .i64 (q + 1))).alloc noStObj).heap[W.heap.size]? = some noStObj := by
    have e := heap_alloc_new (W.setCell ⟨b, 5, none⟩ (.int .i64 (q + 1))) noStObj
    rw [World.size_setCell] at e
    exact e
  have hz : W.heap.size < ((W.setCell ⟨b, 5, none⟩ (.int .i64 (q + 1))).alloc noStObj).heap.size := (Array.getElem?_eq_some_iff.1 HB).1
  obtain ⟨w2, hw2⟩ : ∃ w2, (W.setCell ⟨b, 5, none⟩ (.int .i64 (q + 1))).alloc noStObj = w2 := ⟨_, rfl⟩
  rw [hw2] at hA hO HB hz
  unfold noStObj at hw2
  rw [hw2]
  clear hw2
  have HA := Lib.hid hA
  have HO := Lib.hid hO
  have HN := Lib.hid hl
  obtain ⟨vL, vG, hb, hL, hG⟩ := hA
  obtain ⟨pl, cl, rfl⟩ := rowK.own_shape hL
  have SL := Lib.hid (rowK.own_src hL)
  obtain ⟨N, hN⟩ : ∃ N, p.L.length = N := ⟨_, rfl⟩
  rw [hN] at hb SL
  have HC := Lib.hid fun X (k : Keeps w2 X) => (show X.cell? ⟨b, 0, none⟩ = some (.int .i64 p.kind) ∧ X.cell? ⟨b, 3, none⟩ = some (.slice pl N cl) ∧ X.cell? ⟨b, 5, none⟩ = some (.int .i64 (q + 1)) from by
    have e := six_at ((k.block b (Array.getElem?_eq_some_iff.1 hb).1).trans hb)
    exact ⟨e.1.1, e.1.2.2.2.1, e.1.2.2.2.2.2⟩)
  have SE := Lib.hid fun X (k : Keeps w2 X) => (show X.heap[W.heap.size]? = some noStObj from (k.block W.heap.size hz).trans HB)
  have SC := Lib.hid fun (X : World) (hX : X.heap[W.heap.size]? = some noStObj) => (show (X.cell? ⟨W.heap.size, 0, none⟩ = some (.int .i64 0) ∧ X.cell? ⟨W.heap.size, 1, none⟩ = some (.int .i64 0) ∧ X.cell? ⟨W.heap.size, 2, none⟩ = some (.slice none 0 0)) ∧ X.frozen? ⟨W.heap.size, 0, none⟩ = false ∧ X.frozen? ⟨W.heap.size, 1, none⟩ = false ∧ X.frozen? ⟨W.heap.size, 2, none⟩ = false from by
    unfold noStObj at hX
    exact ⟨by simp [World.cell?, hX], by simp [World.frozen?, hX]⟩)
  have N1 : Hid (([] : List R).length + p.L.length = N) := Lib.hid (by rw [hN]; simp)
  have L1 : Hid (([] : List R).length + p.L.length ≤ 100000) := Lib.hid (by rw [N1.out, ← hN]; have := HN.out; omega)
  have HZ := Lib.hid hz
  have LT := Lib.hid lt
  clear hO h y5 f5 hz ks bn bm HB hb hL hG hN hl lt q1 qb qc
  obtain ⟨y0, y3, y5⟩ := HC.out _ (Keeps.refl _)
  go_region_law ((refine stepAppOwnK rowK rfl _ _ rfl rfl w2.heap.size ?hB (.slice none 0 0) _ [] p.L N N1.out rfl rfl (rowK.own_nil _ _) ?hS L1.out ?_
                  case hB => exact (show Keeps w2 _ from ky_drew _).size
                  case hS => exact RowK.Src.keeps rowK SL.out (ky_drew _)
                  intro p5 c5 W5 o5 g5
                  have K5 : Keeps w2 W5 := pt_mono (ky_drew _) g5 (fun j hj => by cases hj)
                  obtain ⟨z0, z3, z5⟩ := HC.out _ K5
                  have SB := SE.out _ K5
                  obtain ⟨⟨s0, s1, s2⟩, f0, f1, f2⟩ := SC.out _ SB))
  all_goals
    have ST := Lib.hid (((Only.cell (X := W5) (j := W.heap.size) (o := 0) (.int .i64 p.kind)).trans (Only.cell (o := 1) (.int .i64 (q + 1)))).trans (Only.cell (o := 2) (.slice p5 N c5)))
    have O5 := Lib.hid o5
    have KK := Lib.hid K5
    have BB := Lib.hid SB
    clear o5 g5 K5 SB z0 z3 z5 y0 y3 y5
    go_wp2
    refine bodyPost_ret (v := .agg #[.int .i64 p.kind, .int .i64 (q + 1), .slice p5 N c5]) (by simp [results, Tryd.results19, go_sem, s0, s1, s2]) rfl ?_
    refine ⟨_, rfl, ?_, ref_box (HA.out.keeps KK.out) BB.out (by have := LT.out; omega) ST.out, Only.new (HO.out.trans (Only.of_keeps KK.out)) ST.out (Nat.le_refl _)⟩
    have hz := HZ.out
    refine rowK.own_base (rowK.own_local O5.out fun g hg => ST.out.same g (rowK.own_lt O5.out g hg).2 ?_) fun g hg => ?_
    · have := (rowK.own_lt O5.out g hg).1
      omega
    · have := (rowK.own_lt O5.out g hg).1
      omega
end Pt
end Go.Proofs.YtkffpmeocfhcpaaDoor
