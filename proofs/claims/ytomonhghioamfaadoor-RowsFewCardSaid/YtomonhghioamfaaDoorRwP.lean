
/- What the program's rows must answer (RwP); the chapter's statement out of it. -/
import Derived.Test.YtomonhghioamfaaDoorRwRefG
import Derived.Test.YtomonhghioamfaaDoorKyCP
set_option linter.unusedVariables false
namespace Go.Proofs.YtomonhghioamfaaDoor
open Go.ChangeShapes Go.WideShapes Go.ChangeAt Go.RowKit Bit Ky Rw Csv

structure RwP : Prop where
  check : ∀ (v : Value) (L : List R) (p : Int) (w : World), HasP w → RowsIn w v L → Calls Tryd.prog 9 #[v, .int .i64 p] w fun e w' => e = .returned (.bool (goodB p L)) ∧ Keeps w w'
  valid : ∀ (p s : Int) (v : Value) (L : List R) (w : World), HasP w → RowsIn w v L → Calls Tryd.prog 11 #[stV p s v] w fun e w' => e = .returned (.bool (validB p s L)) ∧ Keeps w w'
  same : ∀ (p s p' s' : Int) (v v' : Value) (L M : List R) (w : World), RowsIn w v L → RowsIn w v' M → Calls Tryd.prog 20 #[stV p s v, stV p' s' v'] w fun e w' => e = .returned (.bool (sameB p s p' s' L M)) ∧ Keeps w w'
  net : ∀ (v : Value) (L : List R) (o : Int) (w : World), HasP w → RowsIn w v L → Calls Tryd.prog 15 #[v, .int .i64 o] w fun e w' => e = .returned (.int .i64 (netR o L)) ∧ Keeps w w'
  put : ∀ (p s : Int) (v : Value) (L : List R) (w : World), HasP w → RowsIn w v L → Calls Tryd.prog 13 #[stV p s v] w fun e w' => e = .returned (.string (putSB p s L)) ∧ Keeps w w'
  get : ∀ (s : ByteArray) (w : World), HasP w → s.size ≤ 50000 → Calls Tryd.prog 18 #[.string s] w (GotS s.data.toList w)
abbrev r1 : R := ⟨3, 1, 1, 300, 0⟩
abbrev r2 : R := ⟨3, 4, 1, 300, 0⟩
abbrev r0 : R := ⟨3, 1, 0, 300, 0⟩
theorem rows_one {W : World} {b : Nat} {x : R} (h : W.heap[b]? = some (.cells #[.int .i64 x.o, .int .i64 x.d, .int .i64 x.c, .int .i64 x.a, .int .i64 x.q] tRw (0, 0))) : RowsIn W (.slice (some ⟨b, 0, none⟩) 1 1) [x] := by
  refine ⟨_, 1, rfl, by unfold maxLen; simp, ⟨by simp, fun e => by cases e⟩, fun j y hy => ⟨_, rfl, ?_⟩⟩
  obtain rfl : j = 0 := by have := (List.getElem?_eq_some_iff.1 hy).1; simp at this; omega
  simp at hy; subst hy
  rw [addr_of]
  exact ⟨Joins.cell_of_block h 0, Joins.cell_of_block h 1, Joins.cell_of_block h 2, Joins.cell_of_block h 3, Joins.cell_of_block h 4⟩
theorem rows_two {W : World} {b : Nat} {x y : R} (h : W.heap[b]? = some (.cells #[.int .i64 x.o, .int .i64 x.d, .int .i64 x.c, .int .i64 x.a, .int .i64 x.q, .int .i64 y.o, .int .i64 y.d, .int .i64 y.c, .int .i64 y.a, .int .i64 y.q] tRw (0, 0))) : RowsIn W (.slice (some ⟨b, 0, none⟩) 2 2) [x, y] := by
  refine ⟨_, 2, rfl, by unfold maxLen; simp, ⟨by simp, fun e => by cases e⟩, fun j z hz => ⟨_, rfl, ?_⟩⟩
  have hj : j < 2 := (List.getElem?_eq_some_iff.1 hz).1
  rcases (show j = 0 ∨ j = 1 from by omega) with rfl | rfl
  · simp at hz; subst hz
    rw [addr_of]
    exact ⟨Joins.cell_of_block h 0, Joins.cell_of_block h 1, Joins.cell_of_block h 2, Joins.cell_of_block h 3, Joins.cell_of_block h 4⟩
  · simp at hz; subst hz
    rw [addr_of]
    exact ⟨Joins.cell_of_block h 5, Joins.cell_of_block h 6, Joins.cell_of_block h 7, Joins.cell_of_block h 8, Joins.cell_of_block h 9⟩
theorem s_put : putSB 0 5 [r1] = ⟨#[0, 5, 1, 3, 1, 1, 172, 2, 0]⟩ := by decide +kernel
theorem s_net1 : netR 3 [r1] = 300 := by decide +kernel
theorem s_net2 : netR 3 [r1, r2] = 0 := by decide +kernel
theorem s_net4 : netR 4 [r1] = 0 := by decide +kernel
theorem s_no1 : goodB 1 [r1] = false := by decide +kernel
theorem s_no0 : goodB 0 [r0] = false := by decide +kernel
theorem s_no3 : goodB 3 [] = false := by decide +kernel
theorem s_yes : goodB 0 [r1] = true := by decide +kernel
abbrev oB (x : R) : Obj := .cells #[.int .i64 x.o, .int .i64 x.d, .int .i64 x.c, .int .i64 x.a, .int .i64 x.q] tRw
theorem four_boxes (w : World) (a b c d : Obj) : ∀ W, Keeps ((((w.alloc a).alloc b).alloc c).alloc d) W → W.heap[w.heap.size]? = some a ∧ W.heap[w.heap.size + 1]? = some b ∧ W.heap[w.heap.size + 2]? = some c ∧ W.heap[w.heap.size + 3]? = some d := fun W k => by
  have s1 : (w.alloc a).heap.size = w.heap.size + 1 := by simp
  have s2 : ((w.alloc a).alloc b).heap.size = w.heap.size + 2 := by simp
  have s3 : (((w.alloc a).alloc b).alloc c).heap.size = w.heap.size + 3 := by simp
  have k1 := ky_box (w.alloc a) b
  have k2 := ky_box ((w.alloc a).alloc b) c
  have k3 := ky_box (((w.alloc a).alloc b).alloc c) d
  have n0 := heap_alloc_new w a
  have n1 := heap_alloc_new (w.alloc a) b
  have n2 := heap_alloc_new ((w.alloc a).alloc b) c
  have n3 := heap_alloc_new (((w.alloc a).alloc b).alloc c) d
  rw [s1] at n1
  rw [s2] at n2
  rw [s3] at n3
  have g1 : w.heap.size < (w.alloc a).heap.size := by omega
  have g2 := k1.size
  have g3 := k2.size
  have g4 := k3.size
  exact ⟨(k.block _ (by omega)).trans ((k3.block _ (by omega)).trans ((k2.block _ (by omega)).trans ((k1.block _ (by omega)).trans n0))),
    (k.block _ (by omega)).trans ((k3.block _ (by omega)).trans ((k2.block _ (by omega)).trans n1)),
    (k.block _ (by omega)).trans ((k3.block _ (by omega)).trans n2), (k.block _ (by have := (show ((((w.alloc a).alloc b).alloc c).alloc d).heap.size = w.heap.size + 4 by simp); omega)).trans n3⟩
theorem oB_at {W : World} {b : Nat} {x : R} (h : W.heap[b]? = some (oB x)) : W.cell? ⟨b, 0, none⟩ = some (.int .i64 x.o) ∧ W.cell? ⟨b, 1, none⟩ = some (.int .i64 x.d) ∧ W.cell? ⟨b, 2, none⟩ = some (.int .i64 x.c) ∧ W.cell? ⟨b, 3, none⟩ = some (.int .i64 x.a) ∧ W.cell? ⟨b, 4, none⟩ = some (.int .i64 x.q) :=
  ⟨Joins.cell_of_block h 0, Joins.cell_of_block h 1, Joins.cell_of_block h 2, Joins.cell_of_block h 3, Joins.cell_of_block h 4⟩
set_option maxHeartbeats 16000000 in
set_option maxRecDepth 100000 in
theorem stated_any (P : RwP) (w : World) (hp : HasP w) : Calls Tryd.prog 8 #[] w fun e w' => e = .returned (.bool true) ∧ Keeps w w' := by
  have KB : Hid (Keeps w ((((w.alloc (oB r1)).alloc (oB r2)).alloc (oB r0)).alloc (oB r1))) := Lib.hid (((ky_box w (oB r1)).trans (ky_box _ (oB r2))).trans ((ky_box _ (oB r0)).trans (ky_box _ (oB r1))))
  have CX := Lib.hid (four_boxes w (oB r1) (oB r2) (oB r0) (oB r1))
  have HPP : Hid (∀ W, Keeps ((((w.alloc (oB r1)).alloc (oB r2)).alloc (oB r0)).alloc (oB r1)) W → HasP W) := Lib.hid fun W k => hp.keeps (KB.out.trans k)
  have HV := Lib.hid (Keeps.refl ((((w.alloc (oB r1)).alloc (oB r2)).alloc (oB r0)).alloc (oB r1)))
  have RL : Hid (∀ W, Keeps ((((w.alloc (oB r1)).alloc (oB r2)).alloc (oB r0)).alloc (oB r1)) W → RowsIn W (.slice (some ⟨w.heap.size + 3, 0, none⟩) 1 1) [r1]) := Lib.hid fun W k => rows_one (CX.out W k).2.2.2
  have C1 : Hid (∀ W, Keeps ((((w.alloc (oB r1)).alloc (oB r2)).alloc (oB r0)).alloc (oB r1)) W → Calls Tryd.prog 13 #[.agg #[.int .i64 0, .int .i64 5, .slice (some ⟨w.heap.size + 3, 0, none⟩) 1 1]] W fun e w' => e = .returned (.string ⟨#[0, 5, 1, 3, 1, 1, 172, 2, 0]⟩) ∧ Keeps ((((w.alloc (oB r1)).alloc (oB r2)).alloc (oB r0)).alloc (oB r1)) w') := Lib.hid fun W k => (s_put ▸ P.put 0 5 _ [r1] W (HPP.out W k) (RL.out W k)).mono fun e w' h => ⟨h.1, k.trans h.2⟩
  have CN : Hid (∀ (o n : Int), netR o [r1] = n → ∀ W, Keeps ((((w.alloc (oB r1)).alloc (oB r2)).alloc (oB r0)).alloc (oB r1)) W → Calls Tryd.prog 15 #[.slice (some ⟨w.heap.size + 3, 0, none⟩) 1 1, .int .i64 o] W fun e w' => e = .returned (.int .i64 n) ∧ Keeps ((((w.alloc (oB r1)).alloc (oB r2)).alloc (oB r0)).alloc (oB r1)) w') := Lib.hid fun o n hn W k => (hn ▸ P.net _ [r1] o W (HPP.out W k) (RL.out W k)).mono fun e w' h => ⟨h.1, k.trans h.2⟩
  have CC : Hid (∀ (p : Int) (b : Bool), goodB p [r1] = b → ∀ W, Keeps ((((w.alloc (oB r1)).alloc (oB r2)).alloc (oB r0)).alloc (oB r1)) W → Calls Tryd.prog 9 #[.slice (some ⟨w.heap.size + 3, 0, none⟩) 1 1, .int .i64 p] W fun e w' => e = .returned (.bool b) ∧ Keeps ((((w.alloc (oB r1)).alloc (oB r2)).alloc (oB r0)).alloc (oB r1)) w') := Lib.hid fun p b hb W k => (hb ▸ P.check _ [r1] p W (HPP.out W k) (RL.out W k)).mono fun e w' h => ⟨h.1, k.trans h.2⟩
  have C2 := Lib.hid (CN.out 3 300 s_net1)
  have C4 := Lib.hid (CN.out 4 0 s_net4)
  have C5 := Lib.hid (CC.out 1 false s_no1)
  have C8 := Lib.hid (CC.out 0 true s_yes)
  have C3 : Hid (∀ W, Keeps ((((w.alloc (oB r1)).alloc (oB r2)).alloc (oB r0)).alloc (oB r1)) W → Calls Tryd.prog 15 #[.slice (some ⟨W.heap.size, 0, none⟩) 2 2, .int .i64 3] (W.alloc (.cells #[.int .i64 3, .int .i64 1, .int .i64 1, .int .i64 300, .int .i64 0, .int .i64 3, .int .i64 4, .int .i64 1, .int .i64 300, .int .i64 0] tRw)) fun e w' => e = .returned (.int .i64 0) ∧ Keeps ((((w.alloc (oB r1)).alloc (oB r2)).alloc (oB r0)).alloc (oB r1)) w') := Lib.hid fun W k => by
    have kk := k.trans (ky_box W (.cells #[.int .i64 3, .int .i64 1, .int .i64 1, .int .i64 300, .int .i64 0, .int .i64 3, .int .i64 4, .int .i64 1, .int .i64 300, .int .i64 0] tRw))
    exact (s_net2 ▸ P.net _ [r1, r2] 3 _ (HPP.out _ kk) (rows_two (x := r1) (y := r2) (heap_alloc_new W _))).mono fun e w' h => ⟨h.1, kk.trans h.2⟩
  have C6 : Hid (∀ W, Keeps ((((w.alloc (oB r1)).alloc (oB r2)).alloc (oB r0)).alloc (oB r1)) W → Calls Tryd.prog 9 #[.slice (some ⟨W.heap.size, 0, none⟩) 1 1, .int .i64 0] (W.alloc (.cells #[.int .i64 3, .int .i64 1, .int .i64 0, .int .i64 300, .int .i64 0] tRw)) fun e w' => e = .returned (.bool false) ∧ Keeps ((((w.alloc (oB r1)).alloc (oB r2)).alloc (oB r0)).alloc (oB r1)) w') := Lib.hid fun W k => by
    have kk := k.trans (ky_box W (.cells #[.int .i64 3, .int .i64 1, .int .i64 0, .int .i64 300, .int .i64 0] tRw))
    exact (s_no0 ▸ P.check _ [r0] 0 _ (HPP.out _ kk) (rows_one (x := r0) (heap_alloc_new W _))).mono fun e w' h => ⟨h.1, kk.trans h.2⟩
  have C7 : Hid (∀ W, Keeps ((((w.alloc (oB r1)).alloc (oB r2)).alloc (oB r0)).alloc (oB r1)) W → Calls Tryd.prog 9 #[.slice none 0 0, .int .i64 3] W fun e w' => e = .returned (.bool false) ∧ Keeps ((((w.alloc (oB r1)).alloc (oB r2)).alloc (oB r0)).alloc (oB r1)) w') := Lib.hid fun W k => (s_no3 ▸ P.check _ [] 3 W (HPP.out W k) (rows_nil W)).mono fun e w' h => ⟨h.1, k.trans h.2⟩
  clear hp P CN CC RL HPP
  go_enter Tryd.func8, Tryd.ntmps8
  go_wp2_with fail
  refine (C1.out _ HV.out).mono ?_
  rintro e wv ⟨rfl, hv⟩
  have HV := Lib.hid hv
  clear hv
  go_wp2_with fail
  refine (C2.out _ HV.out).mono ?_
  clear HV
  rintro e wv ⟨rfl, hv⟩
  have HV := Lib.hid hv
  clear hv
  obtain ⟨h0, h1, h2, _⟩ := CX.out _ HV.out
  obtain ⟨x0, x1, x2, x3, x4⟩ := oB_at h0
  obtain ⟨y0, y1, y2, y3, y4⟩ := oB_at h1
  dsimp only [r0, r1, r2] at x0 x1 x2 x3 x4 y0 y1 y2 y3 y4
  clear h0 h1 h2
  go_wp2_with fail
  refine (C3.out _ HV.out).mono ?_
  clear x0 x1 x2 x3 x4 y0 y1 y2 y3 y4
  clear HV
  rintro e wv ⟨rfl, hv⟩
  have HV := Lib.hid hv
  clear hv
  go_wp2_with fail
  refine (C4.out _ HV.out).mono ?_
  clear HV
  rintro e wv ⟨rfl, hv⟩
  have HV := Lib.hid hv
  clear hv
  go_wp2_with fail
  refine (C5.out _ HV.out).mono ?_
  clear HV
  rintro e wv ⟨rfl, hv⟩
  have HV := Lib.hid hv
  clear hv
  obtain ⟨h0, h1, h2, _⟩ := CX.out _ HV.out
  obtain ⟨z0, z1, z2, z3, z4⟩ := oB_at h2
  dsimp only [r0, r1, r2] at z0 z1 z2 z3 z4
  clear h0 h1 h2
  go_wp2_with fail
  refine (C6.out _ HV.out).mono ?_
  clear z0 z1 z2 z3 z4
  clear HV
  rintro e wv ⟨rfl, hv⟩
  have HV := Lib.hid hv
  clear hv
  go_wp2_with fail
  refine (C7.out _ HV.out).mono ?_
  clear HV
  rintro e wv ⟨rfl, hv⟩
  have HV := Lib.hid hv
  clear hv
  go_wp2_with fail
  refine (C8.out _ HV.out).mono ?_
  clear HV
  rintro e wv ⟨rfl, hv⟩
  have HV := Lib.hid hv
  clear hv
  go_wp2
  go_ret
  exact ⟨rfl, KB.out.trans HV.out⟩
end Go.Proofs.YtomonhghioamfaaDoor
