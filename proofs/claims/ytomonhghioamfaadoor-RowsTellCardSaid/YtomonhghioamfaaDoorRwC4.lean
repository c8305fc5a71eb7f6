
/- The program's rows: getRow. -/
import Derived.Test.YtomonhghioamfaaDoorRwRefG
import Derived.Test.YtomonhghioamfaaDoorRwC3
import Derived.Test.YtomonhghioamfaaDoorRwGet2M
set_option linter.unusedVariables false
namespace Go.Proofs.YtomonhghioamfaaDoor
open Go.ChangeShapes Go.WideShapes Go.ChangeAt Go.RowKit Bit Ky Rw Csv

theorem read_is (s : ByteArray) (hs : s.size ≤ maxLen) : ∃ (n : Nat) (R : ByteArray) (b : Bool), rdV s.data.toList = n ∧ R.data.toList = rdR s.data.toList ∧ R.size ≤ s.size ∧ n < topN ∧
    ∀ W, Calls Tryd.prog 36 #[.string s] W fun e w' => e = .returned (.tuple #[.int .u64 (n : Int), .string R, .bool b]) ∧ Keeps W w' :=
  ⟨_, ⟨(rdR s.data.toList).toArray⟩, rdB s.data.toList, rfl, by rw [data_mk], by rw [size_mk, ← len_data]; exact rdR_le _, rdV_lt _, fun W => read_any s W hs⟩
theorem rfive_set {W : World} {n : Nat} {t : TypeId} {x0 x1 x2 x3 x4 : Value} (h : W.heap[n]? = some (.cells #[x0, x1, x2, x3, x4] t (0, 0))) (a0 a1 a2 a3 a4 : Value) :
    (((((W.setCell ⟨n, 0, none⟩ a0).setCell ⟨n, 1, none⟩ a1).setCell ⟨n, 2, none⟩ a2).setCell ⟨n, 3, none⟩ a3).setCell ⟨n, 4, none⟩ a4).heap[n]? = some (.cells #[a0, a1, a2, a3, a4] t (0, 0)) :=
  Joins.block_setCell (i := 4) (Joins.block_setCell (i := 3) (Joins.block_setCell (i := 2) (Joins.block_setCell (i := 1) (Joins.block_setCell (i := 0) h a0) a1) a2) a3) a4
theorem rfive_keeps {w W : World} {n : Nat} (h : Keeps w W) (hn : w.heap.size ≤ n) (a0 a1 a2 a3 a4 : Value) :
    Keeps w (((((W.setCell ⟨n, 0, none⟩ a0).setCell ⟨n, 1, none⟩ a1).setCell ⟨n, 2, none⟩ a2).setCell ⟨n, 3, none⟩ a3).setCell ⟨n, 4, none⟩ a4) :=
  ((((h.setCell (p := ⟨n, 0, none⟩) hn a0).setCell (p := ⟨n, 1, none⟩) hn a1).setCell (p := ⟨n, 2, none⟩) hn a2).setCell (p := ⟨n, 3, none⟩) hn a3).setCell (p := ⟨n, 4, none⟩) hn a4
theorem rfive_at {W : World} {n : Nat} {t : TypeId} {x0 x1 x2 x3 x4 : Value} (h : W.heap[n]? = some (.cells #[x0, x1, x2, x3, x4] t (0, 0))) :
    (W.cell? ⟨n, 0, none⟩ = some x0 ∧ W.cell? ⟨n, 1, none⟩ = some x1 ∧ W.cell? ⟨n, 2, none⟩ = some x2 ∧ W.cell? ⟨n, 3, none⟩ = some x3 ∧ W.cell? ⟨n, 4, none⟩ = some x4) ∧
    (W.frozen? ⟨n, 0, none⟩ = false ∧ W.frozen? ⟨n, 1, none⟩ = false ∧ W.frozen? ⟨n, 2, none⟩ = false ∧ W.frozen? ⟨n, 3, none⟩ = false ∧ W.frozen? ⟨n, 4, none⟩ = false) :=
  ⟨⟨Joins.cell_of_block h 0, Joins.cell_of_block h 1, Joins.cell_of_block h 2, Joins.cell_of_block h 3, Joins.cell_of_block h 4⟩,
   ⟨Joins.unfrozen_of_block h 0, Joins.unfrozen_of_block h 1, Joins.unfrozen_of_block h 2, Joins.unfrozen_of_block h 3, Joins.unfrozen_of_block h 4⟩⟩
def rwZ : Obj := .cells #[.int .i64 0, .int .i64 0, .int .i64 0, .int .i64 0, .int .i64 0] tRw
set_option maxHeartbeats 16000000 in
set_option maxRecDepth 100000 in
theorem pw_getRow (s : ByteArray) (hs : s.size ≤ maxLen) (w : World) :
    ∃ T : ByteArray, T.data.toList = rowRs s.data.toList ∧ T.size ≤ s.size ∧ Calls Tryd.prog 37 #[.string s] w fun e w' => e = .returned (.tuple #[rwV (rowRd s.data.toList), .string T]) ∧ Keeps w w' := by
  have KB := Lib.hid (ky_box w rwZ)
  have CX : Hid (∀ W, Keeps (w.alloc rwZ) W → W.heap[w.heap.size]? = some (.cells #[.int .i64 0, .int .i64 0, .int .i64 0, .int .i64 0, .int .i64 0] tRw (0, 0))) := Lib.hid fun W k => (k.block _ (by simp)).trans (heap_alloc_new w rwZ)
  obtain ⟨n1, R1, b1, e1, d1, s1, t1, H1⟩ := read_is s hs
  obtain ⟨n2, R2, b2, e2, d2, s2, t2, H2⟩ := read_is R1 (by omega)
  obtain ⟨n3, R3, b3, e3, d3, s3, t3, H3⟩ := read_is R2 (by omega)
  obtain ⟨n4, R4, b4, e4, d4, s4, t4, H4⟩ := read_is R3 (by omega)
  obtain ⟨n5, R5, b5, e5, d5, s5, t5, H5⟩ := read_is R4 (by omega)
  refine ⟨R5, by unfold rowRs; rw [d5, d4, d3, d2, d1], by omega, ?_⟩
  have H1 := Lib.hid H1
  have H2 := Lib.hid H2
  have H3 := Lib.hid H3
  have H4 := Lib.hid H4
  have H5 := Lib.hid H5
  obtain ⟨I1, w1⟩ : ∃ I, wrap64 (n1 : Int) = I := ⟨_, rfl⟩
  obtain ⟨I2, w2⟩ : ∃ I, wrap64 (n2 : Int) = I := ⟨_, rfl⟩
  obtain ⟨I3, w3⟩ : ∃ I, wrap64 (n3 : Int) = I := ⟨_, rfl⟩
  obtain ⟨I4, w4⟩ : ∃ I, wrap64 (n4 : Int) = I := ⟨_, rfl⟩
  obtain ⟨I5, w5⟩ : ∃ I, wrap64 (n5 : Int) = I := ⟨_, rfl⟩
  have E : Hid (rowRd s.data.toList = ⟨I1, I2, I3, I4, I5⟩) := Lib.hid (by
    unfold rowRd
    rw [← d1, ← d2, ← d3, ← d4, e1, e2, e3, e4, e5, w1, w2, w3, w4, w5])
  clear hs e1 e2 e3 e4 e5 d1 d2 d3 d4 d5 s1 s2 s3 s4 s5 t1 t2 t3 t4 t5
  unfold rwZ at KB CX
  unfold rwV
  go_enter Tryd.func37, Tryd.ntmps37
  go_wp2_with fail
  refine (H1.out _).mono ?_
  rintro e wa ⟨rfl, k⟩
  have HV := Lib.hid k
  clear k H1
  go_wp2_with fail
  refine (H2.out _).mono ?_
  rintro e wb ⟨rfl, k⟩
  have HV := Lib.hid (HV.out.trans k)
  clear k H2
  go_wp2_with fail
  refine (H3.out _).mono ?_
  rintro e wd ⟨rfl, k⟩
  have HV := Lib.hid (HV.out.trans k)
  clear k H3
  go_wp2_with fail
  refine (H4.out _).mono ?_
  rintro e we ⟨rfl, k⟩
  have HV := Lib.hid (HV.out.trans k)
  clear k H4
  go_wp2_with fail
  refine (H5.out _).mono ?_
  rintro e wf ⟨rfl, k⟩
  have HV := Lib.hid (HV.out.trans k)
  clear k H5
  have hres := CX.out wf HV.out
  obtain ⟨⟨z0, z1, z2, z3, z4⟩, f0, f1, f2, f3, f4⟩ := rfive_at hres
  have hlt : w.heap.size < wf.heap.size := by have := HV.out.size; simp at this; omega
  have hne : w.heap.size ≠ wf.heap.size := Nat.ne_of_lt hlt
  have B6 := Lib.hid (rfive_set hres (.int .i64 I1) (.int .i64 I2) (.int .i64 I3) (.int .i64 I4) (.int .i64 I5))
  have B7 := Lib.hid (((ky_box _ (.cells #[.int .i64 I1, .int .i64 I2] 39)).block w.heap.size (Array.getElem?_eq_some_iff.1 B6.out).1).trans B6.out)
  have K7 := Lib.hid (Keeps.trans (rfive_keeps (KB.out.trans HV.out) (Nat.le_refl _) (.int .i64 I1) (.int .i64 I2) (.int .i64 I3) (.int .i64 I4) (.int .i64 I5)) (ky_box _ (.cells #[.int .i64 I1, .int .i64 I2] 39)))
  clear hres
  go_wp2
  obtain ⟨⟨e0, e1, e2, e3, e4⟩, _⟩ := rfive_at B7.out
  exact bodyPost_ret (v := .tuple #[.agg #[.int .i64 I1, .int .i64 I2, .int .i64 I3, .int .i64 I4, .int .i64 I5], .string R5]) (by simp [results, Tryd.results37, go_sem, e0, e1, e2, e3, e4]) rfl ⟨by rw [E.out], K7.out⟩
end Go.Proofs.YtomonhghioamfaaDoor
