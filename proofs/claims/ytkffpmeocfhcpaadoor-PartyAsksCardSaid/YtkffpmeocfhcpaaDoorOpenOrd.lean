
/- An order, or a message, that comes in by value. -/
import Derived.Test.YtkffpmeocfhcpaaDoorOpenSt
import Derived.Test.YtkffpmeocfhcpaaDoorOdMsgR
import Derived.DataReads
set_option linter.unusedVariables false
namespace Go.Proofs.YtkffpmeocfhcpaaDoor
open Go.ChangeShapes Go.WideShapes Go.ChangeAt Go.RowKit Ky Od
variable {H : Type} {enc : TypeId × Value → H} {w : World} {base : Nat} {held : Bool}

theorem oc_str : Tryd.prog.cellsOf 9 = 1 := by kernel_rfl
theorem oc_int : Tryd.prog.cellsOf 3 = 1 := by kernel_rfl
theorem oc_i64 : Tryd.prog.cellsOf 2 = 1 := by kernel_rfl
theorem oc_key : Tryd.prog.cellsOf 33 = 2 := by kernel_rfl
theorem oc_ord : Tryd.prog.cellsOf tOd = 5 := by kernel_rfl
theorem oc_msg : Tryd.prog.cellsOf tMs = 7 := by kernel_rfl
theorem list5 {α : Type} {l : List α} (h : l.length = 5) : ∃ a b c d e, l = [a, b, c, d, e] := by
  match l, h with
  | [a, b, c, d, e], _ => exact ⟨a, b, c, d, e, rfl⟩
theorem list7 {α : Type} {l : List α} (h : l.length = 7) : ∃ a b c d e f g, l = [a, b, c, d, e, f, g] := by
  match l, h with
  | [a, b, c, d, e, f, g], _ => exact ⟨a, b, c, d, e, f, g, rfl⟩
set_option maxRecDepth 100000 in
theorem open_order {r : Reach} {b0 : Nat} {v : Value} {d : DataW H} {ps : List MemPlace} (hv : Value.okWide Tryd.prog w r b0 tOd v) (h : DataW.Trod enc Tryd.prog w base (fun _ => true) held tOd v d ps) :
    ∃ i R S q a, v = odV i R S q a ∧ I64 i ∧ R.size ≤ maxLen ∧ S.size ≤ maxLen ∧ I64 q ∧ I64 a := by
  obtain ⟨cs, rfl, hsz⟩ := okWide_struct Tryd.underlying65 hv
  obtain ⟨fuel, hf0⟩ := h
  obtain ⟨ys, n, _, _, hlen, hyl, hf⟩ := DataW.trod_struct Tryd.underlying65 hf0
  have hlen2 : cs.toList.length = 5 := by rw [Array.length_toList, hsz]; exact oc_ord
  obtain ⟨c0, c1, c2, c3, c4, hcs⟩ := list5 hlen2
  obtain rfl : cs = #[c0, c1, c2, c3, c4] := by rw [← Array.toArray_toList (xs := cs), hcs]
  have hys : ys.length = 5 := hyl
  have g : ∀ i, i < 5 → ∃ y, ys[i]? = some y := fun i hi => ⟨_, List.getElem?_eq_getElem (by omega)⟩
  have f0 : DataW.trod enc Tryd.prog w base (fun _ => true) held n 3 (([c0, c1, c2, c3, c4].drop 0).take (Tryd.prog.cellsOf 3)) = ys[0]? := hf 0 _ rfl
  have f1 : DataW.trod enc Tryd.prog w base (fun _ => true) held n 9 (([c0, c1, c2, c3, c4].drop 1).take (Tryd.prog.cellsOf 9)) = ys[1]? := hf 1 _ rfl
  have f2 : DataW.trod enc Tryd.prog w base (fun _ => true) held n 9 (([c0, c1, c2, c3, c4].drop 2).take (Tryd.prog.cellsOf 9)) = ys[2]? := hf 2 _ rfl
  have f3 : DataW.trod enc Tryd.prog w base (fun _ => true) held n 3 (([c0, c1, c2, c3, c4].drop 3).take (Tryd.prog.cellsOf 3)) = ys[3]? := hf 3 _ rfl
  have f4 : DataW.trod enc Tryd.prog w base (fun _ => true) held n 2 (([c0, c1, c2, c3, c4].drop 4).take (Tryd.prog.cellsOf 2)) = ys[4]? := hf 4 _ rfl
  simp only [oc_int, oc_str, oc_i64, List.drop_zero, List.take_succ_cons, List.take_zero, List.drop_succ_cons] at f0 f1 f2 f3 f4
  obtain ⟨y0, e0⟩ := g 0 (by omega)
  obtain ⟨y1, e1⟩ := g 1 (by omega)
  obtain ⟨y2, e2⟩ := g 2 (by omega)
  obtain ⟨y3, e3⟩ := g 3 (by omega)
  obtain ⟨y4, e4⟩ := g 4 (by omega)
  rw [e0] at f0
  rw [e1] at f1
  rw [e2] at f2
  rw [e3] at f3
  rw [e4] at f4
  obtain ⟨k0, q0, _, w0⟩ := DataW.trod_int Tryd.underlying3 f0
  obtain ⟨k1, q1, _, w1⟩ := DataW.trod_string Tryd.underlying9 f1
  obtain ⟨k2, q2, _, w2⟩ := DataW.trod_string Tryd.underlying9 f2
  obtain ⟨k3, q3, _, w3⟩ := DataW.trod_int Tryd.underlying3 f3
  obtain ⟨k4, q4, _, w4⟩ := DataW.trod_int Tryd.underlying2 f4
  obtain rfl := (List.cons.inj q0).1
  obtain rfl := (List.cons.inj q1).1
  obtain rfl := (List.cons.inj q2).1
  obtain rfl := (List.cons.inj q3).1
  obtain rfl := (List.cons.inj q4).1
  exact ⟨k0, k1, k2, k3, k4, rfl, i64_of w0, w1, w2, i64_of w3, i64_of w4⟩
set_option maxRecDepth 100000 in
theorem open_msg {r : Reach} {b0 : Nat} {v : Value} {d : DataW H} {ps : List MemPlace} (hv : Value.okWide Tryd.prog w r b0 tMs v) (h : DataW.Trod enc Tryd.prog w base (fun _ => true) held tMs v d ps) :
    ∃ t o k S q a c, v = msV t o k S q a c ∧ S.size ≤ maxLen := by
  obtain ⟨cs, rfl, hsz⟩ := okWide_struct Tryd.underlying35 hv
  obtain ⟨fuel, hf0⟩ := h
  obtain ⟨ys, n, _, _, hlen, hyl, hf⟩ := DataW.trod_struct Tryd.underlying35 hf0
  have hlen2 : cs.toList.length = 7 := by rw [Array.length_toList, hsz]; exact oc_msg
  obtain ⟨c0, c1, c2, c3, c4, c5, c6, hcs⟩ := list7 hlen2
  obtain rfl : cs = #[c0, c1, c2, c3, c4, c5, c6] := by rw [← Array.toArray_toList (xs := cs), hcs]
  have hys : ys.length = 6 := hyl
  have g : ∀ i, i < 6 → ∃ y, ys[i]? = some y := fun i hi => ⟨_, List.getElem?_eq_getElem (by omega)⟩
  have f0 : DataW.trod enc Tryd.prog w base (fun _ => true) held n 3 (([c0, c1, c2, c3, c4, c5, c6].drop 0).take (Tryd.prog.cellsOf 3)) = ys[0]? := hf 0 _ rfl
  have f1 : DataW.trod enc Tryd.prog w base (fun _ => true) held n 33 (([c0, c1, c2, c3, c4, c5, c6].drop 1).take (Tryd.prog.cellsOf 33)) = ys[1]? := hf 1 _ rfl
  have f2 : DataW.trod enc Tryd.prog w base (fun _ => true) held n 9 (([c0, c1, c2, c3, c4, c5, c6].drop 3).take (Tryd.prog.cellsOf 9)) = ys[2]? := hf 2 _ rfl
  have f3 : DataW.trod enc Tryd.prog w base (fun _ => true) held n 3 (([c0, c1, c2, c3, c4, c5, c6].drop 4).take (Tryd.prog.cellsOf 3)) = ys[3]? := hf 3 _ rfl
  have f4 : DataW.trod enc Tryd.prog w base (fun _ => true) held n 2 (([c0, c1, c2, c3, c4, c5, c6].drop 5).take (Tryd.prog.cellsOf 2)) = ys[4]? := hf 4 _ rfl
  have f5 : DataW.trod enc Tryd.prog w base (fun _ => true) held n 3 (([c0, c1, c2, c3, c4, c5, c6].drop 6).take (Tryd.prog.cellsOf 3)) = ys[5]? := hf 5 _ rfl
  simp only [oc_int, oc_str, oc_i64, oc_key, List.drop_zero, List.take_succ_cons, List.take_zero, List.drop_succ_cons] at f0 f1 f2 f3 f4 f5
  obtain ⟨y0, e0⟩ := g 0 (by omega)
  obtain ⟨y1, e1⟩ := g 1 (by omega)
  obtain ⟨y2, e2⟩ := g 2 (by omega)
  obtain ⟨y3, e3⟩ := g 3 (by omega)
  obtain ⟨y4, e4⟩ := g 4 (by omega)
  obtain ⟨y5, e5⟩ := g 5 (by omega)
  rw [e0] at f0
  rw [e1] at f1
  rw [e2] at f2
  rw [e3] at f3
  rw [e4] at f4
  rw [e5] at f5
  obtain ⟨k0, q0, _, w0⟩ := DataW.trod_int Tryd.underlying3 f0
  obtain ⟨zs, m, _, _, _, hzl, hz⟩ := DataW.trod_struct Tryd.underlying33 f1
  have hzs : zs.length = 2 := hzl
  have z0 : DataW.trod enc Tryd.prog w base (fun _ => true) held m 3 (([c1, c2].drop 0).take (Tryd.prog.cellsOf 3)) = zs[0]? := hz 0 _ rfl
  have z1 : DataW.trod enc Tryd.prog w base (fun _ => true) held m 3 (([c1, c2].drop 1).take (Tryd.prog.cellsOf 3)) = zs[1]? := hz 1 _ rfl
  simp only [oc_int, List.drop_zero, List.take_succ_cons, List.take_zero, List.drop_succ_cons] at z0 z1
  obtain ⟨u0, eu0⟩ : ∃ y, zs[0]? = some y := ⟨_, List.getElem?_eq_getElem (by omega)⟩
  obtain ⟨u1, eu1⟩ : ∃ y, zs[1]? = some y := ⟨_, List.getElem?_eq_getElem (by omega)⟩
  rw [eu0] at z0
  rw [eu1] at z1
  obtain ⟨j0, qj0, _, wj0⟩ := DataW.trod_int Tryd.underlying3 z0
  obtain ⟨j1, qj1, _, wj1⟩ := DataW.trod_int Tryd.underlying3 z1
  obtain ⟨k2, q2, _, w2⟩ := DataW.trod_string Tryd.underlying9 f2
  obtain ⟨k3, q3, _, w3⟩ := DataW.trod_int Tryd.underlying3 f3
  obtain ⟨k4, q4, _, w4⟩ := DataW.trod_int Tryd.underlying2 f4
  obtain ⟨k5, q5, _, w5⟩ := DataW.trod_int Tryd.underlying3 f5
  obtain rfl := (List.cons.inj q0).1
  obtain rfl := (List.cons.inj qj0).1
  obtain rfl := (List.cons.inj qj1).1
  obtain rfl := (List.cons.inj q2).1
  obtain rfl := (List.cons.inj q3).1
  obtain rfl := (List.cons.inj q4).1
  obtain rfl := (List.cons.inj q5).1
  exact ⟨k0, j0, j1, k2, k3, k4, k5, rfl, w2⟩
end Go.Proofs.YtkffpmeocfhcpaaDoor
