
/- Rows, and statements, that come in. -/
import Derived.Test.YthnjjeofpemdoaaDoorOpenHasP
import Derived.Test.YthnjjeofpemdoaaDoorRwMem
import Derived.Deep.Slices
import Derived.DataReads
set_option linter.unusedVariables false
namespace Go.Proofs.YthnjjeofpemdoaaDoor
open Go.ChangeShapes Go.WideShapes Go.ChangeAt Go.RowKit Csv Go.Deep Ky Rw
variable {H : Type} {enc : TypeId × Value → H} {w : World} {base : Nat} {held : Bool}

theorem sc_int : Tryd.prog.cellsOf 3 = 1 := by kernel_rfl
theorem sc_i64 : Tryd.prog.cellsOf 2 = 1 := by kernel_rfl
theorem sc_key : Tryd.prog.cellsOf 39 = 2 := by kernel_rfl
theorem sc_row : Tryd.prog.cellsOf tRw = 5 := by kernel_rfl
theorem sc_rows : Tryd.prog.cellsOf tRs = 1 := by kernel_rfl
theorem sc_st : Tryd.prog.cellsOf tSt = 3 := by kernel_rfl
theorem sl5 {α : Type} {l : List α} (h : l.length = 5) : ∃ a b c d e, l = [a, b, c, d, e] := by
  match l, h with
  | [a, b, c, d, e], _ => exact ⟨a, b, c, d, e, rfl⟩
theorem sl3 {α : Type} {l : List α} (h : l.length = 3) : ∃ a b c, l = [a, b, c] := by
  match l, h with
  | [a, b, c], _ => exact ⟨a, b, c, rfl⟩
/-- The five cells of a row, read. -/
theorem row_of {fuel : Nat} {cs : List Value} {x : DataW H × List MemPlace} (h : DataW.trod enc Tryd.prog w base (fun _ => true) held fuel tRw cs = some x) : ∃ a : R, cs = rwVals a := by
  obtain ⟨ys, n, _, _, hlen, hyl, hf⟩ := DataW.trod_struct Tryd.underlying41 h
  rw [sc_row] at hlen
  obtain ⟨c0, c1, c2, c3, c4, rfl⟩ := sl5 hlen
  have hys : ys.length = 4 := hyl
  have g : ∀ i, i < 4 → ∃ y, ys[i]? = some y := fun i hi => ⟨_, List.getElem?_eq_getElem (by omega)⟩
  have f0 : DataW.trod enc Tryd.prog w base (fun _ => true) held n 39 (([c0, c1, c2, c3, c4].drop 0).take (Tryd.prog.cellsOf 39)) = ys[0]? := hf 0 _ rfl
  have f1 : DataW.trod enc Tryd.prog w base (fun _ => true) held n 3 (([c0, c1, c2, c3, c4].drop 2).take (Tryd.prog.cellsOf 3)) = ys[1]? := hf 1 _ rfl
  have f2 : DataW.trod enc Tryd.prog w base (fun _ => true) held n 2 (([c0, c1, c2, c3, c4].drop 3).take (Tryd.prog.cellsOf 2)) = ys[2]? := hf 2 _ rfl
  have f3 : DataW.trod enc Tryd.prog w base (fun _ => true) held n 3 (([c0, c1, c2, c3, c4].drop 4).take (Tryd.prog.cellsOf 3)) = ys[3]? := hf 3 _ rfl
  simp only [sc_int, sc_i64, sc_key, List.drop_zero, List.take_succ_cons, List.take_zero, List.drop_succ_cons] at f0 f1 f2 f3
  obtain ⟨y0, e0⟩ := g 0 (by omega)
  obtain ⟨y1, e1⟩ := g 1 (by omega)
  obtain ⟨y2, e2⟩ := g 2 (by omega)
  obtain ⟨y3, e3⟩ := g 3 (by omega)
  rw [e0] at f0
  rw [e1] at f1
  rw [e2] at f2
  rw [e3] at f3
  obtain ⟨zs, m, _, _, _, hzl, hz⟩ := DataW.trod_struct Tryd.underlying39 f0
  have hzs : zs.length = 2 := hzl
  have z0 : DataW.trod enc Tryd.prog w base (fun _ => true) held m 3 (([c0, c1].drop 0).take (Tryd.prog.cellsOf 3)) = zs[0]? := hz 0 _ rfl
  have z1 : DataW.trod enc Tryd.prog w base (fun _ => true) held m 3 (([c0, c1].drop 1).take (Tryd.prog.cellsOf 3)) = zs[1]? := hz 1 _ rfl
  simp only [sc_int, List.drop_zero, List.take_succ_cons, List.take_zero, List.drop_succ_cons] at z0 z1
  obtain ⟨u0, eu0⟩ : ∃ y, zs[0]? = some y := ⟨_, List.getElem?_eq_getElem (by omega)⟩
  obtain ⟨u1, eu1⟩ : ∃ y, zs[1]? = some y := ⟨_, List.getElem?_eq_getElem (by omega)⟩
  rw [eu0] at z0
  rw [eu1] at z1
  obtain ⟨j0, qj0, _, _⟩ := DataW.trod_int Tryd.underlying3 z0
  obtain ⟨j1, qj1, _, _⟩ := DataW.trod_int Tryd.underlying3 z1
  obtain ⟨k1, q1, _, _⟩ := DataW.trod_int Tryd.underlying3 f1
  obtain ⟨k2, q2, _, _⟩ := DataW.trod_int Tryd.underlying2 f2
  obtain ⟨k3, q3, _, _⟩ := DataW.trod_int Tryd.underlying3 f3
  obtain rfl := (List.cons.inj qj0).1
  obtain rfl := (List.cons.inj qj1).1
  obtain rfl := (List.cons.inj q1).1
  obtain rfl := (List.cons.inj q2).1
  obtain rfl := (List.cons.inj q3).1
  exact ⟨⟨j0, j1, k1, k2, k3⟩, rfl⟩
theorem rows_of {fuel : Nat} {v : Value} {x : DataW H × List MemPlace} (h : DataW.trod enc Tryd.prog w base (fun _ => true) held fuel tRs [v] = some x) : ∃ L : List R, RowsIn w v L := by
  rcases open_slice Tryd.underlying22 h with ⟨hcs, _⟩ | ⟨a, len, cap, m, n', D, Pl, hcs, _, hl, hm, hz, _, hi⟩
  · rw [(List.cons.inj hcs).1]
    exact ⟨[], rows_nil w⟩
  · rw [(List.cons.inj hcs).1]
    simp only [if_true] at hz
    have key : ∀ i, i < len → ∃ x : R, RowAt w (a.add (i * 5)) x := by
      intro i hil
      obtain ⟨cs', h1, h2⟩ := hi i (by omega)
      rw [sc_row] at h1
      obtain ⟨x, rfl⟩ := row_of h2
      obtain ⟨_, _, hat⟩ := World.cells?_some h1
      have far : ∀ k, 0 < k → (a.add (i * 5)).add k = ⟨(a.add (i * 5)).block, (a.add (i * 5)).off + k, none⟩ := fun k hk => by
        unfold Addr.add
        rw [if_neg (by omega : ¬ k = 0)]
      refine ⟨x, ?_, ?_, ?_, ?_, ?_⟩
      · have h0 := hat 0 (by decide)
        have e : (a.add (i * 5)).add 0 = a.add (i * 5) := rfl
        rw [e] at h0
        exact h0
      · have h0 := hat 1 (by decide)
        rw [far 1 (by omega)] at h0
        exact h0
      · have h0 := hat 2 (by decide)
        rw [far 2 (by omega)] at h0
        exact h0
      · have h0 := hat 3 (by decide)
        rw [far 3 (by omega)] at h0
        exact h0
      · have h0 := hat 4 (by decide)
        rw [far 4 (by omega)] at h0
        exact h0
    have hall : ∃ L : List R, L.length = len ∧ ∀ j x, L[j]? = some x → RowAt w (a.add (j * 5)) x := by
      refine ⟨(List.range len).map fun i => if hi : i < len then (key i hi).choose else ⟨0, 0, 0, 0, 0⟩, by simp, fun j x hx => ?_⟩
      rw [List.getElem?_map] at hx
      have hj : j < len := by
        rcases Nat.lt_or_ge j len with h | h
        · exact h
        · rw [List.getElem?_eq_none (by simpa using h)] at hx
          cases hx
      rw [List.getElem?_range hj] at hx
      simp only [Option.map_some, hj, dif_pos, Option.some.injEq] at hx
      rw [← hx]
      exact (key j hj).choose_spec
    obtain ⟨L, hL, hR⟩ := hall
    exact ⟨L, some a, cap, by rw [hL], by omega, ⟨by omega, fun e => by cases e⟩, fun j x hx => ⟨a, rfl, hR j x hx⟩⟩
theorem open_rows_in {p : Option Addr} {n c : Nat} {v : Value} {d : DataW H} {ps : List MemPlace} (e : v = .slice p n c) (h : DataW.Trod enc Tryd.prog w base (fun _ => true) held tRs v d ps) : ∃ L : List R, RowsIn w v L := by
  obtain ⟨fuel, h⟩ := h
  subst e
  exact rows_of h
theorem open_stmt {r : Reach} {b0 : Nat} {v : Value} {d : DataW H} {ps : List MemPlace} (hv : Value.okWide Tryd.prog w r b0 tSt v) (h : DataW.Trod enc Tryd.prog w base (fun _ => true) held tSt v d ps) :
    ∃ p s u L, v = stV p s u ∧ RowsIn w u L := by
  obtain ⟨cs, rfl, hsz⟩ := okWide_struct Tryd.underlying24 hv
  obtain ⟨fuel, hf0⟩ := h
  obtain ⟨ys, n, _, _, hlen, hyl, hf⟩ := DataW.trod_struct Tryd.underlying24 hf0
  have hlen2 : cs.toList.length = 3 := by rw [Array.length_toList, hsz]; exact sc_st
  obtain ⟨c0, c1, c2, hcs⟩ := sl3 hlen2
  obtain rfl : cs = #[c0, c1, c2] := by rw [← Array.toArray_toList (xs := cs), hcs]
  have hys : ys.length = 3 := hyl
  have g : ∀ i, i < 3 → ∃ y, ys[i]? = some y := fun i hi => ⟨_, List.getElem?_eq_getElem (by omega)⟩
  have f0 : DataW.trod enc Tryd.prog w base (fun _ => true) held n 3 (([c0, c1, c2].drop 0).take (Tryd.prog.cellsOf 3)) = ys[0]? := hf 0 _ rfl
  have f1 : DataW.trod enc Tryd.prog w base (fun _ => true) held n 3 (([c0, c1, c2].drop 1).take (Tryd.prog.cellsOf 3)) = ys[1]? := hf 1 _ rfl
  have f2 : DataW.trod enc Tryd.prog w base (fun _ => true) held n tRs (([c0, c1, c2].drop 2).take (Tryd.prog.cellsOf tRs)) = ys[2]? := hf 2 _ rfl
  simp only [sc_int, sc_rows, List.drop_zero, List.take_succ_cons, List.take_zero, List.drop_succ_cons] at f0 f1 f2
  obtain ⟨y0, e0⟩ := g 0 (by omega)
  obtain ⟨y1, e1⟩ := g 1 (by omega)
  obtain ⟨y2, e2⟩ := g 2 (by omega)
  rw [e0] at f0
  rw [e1] at f1
  rw [e2] at f2
  obtain ⟨k0, q0, _, _⟩ := DataW.trod_int Tryd.underlying3 f0
  obtain ⟨k1, q1, _, _⟩ := DataW.trod_int Tryd.underlying3 f1
  obtain ⟨L, hL⟩ := rows_of f2
  obtain rfl := (List.cons.inj q0).1
  obtain rfl := (List.cons.inj q1).1
  exact ⟨k0, k1, c2, L, rfl, hL⟩
end Go.Proofs.YthnjjeofpemdoaaDoor
