
/- A row stored into rows of the call's own. -/
import Derived.Test.YtomonhghioamfaaDoorRwRefG
set_option linter.unusedVariables false
namespace Go.Proofs.YtomonhghioamfaaDoor
open Go.ChangeShapes Go.WideShapes Go.ChangeAt Go.RowKit Bit Ky Rw Csv

/-- The five stores of a row. -/
def fiveR (W : World) (g m : Nat) (x : R) : World := ((((W.setCell ⟨g, m, none⟩ (.int .i64 x.o)).setCell ⟨g, m + 1, none⟩ (.int .i64 x.d)).setCell ⟨g, m + 2, none⟩ (.int .i64 x.c)).setCell ⟨g, m + 3, none⟩ (.int .i64 x.a)).setCell ⟨g, m + 4, none⟩ (.int .i64 x.q)
theorem fiveR_keeps {w W : World} (h : Keeps w W) {g m : Nat} (hg : w.heap.size ≤ g) (x : R) : Keeps w (fiveR W g m x) :=
  ((((h.setCell (p := ⟨g, m, none⟩) hg _).setCell (p := ⟨g, m + 1, none⟩) hg _).setCell (p := ⟨g, m + 2, none⟩) hg _).setCell (p := ⟨g, m + 3, none⟩) hg _).setCell (p := ⟨g, m + 4, none⟩) hg _
theorem fiveR_block {W : World} {g m : Nat} {cs : Array Value} {t : TypeId} (h : W.heap[g]? = some (.cells cs t (0, 0))) (x : R) :
    (fiveR W g m x).heap[g]? = some (.cells (((((cs.setIfInBounds m (.int .i64 x.o)).setIfInBounds (m + 1) (.int .i64 x.d)).setIfInBounds (m + 2) (.int .i64 x.c)).setIfInBounds (m + 3) (.int .i64 x.a)).setIfInBounds (m + 4) (.int .i64 x.q)) t (0, 0)) :=
  Joins.block_setCell (Joins.block_setCell (Joins.block_setCell (Joins.block_setCell (Joins.block_setCell h _) _) _) _) _
theorem own_set5 {B : Nat} {W : World} {g N c i : Nat} {L : List R} {x : R} (h : rowK.Own B W (.slice (some ⟨g, 0, none⟩) N c) L) (hi : i < L.length) :
    rowK.Own B (fiveR W g (i * 5) x) (.slice (some ⟨g, 0, none⟩) N c) (L.set i x) := by
  obtain ⟨h1, h2⟩ := h
  refine ⟨rowK.row_len _, ?_⟩
  rcases h2 with ⟨e, _⟩ | ⟨g', cap, cur, e, hb, hg, r1, r2, r3, r4⟩
  · cases e
  · simp only [Value.slice.injEq, Option.some.injEq, Addr.mk.injEq] at e
    obtain ⟨⟨rfl, _, _⟩, rfl, rfl⟩ := e
    right
    refine ⟨g, c, _, by rw [List.length_set], hb, fiveR_block hg x, by rw [List.length_set]; exact r1, r2, by simpa using r3, ?_⟩
    have e5 : rowK.sz = 5 := rfl
    rw [e5] at r3 r4 h1
    rw [List.length_set, e5]
    apply List.ext_getElem?
    intro m
    by_cases hm : m < L.length * 5
    · obtain ⟨k, t, rfl, ht⟩ : ∃ k t, m = k * 5 + t ∧ t < 5 := ⟨m / 5, m % 5, by omega, by omega⟩
      have hk : k < L.length := by omega
      have hk2 : k < (L.set i x).length := by rw [List.length_set]; exact hk
      have hx : (L.set i x)[k]? = some (L.set i x)[k] := List.getElem?_eq_getElem hk2
      have hv : (rwVals (L.set i x)[k])[t]? = some ((rwVals (L.set i x)[k])[t]'ht) := List.getElem?_eq_getElem ht
      have R1 := rowK.row_at hx (j := t) (u := (rwVals (L.set i x)[k])[t]'ht) hv
      rw [e5] at R1
      rw [R1, List.getElem?_take_of_lt hm]
      have hcap : L.length * 5 ≤ c * 5 := Nat.mul_le_mul_right 5 r1
      by_cases hki : k = i
      · subst hki
        simp only [Array.toList_setIfInBounds, List.getElem_set_self]
        rcases (show t = 0 ∨ t = 1 ∨ t = 2 ∨ t = 3 ∨ t = 4 from by omega) with rfl | rfl | rfl | rfl | rfl
        all_goals
          simp only [List.getElem?_set, List.length_set, Array.length_toList, r3, rwVals]
          simp (config := {arith := true})
          try omega
      · have hne : ∀ u, u < 5 → ¬ (i * 5 + u = k * 5 + t) := fun u hu e => hki (by omega)
        have h0 : ¬ (i * 5 = k * 5 + t) := hne 0 (by omega)
        have hxk : (L.set i x)[k] = L[k] := by rw [List.getElem_set_ne (fun e => hki e.symm)]
        have R0 := rowK.row_at (List.getElem?_eq_getElem hk) (j := t) (u := (rwVals L[k])[t]'ht) (List.getElem?_eq_getElem ht)
        rw [e5, ← r4, List.getElem?_take_of_lt hm] at R0
        simp only [Array.toList_setIfInBounds, List.getElem?_set, h0, hne 1 (by omega), hne 2 (by omega), hne 3 (by omega), hne 4 (by omega), if_false]
        rw [R0]
        simp only [hxk]
        rfl
    · rw [List.getElem?_eq_none (by rw [List.length_take]; omega), List.getElem?_eq_none (by rw [rowK.row_len, List.length_set, e5]; omega)]
/-- What stands in a row of the call's own. -/
theorem own_at5 {B : Nat} {W : World} {g N c i : Nat} {L : List R} {x : R} (h : rowK.Own B W (.slice (some ⟨g, 0, none⟩) N c) L) (hx : L[i]? = some x) :
    (W.cell? ⟨g, i * 5, none⟩ = some (.int .i64 x.o) ∧ W.cell? ⟨g, i * 5 + 1, none⟩ = some (.int .i64 x.d) ∧ W.cell? ⟨g, i * 5 + 2, none⟩ = some (.int .i64 x.c) ∧ W.cell? ⟨g, i * 5 + 3, none⟩ = some (.int .i64 x.a) ∧ W.cell? ⟨g, i * 5 + 4, none⟩ = some (.int .i64 x.q)) ∧
    (W.frozen? ⟨g, i * 5, none⟩ = false ∧ W.frozen? ⟨g, i * 5 + 1, none⟩ = false ∧ W.frozen? ⟨g, i * 5 + 2, none⟩ = false ∧ W.frozen? ⟨g, i * 5 + 3, none⟩ = false ∧ W.frozen? ⟨g, i * 5 + 4, none⟩ = false) := by
  have c : ∀ t u, (rwVals x)[t]? = some u → W.cell? ⟨g, i * 5 + t, none⟩ = some u := fun t u hu => rowK.own_at h hx hu
  obtain ⟨cs, hb⟩ := rowK.own_tag h (g := g) rfl
  exact ⟨⟨c 0 _ rfl, c 1 _ rfl, c 2 _ rfl, c 3 _ rfl, c 4 _ rfl⟩, Joins.unfrozen_of_block hb _, Joins.unfrozen_of_block hb _, Joins.unfrozen_of_block hb _, Joins.unfrozen_of_block hb _, Joins.unfrozen_of_block hb _⟩
end Go.Proofs.YtomonhghioamfaaDoor
