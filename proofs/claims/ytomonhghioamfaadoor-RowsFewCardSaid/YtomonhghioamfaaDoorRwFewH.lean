
/- Parts of rows that came in: the first n, and from the n-th on. -/
import Derived.Test.YtomonhghioamfaaDoorRwMem
set_option linter.unusedVariables false
namespace Go.Proofs.YtomonhghioamfaaDoor
open Go.ChangeShapes Go.WideShapes Go.ChangeAt Go.RowKit Bit Ky Rw Csv

theorem add_two (a : Addr) (x y : Nat) : (a.add x).add y = a.add (x + y) := by
  unfold Addr.add
  by_cases hx : x = 0
  · subst hx
    rw [if_pos rfl, Nat.zero_add]
  · by_cases hy : y = 0
    · subst hy
      rw [if_pos rfl, Nat.add_zero]
    · rw [if_neg hx, if_neg hy, if_neg (by omega)]
      simp only [Nat.add_assoc]
theorem RowsIn.front {w : World} {p : Option Addr} {N c n : Nat} {L : List R} (h : RowsIn w (.slice p N c) L) (hn : n ≤ N) : RowsIn w (.slice p n c) (L.take n) := by
  obtain ⟨p', c', e, hm, hc, hr⟩ := h
  simp only [Value.slice.injEq] at e
  obtain ⟨rfl, rfl, rfl⟩ := e
  have hl : (L.take n).length = n := by rw [List.length_take]; omega
  refine ⟨p, c, by rw [hl], by rw [hl]; omega, ⟨by rw [hl]; omega, hc.2⟩, fun j x hx => ?_⟩
  rw [List.getElem?_take] at hx
  split at hx
  · exact hr j x hx
  · cases hx
theorem RowsIn.back {w : World} {a : Addr} {N c n : Nat} {L : List R} (h : RowsIn w (.slice (some a) N c) L) (hn : n ≤ N) : RowsIn w (.slice (some (a.add (n * 5))) (N - n) (c - n)) (L.drop n) := by
  obtain ⟨p', c', e, hm, hc, hr⟩ := h
  simp only [Value.slice.injEq] at e
  obtain ⟨e1, rfl, rfl⟩ := e
  have hl : (L.drop n).length = L.length - n := List.length_drop
  refine ⟨some (a.add (n * 5)), c - n, by rw [hl], by rw [hl]; omega, ⟨by rw [hl]; omega, fun e => by cases e⟩, fun j x hx => ⟨_, rfl, ?_⟩⟩
  rw [List.getElem?_drop] at hx
  obtain ⟨b, hb, hrow⟩ := hr _ x hx
  rw [← e1] at hb
  cases hb
  rw [add_two, ← Nat.add_mul]
  exact hrow
end Go.Proofs.YtomonhghioamfaaDoor
