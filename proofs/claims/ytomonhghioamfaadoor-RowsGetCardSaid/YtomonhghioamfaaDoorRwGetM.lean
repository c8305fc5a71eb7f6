
/- What numbers say of a statement. -/
import Derived.Test.YtomonhghioamfaaDoorRwMath
set_option linter.unusedVariables false
namespace Go.Proofs.YtomonhghioamfaaDoor
open Bit Ky Go.RowKit
namespace Rw

def at0 (ns : List Nat) (i : Nat) : Nat := (ns[i]?).getD 0
def numR (ns : List Nat) (j : Nat) : R := ⟨at0 ns (3 + 5 * j), at0 ns (4 + 5 * j), at0 ns (5 + 5 * j), at0 ns (6 + 5 * j), at0 ns (7 + 5 * j)⟩
def numL (ns : List Nat) (j : Nat) : List R := (List.range j).map (numR ns)
theorem numL_len (ns : List Nat) (j : Nat) : (numL ns j).length = j := by simp [numL]
theorem numL_next (ns : List Nat) (j : Nat) : numL ns (j + 1) = numL ns j ++ [numR ns j] := by unfold numL; rw [List.range_succ, List.map_append]; rfl
theorem rowN_at : ∀ {L : List R} {j : Nat} {x : R} {t : Nat}, L[j]? = some x → t < 5 → (L.flatMap rowN)[5 * j + t]? = (rowN x)[t]?
  | [], j, x, t, h, _ => by simp at h
  | y :: L, 0, x, t, h, ht => by
    simp at h; subst h
    rw [List.flatMap_cons, Nat.mul_zero, Nat.zero_add, List.getElem?_append_left (by simp [rowN]; exact ht)]
  | y :: L, j + 1, x, t, h, ht => by
    have h' : L[j]? = some x := by simpa using h
    rw [List.flatMap_cons, List.getElem?_append_right (by simp only [rowN, List.length_cons, List.length_nil]; omega)]
    have e : 5 * (j + 1) + t - (rowN y).length = 5 * j + t := by simp only [rowN, List.length_cons, List.length_nil]; omega
    rw [e]
    exact rowN_at h' ht
theorem nums_at {p s : Int} {L : List R} {j : Nat} {x : R} {t : Nat} (h : L[j]? = some x) (ht : t < 5) : (numsOf p s L)[3 + (5 * j + t)]? = (rowN x)[t]? := by
  unfold numsOf
  rw [List.getElem?_append_right (by simp only [List.length_cons, List.length_nil]; omega)]
  have e : 3 + (5 * j + t) - ([p.toNat, s.toNat, L.length] : List Nat).length = 5 * j + t := by simp only [List.length_cons, List.length_nil]; omega
  rw [e]
  exact rowN_at h ht
theorem numR_of {p s : Int} {L : List R} {j : Nat} {x : R} {q : Int} (h : L[j]? = some x) (hr : Row1 q x) : numR (numsOf p s L) j = x := by
  have e : ∀ t, t < 5 → (numsOf p s L)[3 + (5 * j + t)]? = (rowN x)[t]? := fun t ht => nums_at h ht
  have e0 := e 0 (by omega)
  have e1 := e 1 (by omega)
  have e2 := e 2 (by omega)
  have e3 := e 3 (by omega)
  have e4 := e 4 (by omega)
  have := hr.key.o0
  have := hr.key.d0
  have := hr.c1
  have := hr.a0
  have := hr.q0
  unfold numR at0
  rw [show 3 + 5 * j = 3 + (5 * j + 0) from rfl, show 4 + 5 * j = 3 + (5 * j + 1) from by omega, show 5 + 5 * j = 3 + (5 * j + 2) from by omega, show 6 + 5 * j = 3 + (5 * j + 3) from by omega, show 7 + 5 * j = 3 + (5 * j + 4) from by omega, e0, e1, e2, e3, e4]
  cases x
  simp only [rowN, List.getElem?_cons_zero, List.getElem?_cons_succ, Option.getD_some, R.mk.injEq]
  simp only at *
  omega
theorem numL_of {p s : Int} {L : List R} (h : Valid p s L) : numL (numsOf p s L) L.length = L := by
  apply List.ext_getElem?
  intro j
  by_cases hj : j < L.length
  · have hx : L[j]? = some L[j] := List.getElem?_eq_getElem hj
    unfold numL
    rw [List.getElem?_map, List.getElem?_range hj, hx]
    show some (numR _ j) = _
    rw [numR_of hx (h.good.each _ (List.getElem_mem hj))]
  · rw [List.getElem?_eq_none (by rw [numL_len]; omega), List.getElem?_eq_none (by omega)]
/-- If these bytes are a valid statement's, its numbers say it. -/
theorem nums_say {l : List UInt8} {ns : List Nat} (hn : NumIs l ns true) {p s : Int} {L : List R} (h : Valid p s L) (e : putR p s L = l) : ns = numsOf p s L := by
  rcases hn with ⟨_, h1, h2⟩ | ⟨h1, _⟩
  · exact nums_inj h1 h.low (by rw [h2, numsOf_sev, e])
  · cases h1
theorem none_bad {l : List UInt8} {ns : List Nat} (hn : NumIs l ns false) : ∀ p s L, Valid p s L → putR p s L ≠ l := fun p s L h e => by
  rcases hn with ⟨h1, _⟩ | ⟨_, _, h3⟩
  · cases h1
  · exact h3 _ h.low (by rw [numsOf_sev, e])
theorem none_len {l : List UInt8} {ns : List Nat} (hn : NumIs l ns true) (hl : ¬ (3 ≤ ns.length ∧ ns.length % 5 = 3)) : ∀ p s L, Valid p s L → putR p s L ≠ l := fun p s L h e => by
  have := congrArg List.length (nums_say hn h e)
  rw [numsOf_len] at this
  omega
theorem none_else {l : List UInt8} {ns : List Nat} {M : Nat} (hn : NumIs l ns true) (hM : ns.length = 3 + 5 * M) (hv : ¬ (Valid (at0 ns 0) (at0 ns 1) (numL ns M) ∧ putR (at0 ns 0) (at0 ns 1) (numL ns M) = l)) : ∀ p s L, Valid p s L → putR p s L ≠ l := fun p s L h e => by
  have e2 := nums_say hn h e
  subst e2
  rw [numsOf_len] at hM
  obtain rfl : L.length = M := by omega
  have h0 : ((at0 (numsOf p s L) 0 : Nat) : Int) = p := by have := h.good.p0; show ((p.toNat : Nat) : Int) = p; omega
  have h1 : ((at0 (numsOf p s L) 1 : Nat) : Int) = s := by have := h.s0; show ((s.toNat : Nat) : Int) = s; omega
  rw [h0, h1, numL_of h] at hv
  exact hv ⟨h, e⟩
end Rw
end Go.Proofs.YtomonhghioamfaaDoor
