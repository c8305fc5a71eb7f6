
/- What the program's Get reads, number by number. -/
import Derived.Test.YtomonhghioamfaaDoorRwMath
set_option linter.unusedVariables false
namespace Go.Proofs.YtomonhghioamfaaDoor
open Bit Ky Go.RowKit
namespace Rw

def rowRd (l : List UInt8) : R := ⟨wrap64 (rdV l), wrap64 (rdV (rdR l)), wrap64 (rdV (rdR (rdR l))), wrap64 (rdV (rdR (rdR (rdR l)))), wrap64 (rdV (rdR (rdR (rdR (rdR l)))))⟩
def rowRs (l : List UInt8) : List UInt8 := rdR (rdR (rdR (rdR (rdR l))))
def restR : Nat → List UInt8 → List UInt8
  | 0, l => l
  | n + 1, l => rowRs (restR n l)
def rowsR (n : Nat) (l : List UInt8) : List R := (List.range n).map fun j => rowRd (restR j l)
theorem rowsR_len (n : Nat) (l : List UInt8) : (rowsR n l).length = n := by simp [rowsR]
theorem rowsR_next (n : Nat) (l : List UInt8) : rowsR (n + 1) l = rowsR n l ++ [rowRd (restR n l)] := by unfold rowsR; rw [List.range_succ, List.map_append]; rfl
theorem wrap_nat {n : Int} (h0 : 0 ≤ n) (h : n ≤ 1099511627776) : wrap64 ((n.toNat : Nat) : Int) = n := by
  rw [show ((n.toNat : Nat) : Int) = n from by omega]
  exact i64w (by unfold top; omega) (by unfold top; omega)
theorem rdR_le (l : List UInt8) : (rdR l).length ≤ l.length := by
  unfold rdR
  split
  · rw [List.length_drop]; omega
  · simp
theorem rowRs_le (l : List UInt8) : (rowRs l).length ≤ l.length := by
  unfold rowRs
  have := rdR_le l
  have := rdR_le (rdR l)
  have := rdR_le (rdR (rdR l))
  have := rdR_le (rdR (rdR (rdR l)))
  have := rdR_le (rdR (rdR (rdR (rdR l))))
  omega
theorem restR_le : ∀ (n : Nat) (l : List UInt8), (restR n l).length ≤ l.length
  | 0, l => Nat.le_refl _
  | n + 1, l => Nat.le_trans (rowRs_le _) (restR_le n l)
theorem rowRd_of {p : Int} {x : R} (h : Row1 p x) (u : List UInt8) : rowRd (rowL x ++ u) = x ∧ rowRs (rowL x ++ u) = u := by
  obtain ⟨h1, h2, h3, h4, h5⟩ := h.small
  unfold rowL
  simp only [List.append_assoc]
  obtain ⟨_, v1, r1⟩ := rd_sev h1 (sev x.d.toNat ++ (sev x.c.toNat ++ (sev x.a.toNat ++ (sev x.q.toNat ++ u))))
  obtain ⟨_, v2, r2⟩ := rd_sev h2 (sev x.c.toNat ++ (sev x.a.toNat ++ (sev x.q.toNat ++ u)))
  obtain ⟨_, v3, r3⟩ := rd_sev h3 (sev x.a.toNat ++ (sev x.q.toNat ++ u))
  obtain ⟨_, v4, r4⟩ := rd_sev h4 (sev x.q.toNat ++ u)
  obtain ⟨_, v5, r5⟩ := rd_sev h5 u
  have k := h.key
  refine ⟨?_, ?_⟩
  · unfold rowRd
    rw [v1, r1, v2, r2, v3, r3, v4, r4, v5, wrap_nat (by have := k.o0; omega) (by have := k.o1; omega), wrap_nat (by have := k.d0; omega) (by have := k.d1; omega), wrap_nat (by have := h.c1; omega) (by have := h.c2; omega), wrap_nat h.a0 h.a1, wrap_nat h.q0 (by have := h.q1; omega)]
  · unfold rowRs
    rw [r1, r2, r3, r4, r5]
theorem restR_of {p : Int} {L : List R} (h : ∀ x ∈ L, Row1 p x) (u : List UInt8) : ∀ j, j ≤ L.length → restR j (L.flatMap rowL ++ u) = (L.drop j).flatMap rowL ++ u
  | 0, _ => rfl
  | j + 1, hj => by
    have hx : j < L.length := hj
    have e : L.drop j = L[j] :: L.drop (j + 1) := List.drop_eq_getElem_cons hx
    show rowRs (restR j _) = _
    rw [restR_of h u j (by omega), e, List.flatMap_cons, List.append_assoc]
    exact (rowRd_of (h _ (List.getElem_mem hx)) _).2
theorem rowsR_of {p : Int} {L : List R} (h : ∀ x ∈ L, Row1 p x) (u : List UInt8) : rowsR L.length (L.flatMap rowL ++ u) = L := by
  apply List.ext_getElem?
  intro j
  by_cases hj : j < L.length
  · have e : L.drop j = L[j] :: L.drop (j + 1) := List.drop_eq_getElem_cons hj
    unfold rowsR
    rw [List.getElem?_map, List.getElem?_range hj, List.getElem?_eq_getElem hj]
    show some (rowRd (restR j _)) = _
    rw [restR_of h u j (by omega), e, List.flatMap_cons, List.append_assoc, (rowRd_of (h _ (List.getElem_mem hj)) _).1]
  · rw [List.getElem?_eq_none (by rw [rowsR_len]; omega), List.getElem?_eq_none (by omega)]
/-- If these bytes are a statement's, this is it. -/
theorem reads_say {l : List UInt8} {p s : Int} {L : List R} (h : Valid p s L) (e : putR p s L = l) :
    wrap64 (rdV l) = p ∧ wrap64 (rdV (rdR l)) = s ∧ rdV (rdR (rdR l)) = L.length ∧ rowsR L.length (rdR (rdR (rdR l))) = L := by
  obtain ⟨h1, h2, h3⟩ := h.small
  subst e
  unfold putR headL
  simp only [List.append_assoc]
  obtain ⟨_, v1, r1⟩ := rd_sev h1 (sev s.toNat ++ (sev L.length ++ L.flatMap rowL))
  obtain ⟨_, v2, r2⟩ := rd_sev h2 (sev L.length ++ L.flatMap rowL)
  obtain ⟨_, v3, r3⟩ := rd_sev h3 (L.flatMap rowL)
  rw [v1, r1, v2, r2, v3, r3, wrap_nat h.good.p0 (by have := h.good.p2; omega), wrap_nat (by have := h.s0; omega) (by have := h.s1; omega)]
  have := rowsR_of h.good.each []
  rw [List.append_nil] at this
  exact ⟨rfl, rfl, rfl, this⟩
theorem none_many {l : List UInt8} (h : 400 < rdV (rdR (rdR l))) : ∀ p s L, Valid p s L → putR p s L ≠ l := fun p s L g e => by
  have := (reads_say g e).2.2.1
  have := g.good.len
  omega
theorem none_read {l : List UInt8} {p s : Int} {n : Nat} {L : List R} (e1 : wrap64 (rdV l) = p) (e2 : wrap64 (rdV (rdR l)) = s) (e3 : rdV (rdR (rdR l)) = n) (e4 : rowsR n (rdR (rdR (rdR l))) = L) (h : ¬ (Valid p s L ∧ putR p s L = l)) : ∀ p s L, Valid p s L → putR p s L ≠ l := fun p' s' M g e => by
  obtain ⟨f1, f2, f3, f4⟩ := reads_say g e
  rw [e1] at f1
  rw [e2] at f2
  rw [e3] at f3
  subst f1 f2 f3
  rw [e4] at f4
  subst f4
  exact h ⟨g, e⟩
end Rw
end Go.Proofs.YtomonhghioamfaaDoor
