
/- Rows left out, twice, turned; how much an order can come to: the mathematics of RowsFew. -/
import Derived.Test.YtomonhghioamfaaDoorRwMath
set_option linter.unusedVariables false
namespace Go.Proofs.YtomonhghioamfaaDoor
open Bit Ky Go.RowKit
namespace Rw

/-- The first k rows whose bit is nought. -/
def keepB (out i : Nat) : Bool := out >>> (i % 16) % 2 == 0
def fewL (out : Nat) (L : List R) : Nat → List R
  | 0 => []
  | k + 1 => if keepB out k = true then fewL out L k ++ (L[k]?).toList else fewL out L k
theorem few_sub (out : Nat) (L : List R) : ∀ k, (fewL out L k).Sublist (L.take k)
  | 0 => by simp [fewL]
  | k + 1 => by
    have ih := few_sub out L k
    rw [fewL, List.take_add_one]
    split
    · exact ih.append (List.Sublist.refl _)
    · exact ih.trans (List.sublist_append_left _ _)
theorem few_yes {out : Nat} {L : List R} {k : Nat} {x : R} (hx : L[k]? = some x) (h : keepB out k = true) : fewL out L (k + 1) = fewL out L k ++ [x] := by rw [fewL, if_pos h, hx]; rfl
theorem few_no {out : Nat} {L : List R} {k : Nat} (h : keepB out k = false) : fewL out L (k + 1) = fewL out L k := by rw [fewL, if_neg (by rw [h]; decide)]
theorem few_good {p : Int} {out : Nat} {L : List R} (h : Rw.Good p L) (k : Nat) : Rw.Good p (fewL out L k) := h.sub ((few_sub out L k).trans (List.take_sublist k L))
/-- A row that comes twice. -/
theorem twice_bad {p : Int} {L : List R} {i : Nat} (h : i < L.length) : goodB p (L.take (i + 1) ++ L.drop i) = false := by
  have hx : L[i]? = some L[i] := List.getElem?_eq_getElem h
  have h1 : (L.take (i + 1) ++ L.drop i)[i]? = some L[i] := by
    rw [List.getElem?_append_left (by rw [List.length_take]; omega), List.getElem?_take, if_pos (by omega), hx]
  have h2 : (L.take (i + 1) ++ L.drop i)[i + 1]? = some L[i] := by
    rw [List.getElem?_append_right (by rw [List.length_take]; omega), List.getElem?_drop, List.length_take, show i + (i + 1 - min (i + 1) L.length) = i from by omega, hx]
  exact bad_turn h1 h2 (by omega) (less_irrefl _)
/-- Two that change places. -/
theorem turned_bad {p : Int} {L : List R} {i : Nat} {x y : R} (g : Rw.Good p L) (hi : 0 < i) (hx : L[i - 1]? = some x) (hy : L[i]? = some y) : goodB p ((L.set i x).set (i - 1) y) = false := by
  obtain ⟨h1, e1⟩ := List.getElem?_eq_some_iff.1 hx
  obtain ⟨h2, e2⟩ := List.getElem?_eq_some_iff.1 hy
  have hl : less x y = true := by
    have := List.pairwise_iff_getElem.1 g.rise (i - 1) i h1 h2 (by omega)
    rwa [e1, e2] at this
  have a1 : ((L.set i x).set (i - 1) y)[i - 1]? = some y := by rw [List.getElem?_set_self (by rw [List.length_set]; exact h1)]
  have a2 : ((L.set i x).set (i - 1) y)[i]? = some x := by
    rw [List.getElem?_set_ne (by omega), List.getElem?_set_self h2]
  exact bad_turn a1 a2 (by omega) (less_asymm hl)

/-! ### How much an order can come to -/
def pick (o d : Int) (L : List R) : List R := L.filter fun x => decide (x.o = o ∧ x.d = d)
def sumA (L : List R) : Int := L.foldl (fun n x => n + x.a) 0
theorem sumA_cons (x : R) (L : List R) : sumA (x :: L) = x.a + sumA L := by
  suffices H : ∀ (L : List R) (n : Int), L.foldl (fun n x => n + x.a) n = n + sumA L from by
    show L.foldl (fun n x => n + x.a) (0 + x.a) = _
    rw [H]; omega
  intro L
  induction L with
  | nil => intro n; simp [sumA]
  | cons y r ih =>
    intro n
    show r.foldl (fun n x => n + x.a) (n + y.a) = n + r.foldl (fun n x => n + x.a) (0 + y.a)
    rw [ih, ih (0 + y.a)]; omega
theorem net_pick (o : Int) (L : List R) (h : ∀ x ∈ L, Row1 0 x) : netN o L = sumA (pick o 1 L) - sumA (pick o 4 L) := by
  suffices H : ∀ (L : List R) (n : Int), (∀ x ∈ L, Row1 0 x) → L.foldl (netStep o) n = n + sumA (pick o 1 L) - sumA (pick o 4 L) from by
    have := H L 0 h
    unfold netN
    omega
  intro L
  induction L with
  | nil => intro n _; simp [pick, sumA]
  | cons x r ih =>
    intro n h
    have hx := h x (by simp)
    have hd : x.d = 1 ∨ x.d = 4 := by
      have h0 := hx.key.d0
      have h6 := hx.key.d1
      have hp := hx.party
      rcases six h0 h6 with e | e | e | e | e | e <;> rw [e] at hp <;> first | exact absurd hp (by decide) | (rw [e]; decide)
    have ih' := ih (netStep o n x) fun y hy => h y (by simp [hy])
    rw [List.foldl_cons, ih']
    unfold netStep pick
    by_cases ho : x.o = o
    · rcases hd with hd | hd
      · have e1 : decide (x.o = o ∧ x.d = 1) = true := decide_eq_true ⟨ho, hd⟩
        have e4 : decide (x.o = o ∧ x.d = 4) = false := decide_eq_false (by omega)
        rw [List.filter_cons, List.filter_cons, e1, e4, if_pos ho, if_pos hd, if_pos rfl, if_neg (by decide), sumA_cons]
        omega
      · have e1 : decide (x.o = o ∧ x.d = 1) = false := decide_eq_false (by omega)
        have e4 : decide (x.o = o ∧ x.d = 4) = true := decide_eq_true ⟨ho, hd⟩
        rw [List.filter_cons, List.filter_cons, e1, e4, if_pos ho, if_neg (by omega), if_pos rfl, if_neg (by decide), sumA_cons]
        omega
    · have e1 : decide (x.o = o ∧ x.d = 1) = false := decide_eq_false (by omega)
      have e4 : decide (x.o = o ∧ x.d = 4) = false := decide_eq_false (by omega)
      rw [List.filter_cons, List.filter_cons, e1, e4, if_neg ho, if_neg (by decide), if_neg (by decide)]
theorem pick_one (o d : Int) {L : List R} (h : L.Pairwise fun x y => less x y = true) : pick o d L = [] ∨ ∃ x ∈ L, pick o d L = [x] := by
  have hp : (pick o d L).Pairwise fun x y => less x y = true := h.sublist List.filter_sublist
  have hk : ∀ x ∈ pick o d L, x.o = o ∧ x.d = d := fun x hx => by
    have := (List.mem_filter.1 hx).2
    simpa using this
  have hm : ∀ x ∈ pick o d L, x ∈ L := fun x hx => (List.mem_filter.1 hx).1
  match hq : pick o d L, hp, hk, hm with
  | [], _, _, _ => exact Or.inl rfl
  | [x], _, _, hm => exact Or.inr ⟨x, hm x (by simp), rfl⟩
  | x :: y :: r, hp, hk, _ =>
    have h1 := hk x (by simp)
    have h2 := hk y (by simp)
    have h3 := (List.pairwise_cons.1 hp).1 y (by simp)
    rw [less_iff] at h3
    omega
theorem pick_sum (o d : Int) {L : List R} (h : Rw.Good 0 L) : 0 ≤ sumA (pick o d L) ∧ sumA (pick o d L) ≤ 1099511627776 := by
  rcases pick_one o d h.rise with e | ⟨x, hx, e⟩
  · rw [e]; simp [sumA]
  · have hr := h.each x hx
    have := hr.a0
    have := hr.a1
    have e2 : sumA (pick o d L) = x.a := by rw [e, sumA_cons]; simp [sumA]
    omega
theorem net_reach (o : Int) (L : List R) : -1099511627776 ≤ netR o L ∧ netR o L ≤ 1099511627776 := by
  unfold netR
  split
  · rename_i hg
    have g := good_iff.1 hg
    rw [net_pick o L g.each]
    have h1 := pick_sum o 1 g
    have h2 := pick_sum o 4 g
    omega
  · omega
/-- Of another party's rows nothing was charged. -/
theorem net_other {p o : Int} {L : List R} (g : Rw.Good p L) (hp : p ≠ 0) : netR o L = 0 := by
  unfold netR
  split
  · rename_i hg
    have g0 := good_iff.1 hg
    cases L with
    | nil => rfl
    | cons x r =>
      have h1 := (g.each x (by simp)).party
      have h2 := (g0.each x (by simp)).party
      omega
  · rfl
end Rw
end Go.Proofs.YtomonhghioamfaaDoor
