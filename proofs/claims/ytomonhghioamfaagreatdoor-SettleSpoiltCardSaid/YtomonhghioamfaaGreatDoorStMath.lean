
/- The plain mathematics of the payment's files (layer 13): what a file is, what is told of a text. -/
import Derived.Test.YtomonhghioamfaaGreatDoorRwMath
import Derived.Test.YtomonhghioamfaaGreatDoorFixedMath
import Derived.Test.YtomonhghioamfaaGreatDoorMoneyMath
set_option linter.unusedVariables false
namespace Go.Proofs.YtomonhghioamfaaGreatDoor
open Go Ky Rw
namespace Stl

abbrev Bt := List UInt8
def wH : List Int := [1, 8, 10]
def wD : List Int := [1, 4, 8, 1, 14]
def wT : List Int := [1, 6, 16]
def sPay : Bt := [80, 65, 89, 77, 69, 78, 84]
def letter (c : Int) : Bt := if c = 2 then [82] else [68]
def headF (s : Int) : Bt := Fix.pr wH [[72], sPay, Mon.pad s 10] ++ [10]
def rowF (x : R) : Bt := Fix.pr wD [[68], Mon.pad x.o 4, wordB x.d, letter x.c, Mon.pad x.a 14] ++ [10]
def totA (L : List R) : Int := (L.map R.a).sum
def trailF (L : List R) : Bt := Fix.pr wT [[84], Mon.pad (L.length : Int) 6, Mon.pad (totA L) 16] ++ [10]
def fileL (s : Int) (L : List R) : Bt := headF s ++ L.flatMap rowF ++ trailF L
def prt (p s : Int) (L : List R) : Bt := if p = 0 ∧ validB p s L = true then fileL s L else []
def prtC (p s : Int) (L : List R) : Int := if p = 0 ∧ validB p s L = true then 0 else 2

/-- What number a field says, padded; -1: none. -/
def numI (f : Bt) (w : Int) : Int := if Mon.unpadB f = true ∧ Mon.pad (Mon.unpadV f) w = f then Mon.unpadV f else -1
/-- The first line with its byte 10, and what is behind it. -/
def lineH : Bt → Bt
  | [] => []
  | c :: r => if c = 10 then [10] else c :: lineH r
def lineT : Bt → Bt
  | [] => []
  | c :: r => if c = 10 then r else lineT r
theorem line_cat : ∀ l : Bt, lineH l ++ lineT l = l
  | [] => rfl
  | c :: r => by
    unfold lineH lineT
    by_cases h : c = 10
    · rw [if_pos h, if_pos h, h]; rfl
    · rw [if_neg h, if_neg h, List.cons_append, line_cat r]
theorem lineH_pos : ∀ {l : Bt}, l ≠ [] → 1 ≤ (lineH l).length
  | [], h => absurd rfl h
  | c :: r, _ => by
    unfold lineH
    split <;> simp
theorem lineT_lt {l : Bt} (h : l ≠ []) : (lineT l).length < l.length := by
  have := congrArg List.length (line_cat l)
  rw [List.length_append] at this
  have := lineH_pos h
  omega
def linesF : Nat → Bt → List Bt
  | 0, _ => []
  | n + 1, l => match l with
    | [] => []
    | c :: r => lineH (c :: r) :: linesF n (lineT (c :: r))
def linesL (l : Bt) : List Bt := linesF l.length l
theorem linesF_nil (n : Nat) : linesF n [] = [] := by cases n <;> rfl
theorem linesF_more : ∀ (n m : Nat) (l : Bt), l.length ≤ n → l.length ≤ m → linesF n l = linesF m l
  | n, m, [], _, _ => by rw [linesF_nil, linesF_nil]
  | 0, _, _ :: _, h, _ => by simp at h
  | _, 0, _ :: _, _, h => by simp at h
  | n + 1, m + 1, c :: r, hn, hm => by
    have := lineT_lt (l := c :: r) (by simp)
    simp only [List.length_cons] at hn hm this
    unfold linesF
    simp only
    rw [linesF_more n m (lineT (c :: r)) (by omega) (by omega)]
theorem linesL_cons {l : Bt} (h : l ≠ []) : linesL l = lineH l :: linesL (lineT l) := by
  cases l with
  | nil => exact absurd rfl h
  | cons c r =>
    have := lineT_lt (l := c :: r) (by simp)
    simp only [List.length_cons] at this
    show linesF (r.length + 1) (c :: r) = _
    unfold linesF
    simp only
    rw [linesL, linesF_more r.length (lineT (c :: r)).length _ (by omega) (Nat.le_refl _)]
theorem linesL_nil : linesL [] = [] := rfl
theorem lines_flat : ∀ (n : Nat) (l : Bt), l.length ≤ n → (linesL l).flatten = l
  | n, [], _ => rfl
  | 0, _ :: _, h => by simp at h
  | n + 1, c :: r, h => by
    have := lineT_lt (l := c :: r) (by simp)
    simp only [List.length_cons] at this h
    rw [linesL_cons (by simp), List.flatten_cons, lines_flat n _ (by omega), line_cat]
theorem lineH_whole {b r : Bt} (h : ∀ c ∈ b, c ≠ 10) : lineH (b ++ 10 :: r) = b ++ [10] ∧ lineT (b ++ 10 :: r) = r := by
  induction b with
  | nil => exact ⟨by simp [lineH], by simp [lineT]⟩
  | cons c b ih =>
    obtain ⟨h1, h2⟩ := ih fun x hx => h x (by simp [hx])
    have hc : c ≠ 10 := h c (by simp)
    exact ⟨by rw [List.cons_append, lineH, if_neg hc, h1]; rfl, by rw [List.cons_append, lineT, if_neg hc, h2]⟩
theorem lineH_part {b : Bt} (h : ∀ c ∈ b, c ≠ 10) : lineH b = b ∧ lineT b = [] := by
  induction b with
  | nil => exact ⟨rfl, rfl⟩
  | cons c b ih =>
    obtain ⟨h1, h2⟩ := ih fun x hx => h x (by simp [hx])
    have hc : c ≠ 10 := h c (by simp)
    exact ⟨by rw [lineH, if_neg hc, h1], by rw [lineT, if_neg hc, h2]⟩
theorem lines_whole {b r : Bt} (h : ∀ c ∈ b, c ≠ 10) : linesL ((b ++ [10]) ++ r) = (b ++ [10]) :: linesL r := by
  rw [List.append_assoc]
  obtain ⟨h1, h2⟩ := lineH_whole (r := r) h
  have e : [10] ++ r = 10 :: r := rfl
  rw [e, linesL_cons (by simp), h1, h2]
theorem lines_part {b : Bt} (h : ∀ c ∈ b, c ≠ 10) (hb : b ≠ []) : linesL b = [b] := by
  obtain ⟨h1, h2⟩ := lineH_part h
  rw [linesL_cons hb, h1, h2, linesL_nil]
/-- A line's shape: it has one byte 10 at most, at its end. -/
theorem lineH_shape : ∀ (l : Bt), l ≠ [] → (∃ b : Bt, (∀ c ∈ b, c ≠ 10) ∧ lineH l = b ++ [10]) ∨ ((∀ c ∈ lineH l, c ≠ 10) ∧ lineH l ≠ [] ∧ lineT l = [])
  | [], h => absurd rfl h
  | c :: r, _ => by
    by_cases hc : c = 10
    · exact Or.inl ⟨[], by simp, by rw [lineH, if_pos hc]; rfl⟩
    · have e1 : lineH (c :: r) = c :: lineH r := by rw [lineH, if_neg hc]
      have e2 : lineT (c :: r) = lineT r := by rw [lineT, if_neg hc]
      rw [e1, e2]
      by_cases hr : r = []
      · subst hr
        exact Or.inr ⟨by simp [lineH, hc], by simp, rfl⟩
      · rcases lineH_shape r hr with ⟨b, h1, h2⟩ | ⟨h1, h2, h3⟩
        · refine Or.inl ⟨c :: b, ?_, by rw [h2]; rfl⟩
          intro x hx
          rcases List.mem_cons.1 hx with rfl | hx
          · exact hc
          · exact h1 x hx
        · refine Or.inr ⟨?_, by simp, h3⟩
          intro x hx
          rcases List.mem_cons.1 hx with rfl | hx
          · exact hc
          · exact h1 x hx

/-! ### What is told of a text -/
structure PS where
  n : Nat
  seq : Int
  rows : List R
  ended : Bool
/-- A reject: the line, the column, why. -/
abbrev Rej := Nat × Nat × Int
def wholeB (l : Bt) : Bool := l.getLast? == some 10
def bodyOf (l : Bt) : Bt := if wholeB l = true then l.dropLast else l
def kindOf (b : Bt) : UInt8 := b.headD 0
def widthsOf (k : UInt8) : List Int := if k = 68 then wD else if k = 84 then wT else wH
def fa (F : List Bt) (i : Nat) : Bt := (F[i]?).getD []
def headC (F : List Bt) : Nat × Int :=
  if fa F 1 ≠ sPay then (2, 7) else if numI (fa F 2) 10 < 1 ∨ 1073741824 < numI (fa F 2) 10 then (10, 3) else (0, 0)
def rowR (F : List Bt) : R := ⟨numI (fa F 1) 4, deedV (fa F 2), if fa F 3 = [82] then 2 else 1, numI (fa F 4) 14, 0⟩
def rowC (F : List Bt) (A : List R) : Nat × Int :=
  if 400 ≤ A.length then (1, 8)
  else if numI (fa F 1) 4 < 1 ∨ 60 < numI (fa F 1) 4 then (2, 3)
  else if deedB (fa F 2) = false ∨ (deedV (fa F 2) ≠ 1 ∧ deedV (fa F 2) ≠ 4) then (6, 3)
  else if fa F 3 ≠ [68] ∧ fa F 3 ≠ [82] then (14, 3)
  else if numI (fa F 4) 14 < 0 ∨ 1099511627776 < numI (fa F 4) 14 ∨ (fa F 3 = [82] ∧ 0 < numI (fa F 4) 14) then (15, 3)
  else if ∃ y, A.getLast? = some y ∧ less y (rowR F) = false then (2, 6) else (0, 0)
def trailC (F : List Bt) (A : List R) : Nat × Int :=
  if numI (fa F 1) 6 < 0 then (2, 3)
  else if numI (fa F 1) 6 ≠ (A.length : Int) then (2, 4)
  else if numI (fa F 2) 16 < 0 then (8, 3)
  else if numI (fa F 2) 16 ≠ totA A then (8, 5) else (0, 0)
def step (st : PS) (l : Bt) : Except Rej PS :=
  if st.ended = true ∨ (st.n = 0 ∧ kindOf (bodyOf l) ≠ 72) ∨ (0 < st.n ∧ kindOf (bodyOf l) ≠ 68 ∧ kindOf (bodyOf l) ≠ 84) then .error (st.n + 1, 1, 7)
  else if (Fix.pa (widthsOf (kindOf (bodyOf l))) (bodyOf l)).2 ≠ 0 then .error (st.n + 1, (Fix.pa (widthsOf (kindOf (bodyOf l))) (bodyOf l)).2, 1)
  else if wholeB l = false then .error (st.n + 1, (bodyOf l).length + 1, 1)
  else if kindOf (bodyOf l) = 72 then
    (if (headC (Fix.pa wH (bodyOf l)).1).1 ≠ 0 then .error (st.n + 1, headC (Fix.pa wH (bodyOf l)).1) else .ok ⟨st.n + 1, numI (fa (Fix.pa wH (bodyOf l)).1 2) 10, st.rows, false⟩)
  else if kindOf (bodyOf l) = 68 then
    (if (rowC (Fix.pa wD (bodyOf l)).1 st.rows).1 ≠ 0 then .error (st.n + 1, rowC (Fix.pa wD (bodyOf l)).1 st.rows) else .ok ⟨st.n + 1, st.seq, st.rows ++ [rowR (Fix.pa wD (bodyOf l)).1], false⟩)
  else
    (if (trailC (Fix.pa wT (bodyOf l)).1 st.rows).1 ≠ 0 then .error (st.n + 1, trailC (Fix.pa wT (bodyOf l)).1 st.rows) else .ok ⟨st.n + 1, st.seq, st.rows, true⟩)
def runL : PS → List Bt → Except Rej (Int × List R)
  | st, [] => if st.ended = true then .ok (st.seq, st.rows) else .error (st.n + 1, 1, 7)
  | st, l :: r => match step st l with
    | .error e => .error e
    | .ok st' => runL st' r
def st0 : PS := ⟨0, 0, [], false⟩
def parseM (t : Bt) : Except Rej (Int × List R) := if 65536 < t.length then .error (1, 1, 8) else runL st0 (linesL t)
end Stl
end Go.Proofs.YtomonhghioamfaaGreatDoor
