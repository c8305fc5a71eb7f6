
/- The document's files of the payment: lines. -/
import Derived.Test.YtomonhghioamfaaDoorStRefC
import Derived.Test.YtomonhghioamfaaDoorStructRow
set_option linter.unusedVariables false
namespace Go.Proofs.YtomonhghioamfaaDoor
open Go.ChangeShapes Go.WideShapes Go.ChangeAt Go.RowKit Ky Rw Csv Stl

def strK : RowK (List UInt8) where
  t := tS
  ts := tR
  sz := 1
  bytes := 16
  zero := .string ByteArray.empty
  cells := fun x => [sv x]
  under := Tryd.underlying89
  info := by kernel_rfl
  zsize := rfl
  pos := by omega
  small := by omega
  len := fun x => rfl
  one := fun x u hu => by
    simp only [List.mem_cons, List.not_mem_nil, or_false] at hu
    rw [hu]; rfl
theorem strK_row (L : List (List UInt8)) : strK.row L = svs L := by
  unfold RowK.row svs
  induction L with
  | nil => rfl
  | cons x r ih => rw [List.flatMap_cons, ih]; rfl
theorem strK_strs {B : Nat} {w : World} {v : Value} {L : List (List UInt8)} (h : strK.Own B w v L) : StrsAt w v L := by
  have h2 : w.ownsRow B tS 1 v L.length (svs L) := by rw [← strK_row]; exact h
  exact own_strs h2
theorem ssrc_one {w : World} {b : Nat} {x : List UInt8} (h : w.heap[b]? = some (.cells #[sv x] strK.t (0, 0))) : strK.Src w (.slice (some ⟨b, 0, none⟩) 1 1) [x] := by
  refine ⟨_, 1, rfl, (fun e => by cases e), fun a ha j u hu => ?_⟩
  cases ha
  rw [addr_of, Joins.cell_of_block h j]
  have e : strK.row [x] = [sv x] := rfl
  rw [e] at hu
  rw [← hu]
  simp
theorem mono_grown' {w W W' : World} {v : Value} (k : Keeps w W) (g : W.grownBy W' v.ownBlock) (h : ∀ j, v.ownBlock = some j → w.heap.size ≤ j) : Keeps w W' := Below.grown k g k.size h
/-- A line ends here. -/
theorem line_here {l : List UInt8} {f k : Nat} (hf : f ≤ k) (hn : ∀ c ∈ (l.drop f).take (k - f), c ≠ 10) (hk : l[k]? = some 10) : linesL (l.drop f) = (l.drop f).take (k + 1 - f) :: linesL (l.drop (k + 1)) := by
  have hlt := (List.getElem?_eq_some_iff.1 hk).1
  have e : l.drop f = ((l.drop f).take (k - f) ++ [10]) ++ l.drop (k + 1) := by
    have e1 : l.drop f = (l.drop f).take (k - f) ++ (l.drop f).drop (k - f) := (List.take_append_drop _ _).symm
    have e2 : (l.drop f).drop (k - f) = 10 :: l.drop (k + 1) := by
      rw [List.drop_drop, show f + (k - f) = k by omega, List.drop_eq_getElem_cons hlt]
      obtain ⟨h1, h2⟩ := List.getElem?_eq_some_iff.1 hk
      rw [h2]
    rw [e2] at e1
    rw [List.append_assoc]
    exact e1
  have e3 : (l.drop f).take (k + 1 - f) = (l.drop f).take (k - f) ++ [10] := by
    rw [show k + 1 - f = (k - f) + 1 by omega, List.take_add_one, List.getElem?_drop, show f + (k - f) = k by omega, hk]
    rfl
  rw [e3]
  conv => lhs; rw [e]
  exact lines_whole hn
theorem line_last {l : List UInt8} {f k : Nat} (hf : f ≤ k) (hn : ∀ c ∈ (l.drop f).take (k - f), c ≠ 10) {c : UInt8} (hk : l[k]? = some c) (hc : c ≠ 10) (hl : k + 1 = l.length) : linesL (l.drop f) = (l.drop f).take (k + 1 - f) :: linesL (l.drop (k + 1)) := by
  have e : (l.drop f).take (k + 1 - f) = l.drop f := List.take_of_length_le (by rw [List.length_drop]; omega)
  have e2 : (l.drop f).take (k + 1 - f) = (l.drop f).take (k - f) ++ [c] := by
    rw [show k + 1 - f = (k - f) + 1 by omega, List.take_add_one, List.getElem?_drop, show f + (k - f) = k by omega, hk]
    rfl
  have e3 : l.drop (k + 1) = [] := List.drop_of_length_le (by omega)
  rw [e, e3, linesL_nil]
  refine lines_part ?_ ?_
  · rw [← e, e2]
    intro x hx
    rcases List.mem_append.1 hx with hx | hx
    · exact hn x hx
    · rw [List.mem_singleton.1 hx]; exact hc
  · rw [← e, e2]
    simp
theorem line_on {l : List UInt8} {f k : Nat} (hf : f ≤ k) (hn : ∀ c ∈ (l.drop f).take (k - f), c ≠ 10) {c : UInt8} (hk : l[k]? = some c) (hc : c ≠ 10) : ∀ c ∈ (l.drop f).take (k + 1 - f), c ≠ 10 := by
  rw [show k + 1 - f = (k - f) + 1 by omega, List.take_add_one, List.getElem?_drop, show f + (k - f) = k by omega, hk]
  intro x hx
  rcases List.mem_append.1 hx with hx | hx
  · exact hn x hx
  · have : x = c := by simpa using hx
    rw [this]; exact hc
/-- The lines, as 'lines' hands them out. -/
def LinesOut (l : List UInt8) (w : World) (e : Ending) (w' : World) : Prop := ∃ (n : Nat) (p : Option Addr) (c : Nat), e = .returned (.slice p n c) ∧ (linesL l).length = n ∧ strK.Own w.heap.size w' (.slice p n c) (linesL l) ∧ Keeps w w'
end Go.Proofs.YtomonhghioamfaaDoor
