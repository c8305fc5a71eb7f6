
/- Rows of texts in memory: as a call reads them, as a call builds them. -/
import Derived.Test.YtbemkcnikoiecaaArith
import Derived.Test.YtbemkcnikoiecaaCsvMath
import Derived.Laws.OwnMore
import Derived.Maps.AppendAt
import Derived.Deep.OwnRows
set_option linter.unusedVariables false
namespace Go.Proofs.Ytbemkcnikoiecaa
open Go.ChangeShapes Go.WideShapes Go.ChangeAt Go.RowKit Csv

abbrev tS : TypeId := 9
/-- A text, as a value; a row of texts. -/
abbrev sv (x : Bs) : Value := .string ⟨x.toArray⟩
def svs (r : List Bs) : List Value := r.map sv
theorem svs_len (r : List Bs) : (svs r).length = r.length := by simp [svs]
theorem svs_snoc (r : List Bs) (x : Bs) : svs r ++ [sv x] = svs (r ++ [x]) := by simp [svs]

/-- What is read of a row; of rows. -/
def StrsAt (w : World) (v : Value) (xs : List Bs) : Prop :=
  ∃ p c, v = .slice p xs.length c ∧ xs.length ≤ maxLen ∧ ∀ j x, xs[j]? = some x → ∃ a : Addr, p = some a ∧ w.cell? (a.add j) = some (sv x)
def RowsAt (w : World) (v : Value) (L : List (List Bs)) : Prop :=
  ∃ p c, v = .slice p L.length c ∧ L.length ≤ maxLen ∧ ∀ j r, L[j]? = some r → ∃ (a : Addr) (v' : Value), p = some a ∧ w.cell? (a.add j) = some v' ∧ StrsAt w v' r

theorem cell_keeps {w w' : World} (k : Keeps w w') {a : Addr} {v : Value} (h : w.cell? a = some v) : w'.cell? a = some v := by
  rw [k.cell (World.block_lt_of_cell? w a h)]; exact h
theorem StrsAt.keeps {w w' : World} {v : Value} {xs : List Bs} (h : StrsAt w v xs) (k : Keeps w w') : StrsAt w' v xs := by
  obtain ⟨p, c, h1, h2, h3⟩ := h
  refine ⟨p, c, h1, h2, fun j x hx => ?_⟩
  obtain ⟨a, ha, hc⟩ := h3 j x hx
  exact ⟨a, ha, cell_keeps k hc⟩
theorem RowsAt.keeps {w w' : World} {v : Value} {L : List (List Bs)} (h : RowsAt w v L) (k : Keeps w w') : RowsAt w' v L := by
  obtain ⟨p, c, h1, h2, h3⟩ := h
  refine ⟨p, c, h1, h2, fun j r hr => ?_⟩
  obtain ⟨a, v', ha, hc, hs⟩ := h3 j r hr
  exact ⟨a, v', ha, cell_keeps k hc, hs.keeps k⟩
theorem RowsAt.nil (w : World) : RowsAt w (.slice none 0 0) [] := ⟨none, 0, rfl, by simp [maxLen], fun j r h => by simp at h⟩
theorem StrsAt.nil (w : World) : StrsAt w (.slice none 0 0) [] := ⟨none, 0, rfl, by simp [maxLen], fun j r h => by simp at h⟩

theorem grown_of_keeps {w w' : World} (k : Keeps w w') : w.grownBy w' none := ⟨k.os, k.tape, k.output, k.size, fun i hi _ => k.block i hi⟩

theorem own_max {w : World} {B : Nat} {e : TypeId} {v : Value} {n : Nat} {xs : List Value} (h : w.ownsRow B e 1 v n xs) : n ≤ maxLen := by
  rcases h.2 with ⟨_, rfl⟩ | ⟨g, cap, cur, _, _, _, h1, h2, _⟩
  · simp
  · exact Nat.le_trans h1 h2
theorem own_strs {w : World} {B : Nat} {v : Value} {r : List Bs} (h : w.ownsRow B tS 1 v r.length (svs r)) : StrsAt w v r := by
  have hm := own_max h
  have hh := h
  rcases h.2 with ⟨rfl, h0⟩ | ⟨g, cap, cur, rfl, hb, hg, h1, h2, h3, h4⟩
  · have : r = [] := List.length_eq_zero_iff.1 h0
    subst this
    exact StrsAt.nil w
  · refine ⟨_, _, rfl, hm, fun j x hx => ⟨_, rfl, ?_⟩⟩
    exact hh.cells rfl j (sv x) (by simp [svs, hx])
/-- Rows of different types lie in different blocks. -/
theorem own_ne {w : World} {B B' : Nat} {v v' : Value} {n n' : Nat} {xs xs' : List Value} {e e' : TypeId} (h : w.ownsRow B e 1 v n xs) (h' : w.ownsRow B' e' 1 v' n' xs') (hne : e ≠ e') : v.ownBlock = none ∨ v.ownBlock ≠ v'.ownBlock := by
  rcases h.2 with ⟨rfl, _⟩ | ⟨g, cap, cur, rfl, hb, hg, _⟩
  · exact Or.inl rfl
  · right
    rcases h'.2 with ⟨rfl, _⟩ | ⟨g', cap', cur', rfl, hb', hg', _⟩
    · simp [Value.ownBlock]
    · simp only [Value.ownBlock, ne_eq, Option.some.injEq]
      rintro rfl
      rw [hg] at hg'
      simp only [Option.some.injEq, Obj.cells.injEq] at hg'
      exact hne hg'.2.1

end Go.Proofs.Ytbemkcnikoiecaa
