/- What parties are asked: the mathematics, and a message in memory. -/
import Derived.Test.YtonjkgonbfimjaaDoorOdGetR
import Derived.Test.YtonjkgonbfimjaaDoorKyC1
set_option linter.unusedVariables false
namespace Go.Proofs.YtonjkgonbfimjaaDoor
open Go.ChangeShapes Go.WideShapes Go.ChangeAt Go.RowKit Bit Ky Od

abbrev tMs : TypeId := 29
def msV (t o d : Int) (s : ByteArray) (q a c : Int) : Value := .agg #[.int .i64 t, .int .i64 o, .int .i64 d, .string s, .int .i64 q, .int .i64 a, .int .i64 c]
def msBox (t o d : Int) (s : ByteArray) (q a c : Int) : Obj := .cells #[.int .i64 t, .int .i64 o, .int .i64 d, .string s, .int .i64 q, .int .i64 a, .int .i64 c] tMs
/-- The message that asks for it. -/
def IsM (i : Int) (r s : ByteArray) (q a d : Int) (t o k : Int) (S : ByteArray) (Q A : Int) : Prop :=
  (checkO i r s q a = 0 ∧ 0 ≤ d ∧ d < 6 ∧ t = partyK d ∧ o = i ∧ k = d ∧ ((partyK d = 0 ∧ S = ⟨#[]⟩ ∧ Q = 0 ∧ A = a) ∨ (partyK d ≠ 0 ∧ S = s ∧ Q = q ∧ A = 0))) ∨
  (¬ (checkO i r s q a = 0 ∧ 0 ≤ d ∧ d < 6) ∧ t = 0 ∧ o = 0 ∧ k = 0 ∧ S = ⟨#[]⟩ ∧ Q = 0 ∧ A = 0)
theorem IsM.same {i q a d t o k Q A t' o' k' Q' A' : Int} {r s S S' : ByteArray} (h : IsM i r s q a d t o k S Q A) (h' : IsM i r s q a d t' o' k' S' Q' A') : t = t' ∧ o = o' ∧ k = k' ∧ S = S' ∧ Q = Q' ∧ A = A' := by
  rcases h with ⟨h1, h2, h3, rfl, rfl, rfl, h4⟩ | ⟨h1, rfl, rfl, rfl, rfl, rfl, rfl⟩ <;> rcases h' with ⟨g1, g2, g3, rfl, rfl, rfl, g4⟩ | ⟨g1, rfl, rfl, rfl, rfl, rfl, rfl⟩
  · rcases h4 with ⟨h4, rfl, rfl, rfl⟩ | ⟨h4, rfl, rfl, rfl⟩ <;> rcases g4 with ⟨g4, rfl, rfl, rfl⟩ | ⟨g4, rfl, rfl, rfl⟩
    · exact ⟨rfl, rfl, rfl, rfl, rfl, rfl⟩
    · exact absurd h4 g4
    · exact absurd g4 h4
    · exact ⟨rfl, rfl, rfl, rfl, rfl, rfl⟩
  · exact absurd ⟨h1, h2, h3⟩ g1
  · exact absurd ⟨g1, g2, g3⟩ h1
  · exact ⟨rfl, rfl, rfl, rfl, rfl, rfl⟩
def MsgOut (i : Int) (r s : ByteArray) (q a d : Int) (w : World) (e : Ending) (w' : World) : Prop := ∃ t o k S Q A, e = .returned (msV t o k S Q A 0) ∧ IsM i r s q a d t o k S Q A ∧ Keeps w w'
theorem party_lt {d : Int} : partyK d < 0 ↔ ¬ (0 ≤ d ∧ d < 6) := by
  unfold partyK
  split
  · rename_i h
    split
    · simp [h.1, h.2]
    · split <;> simp [h.1, h.2]
  · rename_i h
    simp [h]
theorem seven_set {W : World} {n : Nat} {x0 x1 x2 x3 x4 x5 x6 : Value} (h : W.heap[n]? = some (.cells #[x0, x1, x2, x3, x4, x5, x6] tMs (0, 0))) (a0 a1 a2 a3 a4 a5 a6 : Value) :
    (((((((W.setCell ⟨n, 0, none⟩ a0).setCell ⟨n, 1, none⟩ a1).setCell ⟨n, 2, none⟩ a2).setCell ⟨n, 3, none⟩ a3).setCell ⟨n, 4, none⟩ a4).setCell ⟨n, 5, none⟩ a5).setCell ⟨n, 6, none⟩ a6).heap[n]? = some (.cells #[a0, a1, a2, a3, a4, a5, a6] tMs (0, 0)) := by
  have h0 : (W.setCell ⟨n, 0, none⟩ a0).heap[n]? = some (.cells #[a0, x1, x2, x3, x4, x5, x6] tMs (0, 0)) := Joins.block_setCell (i := 0) h a0
  have h1 : ((W.setCell ⟨n, 0, none⟩ a0).setCell ⟨n, 1, none⟩ a1).heap[n]? = some (.cells #[a0, a1, x2, x3, x4, x5, x6] tMs (0, 0)) := Joins.block_setCell (i := 1) h0 a1
  have h2 : (((W.setCell ⟨n, 0, none⟩ a0).setCell ⟨n, 1, none⟩ a1).setCell ⟨n, 2, none⟩ a2).heap[n]? = some (.cells #[a0, a1, a2, x3, x4, x5, x6] tMs (0, 0)) := Joins.block_setCell (i := 2) h1 a2
  have h3 : ((((W.setCell ⟨n, 0, none⟩ a0).setCell ⟨n, 1, none⟩ a1).setCell ⟨n, 2, none⟩ a2).setCell ⟨n, 3, none⟩ a3).heap[n]? = some (.cells #[a0, a1, a2, a3, x4, x5, x6] tMs (0, 0)) := Joins.block_setCell (i := 3) h2 a3
  have h4 : (((((W.setCell ⟨n, 0, none⟩ a0).setCell ⟨n, 1, none⟩ a1).setCell ⟨n, 2, none⟩ a2).setCell ⟨n, 3, none⟩ a3).setCell ⟨n, 4, none⟩ a4).heap[n]? = some (.cells #[a0, a1, a2, a3, a4, x5, x6] tMs (0, 0)) := Joins.block_setCell (i := 4) h3 a4
  have h5 : ((((((W.setCell ⟨n, 0, none⟩ a0).setCell ⟨n, 1, none⟩ a1).setCell ⟨n, 2, none⟩ a2).setCell ⟨n, 3, none⟩ a3).setCell ⟨n, 4, none⟩ a4).setCell ⟨n, 5, none⟩ a5).heap[n]? = some (.cells #[a0, a1, a2, a3, a4, a5, x6] tMs (0, 0)) := Joins.block_setCell (i := 5) h4 a5
  have h6 : (((((((W.setCell ⟨n, 0, none⟩ a0).setCell ⟨n, 1, none⟩ a1).setCell ⟨n, 2, none⟩ a2).setCell ⟨n, 3, none⟩ a3).setCell ⟨n, 4, none⟩ a4).setCell ⟨n, 5, none⟩ a5).setCell ⟨n, 6, none⟩ a6).heap[n]? = some (.cells #[a0, a1, a2, a3, a4, a5, a6] tMs (0, 0)) := Joins.block_setCell (i := 6) h5 a6
  exact h6
theorem seven_keeps {w W : World} {n : Nat} (h : Keeps w W) (hn : w.heap.size ≤ n) (a0 a1 a2 a3 a4 a5 a6 : Value) :
    Keeps w (((((((W.setCell ⟨n, 0, none⟩ a0).setCell ⟨n, 1, none⟩ a1).setCell ⟨n, 2, none⟩ a2).setCell ⟨n, 3, none⟩ a3).setCell ⟨n, 4, none⟩ a4).setCell ⟨n, 5, none⟩ a5).setCell ⟨n, 6, none⟩ a6) :=
  ((((((h.setCell (p := ⟨n, 0, none⟩) hn a0).setCell (p := ⟨n, 1, none⟩) hn a1).setCell (p := ⟨n, 2, none⟩) hn a2).setCell (p := ⟨n, 3, none⟩) hn a3).setCell (p := ⟨n, 4, none⟩) hn a4).setCell (p := ⟨n, 5, none⟩) hn a5).setCell (p := ⟨n, 6, none⟩) hn a6
theorem seven_at {W : World} {n : Nat} {x0 x1 x2 x3 x4 x5 x6 : Value} (h : W.heap[n]? = some (.cells #[x0, x1, x2, x3, x4, x5, x6] tMs (0, 0))) :
    (W.cell? ⟨n, 0, none⟩ = some x0 ∧ W.cell? ⟨n, 1, none⟩ = some x1 ∧ W.cell? ⟨n, 2, none⟩ = some x2 ∧ W.cell? ⟨n, 3, none⟩ = some x3 ∧ W.cell? ⟨n, 4, none⟩ = some x4 ∧ W.cell? ⟨n, 5, none⟩ = some x5 ∧ W.cell? ⟨n, 6, none⟩ = some x6) ∧
    (W.frozen? ⟨n, 0, none⟩ = false ∧ W.frozen? ⟨n, 1, none⟩ = false ∧ W.frozen? ⟨n, 2, none⟩ = false ∧ W.frozen? ⟨n, 3, none⟩ = false ∧ W.frozen? ⟨n, 4, none⟩ = false ∧ W.frozen? ⟨n, 5, none⟩ = false ∧ W.frozen? ⟨n, 6, none⟩ = false) :=
  ⟨⟨Joins.cell_of_block h 0, Joins.cell_of_block h 1, Joins.cell_of_block h 2, Joins.cell_of_block h 3, Joins.cell_of_block h 4, Joins.cell_of_block h 5, Joins.cell_of_block h 6⟩,
   ⟨Joins.unfrozen_of_block h 0, Joins.unfrozen_of_block h 1, Joins.unfrozen_of_block h 2, Joins.unfrozen_of_block h 3, Joins.unfrozen_of_block h 4, Joins.unfrozen_of_block h 5, Joins.unfrozen_of_block h 6⟩⟩
theorem seven_below {B : Nat} {W : World} {n : Nat} (hn : B ≤ n) (a0 a1 a2 a3 a4 a5 a6 : Value) :
    Below B W (((((((W.setCell ⟨n, 0, none⟩ a0).setCell ⟨n, 1, none⟩ a1).setCell ⟨n, 2, none⟩ a2).setCell ⟨n, 3, none⟩ a3).setCell ⟨n, 4, none⟩ a4).setCell ⟨n, 5, none⟩ a5).setCell ⟨n, 6, none⟩ a6) :=
  (((((((Below.refl B W).setCell (p := ⟨n, 0, none⟩) hn a0).setCell (p := ⟨n, 1, none⟩) hn a1).setCell (p := ⟨n, 2, none⟩) hn a2).setCell (p := ⟨n, 3, none⟩) hn a3).setCell (p := ⟨n, 4, none⟩) hn a4).setCell (p := ⟨n, 5, none⟩) hn a5).setCell (p := ⟨n, 6, none⟩) hn a6
/-- A message in memory is written whole. -/
theorem seven_new {w W : World} {n : Nat} {i q a : Int} {r s : ByteArray} {x0 x1 x2 x3 x4 x5 x6 : Value} (h : Keeps w W) (hn : w.heap.size + 1 = n) (g : W.heap[w.heap.size]? = some (.cells #[.int .i64 i, .string r, .string s, .int .i64 q, .int .i64 a] tOd (0, 0))) (b : W.heap[n]? = some (.cells #[x0, x1, x2, x3, x4, x5, x6] tMs (0, 0))) (a0 a1 a2 a3 a4 a5 a6 : Value) :
    ∃ W', (((((((W.setCell ⟨n, 0, none⟩ a0).setCell ⟨n, 1, none⟩ a1).setCell ⟨n, 2, none⟩ a2).setCell ⟨n, 3, none⟩ a3).setCell ⟨n, 4, none⟩ a4).setCell ⟨n, 5, none⟩ a5).setCell ⟨n, 6, none⟩ a6) = W' ∧ Keeps w W' ∧ W'.heap[w.heap.size]? = some (.cells #[.int .i64 i, .string r, .string s, .int .i64 q, .int .i64 a] tOd (0, 0)) ∧ W'.heap[n]? = some (.cells #[a0, a1, a2, a3, a4, a5, a6] tMs (0, 0)) :=
  ⟨_, rfl, seven_keeps h (by omega) _ _ _ _ _ _ _, ((seven_below (B := w.heap.size + 1) (by omega) a0 a1 a2 a3 a4 a5 a6).block _ (by omega)).trans g, seven_set b _ _ _ _ _ _ _⟩
def msZ : Obj := msBox 0 0 0 ⟨#[]⟩ 0 0 0
end Go.Proofs.YtonjkgonbfimjaaDoor
