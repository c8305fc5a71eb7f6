
/- The document's files of the warehouse: a row. -/
import Derived.Test.YtnkcbefamajghaaDoorSkRefC
import Derived.Test.YtnkcbefamajghaaDoorRwRefC
import Derived.Test.YtnkcbefamajghaaDoorRowsLaid
import Derived.StillTailTactics
import Derived.Deep.DeepCutAuto
set_option linter.unusedVariables false
namespace Go.Proofs.YtnkcbefamajghaaDoor
open Go.ChangeShapes Go.WideShapes Go.ChangeAt Go.RowKit Ky Rw Csv Stk

/-- What 'middle' leaves. -/
def MidOut (F : List (List UInt8)) (A : List R) (w : World) (e : Ending) (w' : World) : Prop :=
  ∃ r : R, e = .returned (.tuple #[rwV r, .int .i64 ((rowC F A).1 : Int), .int .i64 (rowC F A).2]) ∧ ((rowC F A).1 = 0 → r = rowR F) ∧ Keeps w w'
theorem mid_no {F : List (List UInt8)} {A : List R} {w w' : World} {c : Nat} {d : Int} (h : rowC F A = (c, d)) (hc : c ≠ 0) (r : R) (k : Keeps w w') {e : Ending} (he : e = .returned (.tuple #[rwV r, .int .i64 (c : Int), .int .i64 d])) : MidOut F A w e w' :=
  ⟨r, by rw [he, h], fun h0 => by rw [h] at h0; exact absurd h0 hc, k⟩
abbrev skRow (a b c d e : Int) : Obj := .cells #[.int .i64 a, .int .i64 b, .int .i64 c, .int .i64 d, .int .i64 e] tRw
theorem skFive_set {W : World} {n : Nat} {t : TypeId} {x0 x1 x2 x3 x4 : Value} (h : W.heap[n]? = some (.cells #[x0, x1, x2, x3, x4] t (0, 0))) (a0 a1 a2 a3 a4 : Value) :
    (((((W.setCell ⟨n, 0, none⟩ a0).setCell ⟨n, 1, none⟩ a1).setCell ⟨n, 2, none⟩ a2).setCell ⟨n, 3, none⟩ a3).setCell ⟨n, 4, none⟩ a4).heap[n]? = some (.cells #[a0, a1, a2, a3, a4] t (0, 0)) :=
  Joins.block_setCell (i := 4) (Joins.block_setCell (i := 3) (Joins.block_setCell (i := 2) (Joins.block_setCell (i := 1) (Joins.block_setCell (i := 0) h a0) a1) a2) a3) a4
theorem skFive_keeps {w W : World} {n : Nat} (h : Keeps w W) (hn : w.heap.size ≤ n) (a0 a1 a2 a3 a4 : Value) :
    Keeps w (((((W.setCell ⟨n, 0, none⟩ a0).setCell ⟨n, 1, none⟩ a1).setCell ⟨n, 2, none⟩ a2).setCell ⟨n, 3, none⟩ a3).setCell ⟨n, 4, none⟩ a4) :=
  ((((h.setCell (p := ⟨n, 0, none⟩) hn a0).setCell (p := ⟨n, 1, none⟩) hn a1).setCell (p := ⟨n, 2, none⟩) hn a2).setCell (p := ⟨n, 3, none⟩) hn a3).setCell (p := ⟨n, 4, none⟩) hn a4
theorem skFive_at {W : World} {n : Nat} {t : TypeId} {x0 x1 x2 x3 x4 : Value} (h : W.heap[n]? = some (.cells #[x0, x1, x2, x3, x4] t (0, 0))) :
    (W.cell? ⟨n, 0, none⟩ = some x0 ∧ W.cell? ⟨n, 1, none⟩ = some x1 ∧ W.cell? ⟨n, 2, none⟩ = some x2 ∧ W.cell? ⟨n, 3, none⟩ = some x3 ∧ W.cell? ⟨n, 4, none⟩ = some x4) ∧
    (W.frozen? ⟨n, 0, none⟩ = false ∧ W.frozen? ⟨n, 1, none⟩ = false ∧ W.frozen? ⟨n, 2, none⟩ = false ∧ W.frozen? ⟨n, 3, none⟩ = false ∧ W.frozen? ⟨n, 4, none⟩ = false) :=
  ⟨⟨Joins.cell_of_block h 0, Joins.cell_of_block h 1, Joins.cell_of_block h 2, Joins.cell_of_block h 3, Joins.cell_of_block h 4⟩,
   ⟨Joins.unfrozen_of_block h 0, Joins.unfrozen_of_block h 1, Joins.unfrozen_of_block h 2, Joins.unfrozen_of_block h 3, Joins.unfrozen_of_block h 4⟩⟩
theorem skFive_far {W : World} {n m : Nat} (h : m ≠ n) (a0 a1 a2 a3 a4 : Value) : (((((W.setCell ⟨n, 0, none⟩ a0).setCell ⟨n, 1, none⟩ a1).setCell ⟨n, 2, none⟩ a2).setCell ⟨n, 3, none⟩ a3).setCell ⟨n, 4, none⟩ a4).heap[m]? = W.heap[m]? := by
  rw [Below.heap_setCell _ ⟨n, 4, none⟩ _ _ h, Below.heap_setCell _ ⟨n, 3, none⟩ _ _ h, Below.heap_setCell _ ⟨n, 2, none⟩ _ _ h, Below.heap_setCell _ ⟨n, 1, none⟩ _ _ h, Below.heap_setCell _ ⟨n, 0, none⟩ _ _ h]
abbrev mW (w : World) : World := (w.alloc (skRow 0 0 0 0 0)).alloc (skRow 0 0 0 0 0)
theorem mW_two (w : World) : ∀ W, Keeps (mW w) W → W.heap[w.heap.size]? = some (.cells #[.int .i64 0, .int .i64 0, .int .i64 0, .int .i64 0, .int .i64 0] tRw (0, 0)) ∧ W.heap[w.heap.size + 1]? = some (.cells #[.int .i64 0, .int .i64 0, .int .i64 0, .int .i64 0, .int .i64 0] tRw (0, 0)) := fun W k => by
  have s1 : (w.alloc (skRow 0 0 0 0 0)).heap.size = w.heap.size + 1 := by simp
  have n0 := heap_alloc_new w (skRow 0 0 0 0 0)
  have n1 := heap_alloc_new (w.alloc (skRow 0 0 0 0 0)) (skRow 0 0 0 0 0)
  rw [s1] at n1
  exact ⟨(k.block _ (by simp [mW]; omega)).trans (((kept_alloc (Keeps.refl _) (skRow 0 0 0 0 0)).block _ (by simp)).trans n0), (k.block _ (by simp [mW])).trans n1⟩
end Go.Proofs.YtnkcbefamajghaaDoor
