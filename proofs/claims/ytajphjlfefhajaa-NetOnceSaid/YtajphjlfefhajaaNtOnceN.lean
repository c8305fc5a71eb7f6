
/- Rows of numbers that a law makes. -/
import Derived.Test.YtajphjlfefhajaaNtOnceM
import Derived.Test.YtajphjlfefhajaaNtMail
import Derived.Deep.OwnRows
import Derived.Lib.LazyBuf
set_option linter.unusedVariables false
namespace Go.Proofs.Ytajphjlfefhajaa
open Go.ChangeShapes Go.WideShapes Go.ChangeAt Go.RowKit Csv Ky
namespace Nt
def numObj (l : List Int) : Obj := .cells (l.map fun i => Value.int .i64 i).toArray 3
theorem info_int : (Try.prog.info? 3).map (fun i => (i.zero, i.size, i.bytes)) = some (some (.int .i64 0), 1, 8) := by kernel_rfl
theorem make_nums (n : Nat) (hn : n ≤ 100000) : ∀ w : World, (Instr.makeSlice 50 (.int .i64 (n : Int)) (.int .i64 (n : Int))).run Try.prog w = .ok (.slice (some ⟨w.heap.size, 0, none⟩) n n) (w.alloc (numObj (List.replicate n 0))) := fun w => by
  have e : (madeCells #[Value.int .i64 0] n) = ((List.replicate n (0 : Int)).map fun i => Value.int .i64 i).toArray := by
    rw [← Array.toArray_toList (xs := madeCells #[Value.int .i64 0] n), toList_madeCells_one, List.map_replicate]
  have h := run_make_row' (P := Try.prog) 50 3 (.int .i64 0) 8 Try.underlying50 info_int rfl .i64 .i64 n (by omega) (by omega) w
  rw [e] at h
  exact h
theorem num_cell {W : World} {g i : Nat} {l : List Int} (h : W.heap[g]? = some (numObj l)) (hi : i < l.length) : W.cell? ⟨g, i, none⟩ = some (.int .i64 (l.getD i 0)) ∧ W.frozen? ⟨g, i, none⟩ = false := by
  refine ⟨?_, Joins.unfrozen_of_block h i⟩
  have := Joins.cell_of_block h i
  rw [this]
  simp [List.getD_eq_getElem?_getD, hi]
theorem num_set {W : World} {g i : Nat} {l : List Int} (h : W.heap[g]? = some (numObj l)) (v : Int) : (W.setCell ⟨g, i, none⟩ (.int .i64 v)).heap[g]? = some (numObj (l.set i v)) := by
  rw [Joins.block_setCell (i := i) h (.int .i64 v)]
  unfold numObj
  congr 2
  simp [List.map_set]
theorem num_off {W : World} {g g' i : Nat} {l : List Int} (h : W.heap[g]? = some (numObj l)) (v : Value) (hn : g ≠ g') : (W.setCell ⟨g', i, none⟩ v).heap[g]? = some (numObj l) :=
  ((Only.cell (X := W) (j := g') (o := i) v).same g (box_lt h) hn).trans h
end Nt
end Go.Proofs.Ytajphjlfefhajaa
