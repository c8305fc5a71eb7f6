
/- The document's keys: Put, Get. -/
import Derived.Test.YtbemkcnikoiecaaKyRefC
import Derived.Deep.RegionHeld3
import Derived.Deep.QuietTactic
import Derived.BigQuiet
import Derived.Lib.SmallJoins
set_option linter.unusedVariables false
namespace Go.Proofs.Ytbemkcnikoiecaa
open Go.ChangeShapes Go.WideShapes Go.ChangeAt Go.RowKit Mon Ky

def putS (o d : Int) : ByteArray := ⟨(putK o d).toArray⟩
theorem ky_drew (w : World) : Below w.heap.size w w.drew := ⟨rfl, rfl, rfl, Nat.le_refl _, fun _ _ => rfl⟩
theorem ky_cell {w w' : World} {a : Addr} {v : Value} (k : Keeps w w') (h : w.cell? a = some v) : w'.cell? a = some v := by
  have hlt := World.block_lt_of_cell? w a h
  have := k.block a.block hlt
  unfold World.cell? at h ⊢
  rw [this]; exact h
theorem word_size {d : Int} : (wordS d).size ≤ 7 := by
  by_cases h : 0 ≤ d ∧ d < 6
  · rcases six h.1 h.2 with rfl | rfl | rfl | rfl | rfl | rfl <;> decide
  · unfold wordS; rw [word_none h]; decide
theorem put_size {o : Int} (h : Chk o 0 ∨ 0 < o ∧ o < 61) : (put o).length ≤ 20 := by
  have ho : 0 < o ∧ o < 61 := by
    rcases h with h | h
    · exact ⟨h.o0, h.o1⟩
    · exact h
  unfold put
  rw [if_pos (by omega), decN_len]
  exact cnt_le20 (by unfold topN; omega)
/-- No key below has the text. -/
def NoKey (s : ByteArray) (n m : Int) : Prop := ∀ o d, Chk o d → (o < n ∨ (o = n ∧ d < m)) → putK o d ≠ s.data.toList
theorem NoKey.next {s : ByteArray} {n m : Int} (h : NoKey s n m) (hn : putS n m ≠ s) : NoKey s n (m + 1) := fun o d hc hr e => by
  by_cases he : o = n ∧ d = m
  · obtain ⟨rfl, rfl⟩ := he
    exact hn (bytes_inj (by unfold putS; rw [← e]))
  · exact h o d hc (by omega) e
theorem NoKey.row {s : ByteArray} {n : Int} (h : NoKey s n 6) : NoKey s (n + 1) 0 := fun o d hc hr e => h o d hc (by
  have := hc.d0
  have := hc.d1
  omega) e
def GetOut (s : List UInt8) (w : World) (e : Ending) (w' : World) : Prop := ∃ o d ok, e = .returned (.tuple #[kyV o d, .bool ok]) ∧ GetIs s o d ok ∧ Keeps w w'
theorem two_cells {W : World} {n : Nat} (h : W.heap[n]? = some (.cells #[.int .i64 0, .int .i64 0] tKy (0, 0))) (a b : Value) :
    ((W.setCell ⟨n, 0, none⟩ a).setCell ⟨n, 1, none⟩ b).cell? ⟨n, 0, none⟩ = some a ∧ ((W.setCell ⟨n, 0, none⟩ a).setCell ⟨n, 1, none⟩ b).cell? ⟨n, 1, none⟩ = some b := by
  have h2 := Joins.block_setCell (i := 1) (Joins.block_setCell (i := 0) h a) b
  exact ⟨Joins.cell_of_block h2 0, Joins.cell_of_block h2 1⟩
theorem two_keeps {w W : World} {n : Nat} (h : Keeps w W) (hn : w.heap.size ≤ n) (a b : Value) : Keeps w ((W.setCell ⟨n, 0, none⟩ a).setCell ⟨n, 1, none⟩ b) :=
  (h.setCell (p := ⟨n, 0, none⟩) hn a).setCell (p := ⟨n, 1, none⟩) hn b
end Go.Proofs.Ytbemkcnikoiecaa
