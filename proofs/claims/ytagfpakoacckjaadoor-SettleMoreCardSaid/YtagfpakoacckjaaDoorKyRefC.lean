
/- The document's keys: Check, Party, Undoes, Word, Deed, Less. -/
import Derived.Test.YtagfpakoacckjaaDoorMoneyRefC
import Derived.Test.YtagfpakoacckjaaDoorKyMath
import Derived.WalkKit
import Derived.LoopN
set_option linter.unusedVariables false
namespace Go.Proofs.YtagfpakoacckjaaDoor
open Go.ChangeShapes Go.WideShapes Go.ChangeAt Go.RowKit Mon Ky

abbrev tKy : TypeId := 39
def kyV (o d : Int) : Value := .agg #[.int .i64 o, .int .i64 d]
def wordS (d : Int) : ByteArray := ⟨(wordB d).toArray⟩
theorem ky_box (w : World) (o : Obj) : Keeps w (w.alloc o) := (Below.refl _ w).alloc (Nat.le_refl _) _
/-- A number is one of the deeds', or below, or above. -/
theorem ky_parts (d : Int) : d < 0 ∨ 5 < d ∨ d = 0 ∨ d = 1 ∨ d = 2 ∨ d = 3 ∨ d = 4 ∨ d = 5 := by omega
def wordsV : Value := .agg #[.string ⟨#[114, 101, 115, 101, 114, 118, 101]⟩, .string ⟨#[99, 104, 97, 114, 103, 101]⟩, .string ⟨#[115, 104, 105, 112]⟩, .string ⟨#[114, 101, 108, 101, 97, 115, 101]⟩, .string ⟨#[114, 101, 102, 117, 110, 100]⟩, .string ⟨#[118, 111, 105, 100]⟩]
/-- No deed below has the word. -/
def NoWord (s : ByteArray) (n : Int) : Prop := ∀ d, 0 ≤ d → d < n → wordB d ≠ s.data.toList
theorem NoWord.next {s : ByteArray} {n : Int} (h : NoWord s n) (hn : wordS n ≠ s) : NoWord s (n + 1) := fun d h0 h1 e => by
  by_cases hd : d = n
  · subst hd
    exact hn (bytes_inj (by unfold wordS; rw [← e]))
  · exact h d h0 (by omega) e
theorem bytes_eq {a b : ByteArray} (h : a ≠ b) : (a.toList == b.toList) = false := by
  rw [ByteArray.toList_eq, ByteArray.toList_eq, beq_eq_false_iff_ne]
  exact fun e => h (bytes_inj e)
end Go.Proofs.YtagfpakoacckjaaDoor
