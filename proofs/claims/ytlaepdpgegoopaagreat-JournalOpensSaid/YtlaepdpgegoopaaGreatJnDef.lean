
/- The program's journal in memory, and what its calls lead to. -/
import Derived.Test.YtlaepdpgegoopaaGreatJnMath
import Derived.Test.YtlaepdpgegoopaaGreatDiskOwn
import Derived.Test.YtlaepdpgegoopaaGreatRecWholeC
set_option linter.unusedVariables false
namespace Go.Proofs.YtlaepdpgegoopaaGreat
open Go.ChangeShapes Go.WideShapes Go.ChangeAt Go.RowKit Go.Maps Csv Dk Jn

abbrev tJn : TypeId := 80
def jnCells (d : Nat) (J : JM) : Array Value := #[ptrV d, .int .i64 J.starts, .int .i64 J.file, .int .i64 (J.bytes : Int), .int .i64 (J.many : Int)]
/-- A journal that is not over. -/
def JnAt (w : World) (b d : Nat) (J : JM) : Prop := w.heap[b]? = some (.cells (jnCells d J) tJn (0, 0))
theorem JnAt.lt {w : World} {b d : Nat} {J : JM} (h : JnAt w b d J) : b < w.heap.size := block_lt h
theorem JnAt.local {w w' : World} {b d : Nat} {J : JM} (h : JnAt w b d J) (k : w'.heap[b]? = w.heap[b]?) : JnAt w' b d J := k.trans h
structure JJ (w : World) (b d : Nat) (D : DiskM) (J : JM) (G : List Nat) : Prop where
  disk : IsDisk w d D G
  jn : JnAt w b d J
  off : b ∉ G
/-- Texts that are read, whatever becomes of these blocks. -/
def Stays (X : List Nat) (w : World) (v : Value) (l : List Bs) : Prop := ∀ w', Frame X w w' → StrsAt w' v l ∧ ∀ p n c, v = .slice p n c → n ≤ c
/-- Blocks of these kinds are no disk's, and no journal's. -/
def Foreign (t : TypeId) : Prop := t ≠ tDk ∧ t ≠ tFl ∧ t ≠ tFa ∧ t ≠ tU8 ∧ t ≠ tI ∧ t ≠ tJn
/-- Texts that lie in a block of texts. -/
def TxtB (w : World) (v : Value) (l : List Bs) : Prop := StrsAt w v l ∧ (∀ p n c, v = .slice p n c → n ≤ c) ∧ (l = [] ∨ ∃ g o n c cs, v = .slice (some ⟨g, o, none⟩) n c ∧ w.heap[g]? = some (.cells cs tS (0, 0)))
def JOpenOut (D : DiskM) (d : Nat) (G : List Nat) (w : World) (e : Ending) (w' : World) : Prop :=
  (∃ x D', openD D = ((x, D'), none) ∧ x ≠ 0 ∧ e = .returned (.tuple #[.pointer none, .string ⟨#[]⟩, .slice none 0 0, .int .i64 x]) ∧ Goes w w' G d D') ∨
  (∃ D' J s l b v G', openD D = ((0, D'), some (J, s :: l)) ∧ e = .returned (.tuple #[ptrV b, sv s, v, .int .i64 0]) ∧ JJ w' b d D' J G' ∧ (Stays (b :: G') w' v l ∧ TxtB w' v l) ∧ w.heap.size ≤ b ∧ Frame G w w' ∧ ∀ x ∈ G', x ∈ G ∨ w.heap.size ≤ x)
def JDoneOut (x : (Int × DiskM) × JM) (b d : Nat) (G : List Nat) (w : World) (e : Ending) (w' : World) : Prop :=
  e = .returned (.int .i64 x.1.1) ∧ ∃ G', IsDisk w' d x.1.2 G' ∧ b ∉ G' ∧ Frame (b :: G) w w' ∧ (∀ y ∈ G', y ∈ G ∨ w.heap.size ≤ y) ∧ (x.1.1 ≠ 61 → JnAt w' b d x.2)
end Go.Proofs.YtlaepdpgegoopaaGreat
