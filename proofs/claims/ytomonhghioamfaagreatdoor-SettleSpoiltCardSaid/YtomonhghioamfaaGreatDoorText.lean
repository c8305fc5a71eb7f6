
/- A text under way, in a strings.Builder of the call's own. -/
import Derived.Test.YtomonhghioamfaaGreatDoorFixedShelf
import Derived.Test.YtomonhghioamfaaGreatDoorCsvMem
set_option linter.unusedVariables false
namespace Go.Proofs.YtomonhghioamfaaGreatDoor
open Go.ChangeShapes Go.WideShapes Go.ChangeAt Go.RowKit Go.Shelf Go.Proofs Csv

theorem add_nought (a : Addr) : a.add 0 = a := by simp [Addr.add]

/-- A text under way, in a builder of the call's own. -/
structure Text (w : World) (b : Nat) (acc : Bs) (W : World) : Prop where
  is : Lib.IsBuilderF tB tb w.heap.size b (Lib.byteCells acc) W
  keeps : Keeps w W

theorem Text.on {w W W' : World} {b : Nat} {acc : Bs} (h : Text w b acc W) (k : Keeps W W') : Text w b acc W' := by
  refine ⟨?_, Keeps.trans h.2 k⟩
  have at_ : ∀ {p : Value}, Lib.BuilderAtF tB tb w.heap.size b p (Lib.byteCells acc) W → Lib.BuilderAtF tB tb w.heap.size b p (Lib.byteCells acc) W' := by
    intro p hb
    have hlt := hb.lt
    obtain ⟨h1, v, h2, h3, h4⟩ := hb
    refine ⟨h1, v, by rw [k.block b hlt]; exact h2, h3.kept (grown_of_keeps k) ?_, h4⟩
    cases v.ownBlock <;> simp
  rcases h.1 with h1 | h1
  · exact Or.inl (at_ h1)
  · exact Or.inr (at_ h1)
theorem text_new (w : World) : Text w w.heap.size [] (w.alloc (.cells #[.pointer none, .slice none 0 0] tB)) :=
  ⟨Or.inl ⟨Nat.le_refl _, .slice none 0 0, heap_alloc_new w _, World.ownsRowF_nil _ _ _ _, by simp [Value.ownBlock]⟩, (Below.refl _ _).alloc (Nat.le_refl _) _⟩
theorem text_string (w W : World) (b : Nat) (acc l : Bs) (h : Text w b acc W) (hl : acc.length ≤ 1000000) (hl2 : l.length ≤ 1000000) :
    Calls Tryz.prog 42 #[.pointer (some ⟨b, 0, none⟩), .string ⟨l.toArray⟩] W fun e w' => (∃ n : Int, e = .returned (.tuple #[.int .i64 n, .nilIface])) ∧ Text w b (acc ++ l) w' := by
  refine (sh_writeString w.heap.size b _ ⟨l.toArray⟩ W h.1 (by rw [Lib.byteCells_length, size_mk]; omega) h.2.size).mono fun e w' ⟨h1, h2, h3, h4⟩ => ⟨⟨_, h1⟩, ?_, ?_⟩
  · right
    rw [Lib.byteCells_append]
    rw [Lib.strCells_eq, data_mk] at h2
    exact h2
  · exact Below.trans h.2 h3
theorem text_done (w W : World) (b : Nat) (acc : Bs) (h : Text w b acc W) :
    Calls Tryz.prog 47 #[.pointer (some ⟨b, 0, none⟩)] W fun e w' => e = .returned (.string ⟨acc.toArray⟩) ∧ Keeps w w' :=
  (sh_string w.heap.size b acc W h.1 h.2.size).mono fun e w' ⟨h1, h2, h3, h4⟩ => ⟨h1, Below.trans h.2 h3⟩
end Go.Proofs.YtomonhghioamfaaGreatDoor
