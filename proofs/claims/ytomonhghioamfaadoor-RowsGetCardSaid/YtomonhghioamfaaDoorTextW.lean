
/- A text under way, in a strings.Builder of the call's own, where WriteString and String alone are called. -/
import Derived.Shelf.Strings.BuilderK
import Derived.Test.YtomonhghioamfaaDoorCsvMem
set_option linter.unusedVariables false
namespace Go.Proofs.YtomonhghioamfaaDoor
open Go.Shelf Go.Proofs Go.ChangeShapes Go.WideShapes Go.ChangeAt Go.RowKit Csv
def twLays169_ren : Go.Shelf.Ren := ⟨fun | 169 => 34 | n => n, fun | 70 => 57 | 9 => 9 | 0 => 0 | 72 => 59 | 37 => 50 | 127 => 88 | 3 => 3 | 5 => 5 | n => n, fun | n => n⟩
theorem twLays169 : Lays.n169 Tryd.prog twLays169_ren := {
  mixed := by kernel_rfl
  f169 := Tryd.func34.trans (congrArg some (by kernel_rfl))
  t0 := Tryd.underlying0
  a0 := Tryd.isAgg0
  z0 := Tryd.sizeOf0
  v0 := Tryd.zeroValue0
  t3 := Tryd.underlying3
  a3 := Tryd.isAgg3
  z3 := Tryd.sizeOf3
  v3 := Tryd.zeroValue3
  t9 := Tryd.underlying9
  a9 := Tryd.isAgg9
  z9 := Tryd.sizeOf9
  v9 := Tryd.zeroValue9
  t37 := Tryd.underlying50
  a37 := Tryd.isAgg50
  z37 := Tryd.sizeOf50
  v37 := Tryd.zeroValue50
  t70 := Tryd.underlying57
  a70 := Tryd.isAgg57
  z70 := Tryd.sizeOf57
  v70 := Tryd.zeroValue57
  t72 := Tryd.underlying59
  a72 := Tryd.isAgg59
  z72 := Tryd.sizeOf59
  v72 := Tryd.zeroValue59
  t127 := Tryd.underlying88
  a127 := Tryd.isAgg88
  z127 := Tryd.sizeOf88
  v127 := Tryd.zeroValue88 }
theorem twBuilder_Extra_169 : Builder.Extra Tryd.prog twLays169_ren := {
  sizeBuilder := by kernel_rfl
  liesBuilder := by kernel_rfl
  t5 := Tryd.underlying5
  a5 := Tryd.isAgg5
  z5 := Tryd.sizeOf5
  v5 := Tryd.zeroValue5
  infoByte := by kernel_rfl
  cellsByte := by kernel_rfl
  sizeByte := by kernel_rfl
  neB5 := by decide }
def twLays166_ren : Go.Shelf.Ren := ⟨fun | 166 => 31 | 240 => 48 | 276 => 65 | n => n, fun | 0 => 0 | 3 => 3 | 4 => 4 | 5 => 5 | 9 => 9 | 20 => 20 | 37 => 50 | 70 => 57 | 72 => 59 | 75 => 61 | 76 => 62 | 80 => 67 | 164 => 106 | n => n, fun | n => n⟩
theorem twLays166 : Lays.n166 Tryd.prog twLays166_ren := {
  mixed := by kernel_rfl
  f166 := Tryd.func31.trans (congrArg some (by kernel_rfl))
  f240 := Tryd.func48.trans (congrArg some (by kernel_rfl))
  f276 := Tryd.func65.trans (congrArg some (by kernel_rfl))
  t0 := Tryd.underlying0
  a0 := Tryd.isAgg0
  z0 := Tryd.sizeOf0
  v0 := Tryd.zeroValue0
  t3 := Tryd.underlying3
  a3 := Tryd.isAgg3
  z3 := Tryd.sizeOf3
  v3 := Tryd.zeroValue3
  t4 := Tryd.underlying4
  a4 := Tryd.isAgg4
  z4 := Tryd.sizeOf4
  v4 := Tryd.zeroValue4
  t9 := Tryd.underlying9
  a9 := Tryd.isAgg9
  z9 := Tryd.sizeOf9
  v9 := Tryd.zeroValue9
  t20 := Tryd.underlying20
  a20 := Tryd.isAgg20
  z20 := Tryd.sizeOf20
  v20 := Tryd.zeroValue20
  t37 := Tryd.underlying50
  a37 := Tryd.isAgg50
  z37 := Tryd.sizeOf50
  v37 := Tryd.zeroValue50
  t70 := Tryd.underlying57
  a70 := Tryd.isAgg57
  z70 := Tryd.sizeOf57
  v70 := Tryd.zeroValue57
  t72 := Tryd.underlying59
  a72 := Tryd.isAgg59
  z72 := Tryd.sizeOf59
  v72 := Tryd.zeroValue59
  t75 := Tryd.underlying61
  a75 := Tryd.isAgg61
  z75 := Tryd.sizeOf61
  v75 := Tryd.zeroValue61
  t164 := Tryd.underlying106
  a164 := Tryd.isAgg106
  z164 := Tryd.sizeOf106
  v164 := Tryd.zeroValue106 }
theorem twBuilder_Extra_166 : Builder.Extra Tryd.prog twLays166_ren := {
  sizeBuilder := by kernel_rfl
  liesBuilder := by kernel_rfl
  t5 := Tryd.underlying5
  a5 := Tryd.isAgg5
  z5 := Tryd.sizeOf5
  v5 := Tryd.zeroValue5
  infoByte := by kernel_rfl
  cellsByte := by kernel_rfl
  sizeByte := by kernel_rfl
  neB5 := by decide }
abbrev twB : TypeId := 59
abbrev twb : TypeId := 5
theorem twSh_writeString (B b : Nat) (bs : List Value) (s : ByteArray) (w : World) (h : Lib.IsBuilderF twB twb B b bs w) (hlen : bs.length + s.size ≤ 140737488355328) (hBw : B ≤ w.heap.size) :
    Calls Tryd.prog 31 #[.pointer (some ⟨b, 0, none⟩), .string s] w fun e w' => e = .returned (.tuple #[.int .i64 s.size, .nilIface]) ∧ (Lib.BuilderAtF twB twb B b (.pointer (some ⟨b, 0, none⟩)) (bs ++ Lib.strCells s) w' ∧ Below B w w' ∧ Lib.OthersKept twb (some b) w w') :=
  Any.Builder_WriteString_k twLays166 twBuilder_Extra_166 B b bs s w h hlen hBw
theorem twSh_string (B b : Nat) (l : List UInt8) (w : World) (h : Lib.IsBuilderF twB twb B b (Lib.byteCells l) w) (hBw : B ≤ w.heap.size) :
    Calls Tryd.prog 34 #[.pointer (some ⟨b, 0, none⟩)] w fun e w' => e = .returned (.string ⟨l.toArray⟩) ∧ (Lib.IsBuilderF twB twb B b (Lib.byteCells l) w' ∧ Below B w w' ∧ Lib.OthersKept twb (some b) w w') :=
  Any.Builder_String_any_k twLays169 twBuilder_Extra_169 B b l w h hBw
/-- A text under way, in a builder of the call's own. -/
structure TwText (w : World) (b : Nat) (acc : Bs) (W : World) : Prop where
  is : Lib.IsBuilderF twB twb w.heap.size b (Lib.byteCells acc) W
  keeps : Keeps w W

theorem TwText.on {w W W' : World} {b : Nat} {acc : Bs} (h : TwText w b acc W) (k : Keeps W W') : TwText w b acc W' := by
  refine ⟨?_, Keeps.trans h.2 k⟩
  have at_ : ∀ {p : Value}, Lib.BuilderAtF twB twb w.heap.size b p (Lib.byteCells acc) W → Lib.BuilderAtF twB twb w.heap.size b p (Lib.byteCells acc) W' := by
    intro p hb
    have hlt := hb.lt
    obtain ⟨h1, v, h2, h3, h4⟩ := hb
    refine ⟨h1, v, by rw [k.block b hlt]; exact h2, h3.kept (grown_of_keeps k) ?_, h4⟩
    cases v.ownBlock <;> simp
  rcases h.1 with h1 | h1
  · exact Or.inl (at_ h1)
  · exact Or.inr (at_ h1)
theorem twText_new (w : World) : TwText w w.heap.size [] (w.alloc (.cells #[.pointer none, .slice none 0 0] twB)) :=
  ⟨Or.inl ⟨Nat.le_refl _, .slice none 0 0, heap_alloc_new w _, World.ownsRowF_nil _ _ _ _, by simp [Value.ownBlock]⟩, (Below.refl _ _).alloc (Nat.le_refl _) _⟩
theorem twText_string (w W : World) (b : Nat) (acc l : Bs) (h : TwText w b acc W) (hl : acc.length ≤ 1000000) (hl2 : l.length ≤ 1000000) :
    Calls Tryd.prog 31 #[.pointer (some ⟨b, 0, none⟩), .string ⟨l.toArray⟩] W fun e w' => (∃ n : Int, e = .returned (.tuple #[.int .i64 n, .nilIface])) ∧ TwText w b (acc ++ l) w' := by
  refine (twSh_writeString w.heap.size b _ ⟨l.toArray⟩ W h.1 (by rw [Lib.byteCells_length, size_mk]; omega) h.2.size).mono fun e w' ⟨h1, h2, h3, h4⟩ => ⟨⟨_, h1⟩, ?_, ?_⟩
  · right
    rw [Lib.byteCells_append]
    rw [Lib.strCells_eq, data_mk] at h2
    exact h2
  · exact Below.trans h.2 h3
theorem twText_done (w W : World) (b : Nat) (acc : Bs) (h : TwText w b acc W) :
    Calls Tryd.prog 34 #[.pointer (some ⟨b, 0, none⟩)] W fun e w' => e = .returned (.string ⟨acc.toArray⟩) ∧ Keeps w w' :=
  (twSh_string w.heap.size b acc W h.1 h.2.size).mono fun e w' ⟨h1, h2, h3, h4⟩ => ⟨h1, Below.trans h.2 h3⟩
end Go.Proofs.YtomonhghioamfaaDoor
