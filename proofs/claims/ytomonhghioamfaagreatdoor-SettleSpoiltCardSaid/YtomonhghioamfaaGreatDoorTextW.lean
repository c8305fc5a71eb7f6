
/- A text under way, in a strings.Builder of the call's own, where WriteString and String alone are called. -/
import Derived.Shelf.Strings.BuilderK
import Derived.Test.YtomonhghioamfaaGreatDoorCsvMem
set_option linter.unusedVariables false
namespace Go.Proofs.YtomonhghioamfaaGreatDoor
open Go.Shelf Go.Proofs Go.ChangeShapes Go.WideShapes Go.ChangeAt Go.RowKit Csv
def twLays169_ren : Go.Shelf.Ren := ⟨fun | 169 => 47 | n => n, fun | 70 => 81 | 9 => 9 | 0 => 0 | 72 => 83 | 37 => 31 | 127 => 118 | 3 => 3 | 5 => 5 | n => n, fun | n => n⟩
theorem twLays169 : Lays.n169 Tryz.prog twLays169_ren := {
  mixed := by kernel_rfl
  f169 := Tryz.func47.trans (congrArg some (by kernel_rfl))
  t0 := Tryz.underlying0
  a0 := Tryz.isAgg0
  z0 := Tryz.sizeOf0
  v0 := Tryz.zeroValue0
  t3 := Tryz.underlying3
  a3 := Tryz.isAgg3
  z3 := Tryz.sizeOf3
  v3 := Tryz.zeroValue3
  t9 := Tryz.underlying9
  a9 := Tryz.isAgg9
  z9 := Tryz.sizeOf9
  v9 := Tryz.zeroValue9
  t37 := Tryz.underlying31
  a37 := Tryz.isAgg31
  z37 := Tryz.sizeOf31
  v37 := Tryz.zeroValue31
  t70 := Tryz.underlying81
  a70 := Tryz.isAgg81
  z70 := Tryz.sizeOf81
  v70 := Tryz.zeroValue81
  t72 := Tryz.underlying83
  a72 := Tryz.isAgg83
  z72 := Tryz.sizeOf83
  v72 := Tryz.zeroValue83
  t127 := Tryz.underlying118
  a127 := Tryz.isAgg118
  z127 := Tryz.sizeOf118
  v127 := Tryz.zeroValue118 }
theorem twBuilder_Extra_169 : Builder.Extra Tryz.prog twLays169_ren := {
  sizeBuilder := by kernel_rfl
  liesBuilder := by kernel_rfl
  t5 := Tryz.underlying5
  a5 := Tryz.isAgg5
  z5 := Tryz.sizeOf5
  v5 := Tryz.zeroValue5
  infoByte := by kernel_rfl
  cellsByte := by kernel_rfl
  sizeByte := by kernel_rfl
  neB5 := by decide }
def twLays166_ren : Go.Shelf.Ren := ⟨fun | 166 => 42 | 240 => 77 | 276 => 109 | n => n, fun | 0 => 0 | 3 => 3 | 4 => 4 | 5 => 5 | 9 => 9 | 20 => 20 | 37 => 31 | 70 => 81 | 72 => 83 | 75 => 85 | 76 => 86 | 80 => 89 | 164 => 134 | n => n, fun | n => n⟩
theorem twLays166 : Lays.n166 Tryz.prog twLays166_ren := {
  mixed := by kernel_rfl
  f166 := Tryz.func42.trans (congrArg some (by kernel_rfl))
  f240 := Tryz.func77.trans (congrArg some (by kernel_rfl))
  f276 := Tryz.func109.trans (congrArg some (by kernel_rfl))
  t0 := Tryz.underlying0
  a0 := Tryz.isAgg0
  z0 := Tryz.sizeOf0
  v0 := Tryz.zeroValue0
  t3 := Tryz.underlying3
  a3 := Tryz.isAgg3
  z3 := Tryz.sizeOf3
  v3 := Tryz.zeroValue3
  t4 := Tryz.underlying4
  a4 := Tryz.isAgg4
  z4 := Tryz.sizeOf4
  v4 := Tryz.zeroValue4
  t9 := Tryz.underlying9
  a9 := Tryz.isAgg9
  z9 := Tryz.sizeOf9
  v9 := Tryz.zeroValue9
  t20 := Tryz.underlying20
  a20 := Tryz.isAgg20
  z20 := Tryz.sizeOf20
  v20 := Tryz.zeroValue20
  t37 := Tryz.underlying31
  a37 := Tryz.isAgg31
  z37 := Tryz.sizeOf31
  v37 := Tryz.zeroValue31
  t70 := Tryz.underlying81
  a70 := Tryz.isAgg81
  z70 := Tryz.sizeOf81
  v70 := Tryz.zeroValue81
  t72 := Tryz.underlying83
  a72 := Tryz.isAgg83
  z72 := Tryz.sizeOf83
  v72 := Tryz.zeroValue83
  t75 := Tryz.underlying85
  a75 := Tryz.isAgg85
  z75 := Tryz.sizeOf85
  v75 := Tryz.zeroValue85
  t164 := Tryz.underlying134
  a164 := Tryz.isAgg134
  z164 := Tryz.sizeOf134
  v164 := Tryz.zeroValue134 }
theorem twBuilder_Extra_166 : Builder.Extra Tryz.prog twLays166_ren := {
  sizeBuilder := by kernel_rfl
  liesBuilder := by kernel_rfl
  t5 := Tryz.underlying5
  a5 := Tryz.isAgg5
  z5 := Tryz.sizeOf5
  v5 := Tryz.zeroValue5
  infoByte := by kernel_rfl
  cellsByte := by kernel_rfl
  sizeByte := by kernel_rfl
  neB5 := by decide }
abbrev twB : TypeId := 83
abbrev twb : TypeId := 5
theorem twSh_writeString (B b : Nat) (bs : List Value) (s : ByteArray) (w : World) (h : Lib.IsBuilderF twB twb B b bs w) (hlen : bs.length + s.size ≤ 140737488355328) (hBw : B ≤ w.heap.size) :
    Calls Tryz.prog 42 #[.pointer (some ⟨b, 0, none⟩), .string s] w fun e w' => e = .returned (.tuple #[.int .i64 s.size, .nilIface]) ∧ (Lib.BuilderAtF twB twb B b (.pointer (some ⟨b, 0, none⟩)) (bs ++ Lib.strCells s) w' ∧ Below B w w' ∧ Lib.OthersKept twb (some b) w w') :=
  Any.Builder_WriteString_k twLays166 twBuilder_Extra_166 B b bs s w h hlen hBw
theorem twSh_string (B b : Nat) (l : List UInt8) (w : World) (h : Lib.IsBuilderF twB twb B b (Lib.byteCells l) w) (hBw : B ≤ w.heap.size) :
    Calls Tryz.prog 47 #[.pointer (some ⟨b, 0, none⟩)] w fun e w' => e = .returned (.string ⟨l.toArray⟩) ∧ (Lib.IsBuilderF twB twb B b (Lib.byteCells l) w' ∧ Below B w w' ∧ Lib.OthersKept twb (some b) w w') :=
  Any.Builder_String_any_k twLays169 twBuilder_Extra_169 B b l w h hBw
/-- A text under way, in a builder of the call's own. -/
structure TwText (w : World) (b : Nat) (acc : Bs) (W : World) : Prop where
  is : Lib.IsBuilderF twB twb w.heap.size b (Lib.byteCells acc) W
  keeps : Keeps w W

theorem TwText.on {w W W' : World} {b : Nat} {acc : Bs} (h : TwText w b acc W) (k : Keeps W W') : TwText w b acc W' := by
  refine ⟨?_, Keeps.trans h.2 k⟩
  have at_ : ∀ {p : Value}, Lib.BuilderAtF twB twb w.heap.size b p (Lib.byteCells acc) W → Lib.BuilderAtF twB twb w.heap.size b p (Lib.byteCells acc) W' := by
    intro p hb
    have hlt := hb.lt
    obtain ⟨h1, v, h2, h3, h4⟩ := hb
    refine ⟨h1, v, by rw [k.block b hlt]; exact h2, h3.kept (grown_of_keeps k) ?_, h4⟩
    cases v.ownBlock <;> simp
  rcases h.1 with h1 | h1
  · exact Or.inl (at_ h1)
  · exact Or.inr (at_ h1)
theorem twText_new (w : World) : TwText w w.heap.size [] (w.alloc (.cells #[.pointer none, .slice none 0 0] twB)) :=
  ⟨Or.inl ⟨Nat.le_refl _, .slice none 0 0, heap_alloc_new w _, World.ownsRowF_nil _ _ _ _, by simp [Value.ownBlock]⟩, (Below.refl _ _).alloc (Nat.le_refl _) _⟩
theorem twText_string (w W : World) (b : Nat) (acc l : Bs) (h : TwText w b acc W) (hl : acc.length ≤ 1000000) (hl2 : l.length ≤ 1000000) :
    Calls Tryz.prog 42 #[.pointer (some ⟨b, 0, none⟩), .string ⟨l.toArray⟩] W fun e w' => (∃ n : Int, e = .returned (.tuple #[.int .i64 n, .nilIface])) ∧ TwText w b (acc ++ l) w' := by
  refine (twSh_writeString w.heap.size b _ ⟨l.toArray⟩ W h.1 (by rw [Lib.byteCells_length, size_mk]; omega) h.2.size).mono fun e w' ⟨h1, h2, h3, h4⟩ => ⟨⟨_, h1⟩, ?_, ?_⟩
  · right
    rw [Lib.byteCells_append]
    rw [Lib.strCells_eq, data_mk] at h2
    exact h2
  · exact Below.trans h.2 h3
theorem twText_done (w W : World) (b : Nat) (acc : Bs) (h : TwText w b acc W) :
    Calls Tryz.prog 47 #[.pointer (some ⟨b, 0, none⟩)] W fun e w' => e = .returned (.string ⟨acc.toArray⟩) ∧ Keeps w w' :=
  (twSh_string w.heap.size b acc W h.1 h.2.size).mono fun e w' ⟨h1, h2, h3, h4⟩ => ⟨h1, Below.trans h.2 h3⟩
end Go.Proofs.YtomonhghioamfaaGreatDoor
