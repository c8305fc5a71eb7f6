
/- The law CsvParse, walked. -/
import Derived.Test.YtjhhkfigdamaeaaDoorCsvLaws
import Derived.Test.YtjhhkfigdamaeaaDoorCsvRefC
set_option linter.unusedVariables false
namespace Go.Proofs.YtjhhkfigdamaeaaDoor
open Go.ChangeShapes Go.WideShapes Go.ChangeAt Go.RowKit Go.Shelf Go.Proofs Csv

/-- A block of a reject. -/
def Rej (w : World) (b : Nat) (x y z : Int) : Prop := w.heap[b]? = some (.cells #[.int .i64 x, .int .i64 y, .int .i64 z] 27 (0, 0))
theorem Rej.keeps {w w' : World} {b : Nat} {x y z : Int} (h : Rej w b x y z) (k : Keeps w w') : Rej w' b x y z := by
  unfold Rej at *
  rw [k.block b (Array.getElem?_eq_some_iff.1 h).1]; exact h
theorem Rej.new (w : World) (x y z : Int) : Rej (w.alloc (.cells #[.int .i64 x, .int .i64 y, .int .i64 z] 27)) w.heap.size x y z := heap_alloc_new w _
theorem Rej.cells {w : World} {b : Nat} {x y z : Int} (h : Rej w b x y z) : w.cell? ⟨b, 0, none⟩ = some (.int .i64 x) ∧ w.cell? ⟨b, 1, none⟩ = some (.int .i64 y) ∧ w.cell? ⟨b, 2, none⟩ = some (.int .i64 z) := by
  unfold Rej at h
  simp [World.cell?, h]
theorem Rej.frozen {w : World} {b : Nat} {x y z : Int} (h : Rej w b x y z) : w.frozen? ⟨b, 0, none⟩ = false ∧ w.frozen? ⟨b, 1, none⟩ = false ∧ w.frozen? ⟨b, 2, none⟩ = false := by
  unfold Rej at h
  simp [World.frozen?, h]
theorem Rej.lt {w : World} {b : Nat} {x y z : Int} (h : Rej w b x y z) : b < w.heap.size := (Array.getElem?_eq_some_iff.1 h).1

/-- Both tell the same of a text. -/
theorem same_told (s : ByteArray) (w : World) (hs : s.size ≤ 65536) (hm : HasMax w) : ∃ (L : List (List Bs)) (x y z : Int),
    (∀ W, Keeps w W → Calls Tryd.prog 12 #[.string s] W fun e w' => ∃ v : Value, e = .returned (.tuple #[v, .agg #[.int .i64 x, .int .i64 y, .int .i64 z]]) ∧ RowsAt w' v L ∧ Keeps W w') ∧
    (∀ W, Keeps w W → Calls Tryd.prog 13 #[.string s] W fun e w' => ∃ v : Value, e = .returned (.tuple #[v, .agg #[.int .i64 x, .int .i64 y, .int .i64 z]]) ∧ RowsAt w' v L ∧ Keeps W w') := by
  cases hr : run st0 0 s.data.toList with
  | rows L =>
    refine ⟨L, 0, 0, 0, fun W k => (parse_any s W hs (hm.keeps k)).mono fun _ _ h => ?_, fun W k => (rparse_any s W hs).mono fun _ _ h => ?_⟩
    · exact out_rows h hr
    · exact out_rows h hr
  | bad p c =>
    refine ⟨[], (lineOf (s.data.toList.take p) : Nat), (colOf (s.data.toList.take p) : Nat), (c : Nat), fun W k => (parse_any s W hs (hm.keeps k)).mono fun _ _ h => ?_, fun W k => (rparse_any s W hs).mono fun _ _ h => ?_⟩
    · obtain ⟨h1, h2⟩ := out_bad h hr
      exact ⟨_, h1, RowsAt.nil _, h2⟩
    · obtain ⟨h1, h2⟩ := out_bad h hr
      exact ⟨_, h1, RowsAt.nil _, h2⟩

set_option maxHeartbeats 2000000 in
theorem csvParse_go (s : ByteArray) (w : World) (hs : s.size ≤ maxLen) (hm : HasMax w) :
    Calls Tryd.prog 4 #[.string s] w fun e w' => e = .returned (.bool true) ∧ Keeps w w' := by
  unfold maxLen at hs
  have HM := Lib.hid hm
  clear hm
  by_cases hl : 3000 < s.size
  · have t : decide ((3000 : Int) < (s.size : Int)) = true := decide_eq_true (by omega)
    have c := rowed_yes w HM.out
    clear hl
    go_enter Tryd.func4, Tryd.ntmps4
    go_wp2_with (go_at_call 9; refine c.mono ?_; rintro e w1 ⟨rfl, hk⟩)
    go_ret
    exact ⟨rfl, hk⟩
  · have t : decide ((3000 : Int) < (s.size : Int)) = false := decide_eq_false (by omega)
    obtain ⟨L, x, y, z, hp, hq⟩ := same_told s w (by omega) HM.out
    have HP := Lib.hid hp
    have HQ := Lib.hid hq
    clear hl hp hq
    go_enter Tryd.func4, Tryd.ntmps4
    go_wp2_with fail
    refine (HP.out _ (Keeps.refl _)).mono ?_
    rintro e w1 ⟨v1, rfl, hr1, hk1⟩
    have HR1 := Lib.hid hr1
    have HK1 := Lib.hid hk1
    clear hr1 hk1
    go_wp2_with fail
    refine (HQ.out _ (keepsA HK1.out _)).mono ?_
    rintro e w2 ⟨v2, rfl, hr2, hk2⟩
    have HR2 := Lib.hid hr2
    have HK2 := Lib.hid hk2
    clear hr2 hk2
    have hlt2 : w1.heap.size + 1 ≤ w2.heap.size := by have := HK2.out.size; simpa using this
    go_wp2_with fail
    refine (same_any v1 v2 L L _ ?s1 ?s2).mono ?_
    case s1 => exact ((HR1.out.keeps (keepsA (Keeps.refl _) _)).keeps HK2.out).keeps (keepsA (Keeps.refl _) _)
    case s2 => exact HR2.out.keeps (keepsA (Keeps.refl _) _)
    rintro e w3 ⟨rfl, hk3⟩
    have hsb : sameB L L = true := by simp [sameB]
    have hj1 := ((((Rej.new w1 x y z).keeps HK2.out).keeps (keepsA (Keeps.refl _) _)).keeps hk3).cells
    have hj2 := ((Rej.new w2 x y z).keeps hk3).cells
    obtain ⟨a0, a1, a2⟩ := hj1
    obtain ⟨b0, b1, b2⟩ := hj2
    have HK3 := Lib.hid (Keeps.trans (keepsA (Keeps.trans (keepsA HK1.out _) HK2.out) _) hk3)
    have c := rowed_yes w3 (HM.out.keeps HK3.out)
    clear hk3
    go_wp2_with (go_at_call 9; refine c.mono ?_; rintro e w4 ⟨rfl, hk4⟩)
    go_ret
    exact ⟨rfl, Keeps.trans HK3.out hk4⟩
end Go.Proofs.YtjhhkfigdamaeaaDoor
