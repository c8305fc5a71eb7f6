
/- The law CsvPrint, walked. -/
import Derived.Test.YtjhhkfigdamaeaaDoorCsvOpen
import Derived.Test.YtjhhkfigdamaeaaDoorCsvRefP
import Derived.Test.YtjhhkfigdamaeaaDoorCsvLaws
set_option linter.unusedVariables false
namespace Go.Proofs.YtjhhkfigdamaeaaDoor
open Go.ChangeShapes Go.WideShapes Go.ChangeAt Go.RowKit Go.Shelf Go.Proofs Csv

set_option maxHeartbeats 2000000 in
theorem csvPrint_go (v : Value) (L : List (List Bs)) (w : World) (hL : RowsAt w v L) (hm : HasMax w) :
    Calls Tryd.prog 3 #[v] w fun e w' => e = .returned (.bool true) ∧ Keeps w w' := by
  have cg := great_any v L w hL
  cases hg : greatG L
  · rw [hg] at cg
    have hf := small_fits hg
    have cp := print_any v L w hL hf hm
    have HM := Lib.hid hm
    have HL := Lib.hid hL
    have HF := Lib.hid hf
    clear hg hm hL hf
    go_enter Tryd.func3, Tryd.ntmps3
    go_wp2_with (go_at_call 8; refine cg.mono ?_; rintro e w' ⟨rfl, rfl⟩)
    refine cp.mono ?_
    rintro e w1 ⟨rfl, hk1⟩
    have HK1 := Lib.hid hk1
    have cr := rprint_any v L w1 (HL.out.keeps hk1) HF.out
    have cw := rowed_yes w1 (HM.out.keeps hk1)
    clear hk1 cg cp
    go_wp2_with (first
      | (go_at_call 11; refine cr.mono ?_; rintro e w' ⟨rfl, rfl⟩)
      | (go_at_call 9; refine cw.mono ?_; rintro e w2 ⟨rfl, hk2⟩))
    go_ret
    exact ⟨rfl, Keeps.trans HK1.out hk2⟩
  · rw [hg] at cg
    have cw := rowed_yes w hm
    clear hg hm hL
    go_enter Tryd.func3, Tryd.ntmps3
    go_wp2_with (first
      | (go_at_call 8; refine cg.mono ?_; rintro e w' ⟨rfl, rfl⟩)
      | (go_at_call 9; refine cw.mono ?_; rintro e w2 ⟨rfl, hk2⟩))
    go_ret
    exact ⟨rfl, hk2⟩
end Go.Proofs.YtjhhkfigdamaeaaDoor
