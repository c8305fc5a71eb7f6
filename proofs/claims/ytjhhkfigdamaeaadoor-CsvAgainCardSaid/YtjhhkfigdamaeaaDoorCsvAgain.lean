
/- The law CsvAgain, walked. -/
import Derived.Test.YtjhhkfigdamaeaaDoorCsvParse
import Derived.Test.YtjhhkfigdamaeaaDoorCsvPrintC
set_option linter.unusedVariables false
namespace Go.Proofs.YtjhhkfigdamaeaaDoor
open Go.ChangeShapes Go.WideShapes Go.ChangeAt Go.RowKit Go.Shelf Go.Proofs Csv

theorem le_wt {r : List Bs} {f : Bs} (h : f ∈ r) : f.length ≤ wt r := by
  unfold wt
  induction r with
  | nil => simp at h
  | cons g r ih =>
    rw [List.map_cons, List.sum_cons]
    rcases List.mem_cons.1 h with rfl | h
    · omega
    · have := ih h; omega
theorem le_wts {L : List (List Bs)} {r : List Bs} (h : r ∈ L) : wt r ≤ (L.map wt).sum := by
  induction L with
  | nil => simp at h
  | cons g L ih =>
    rw [List.map_cons, List.sum_cons]
    rcases List.mem_cons.1 h with rfl | h
    · omega
    · have := ih h; omega
theorem read_fits {a : Bs} {L : List (List Bs)} (h : run st0 0 a = .rows L) (ha : a.length ≤ 16000) : Fits L := by
  obtain ⟨h1, h2⟩ := again h
  obtain ⟨s', g1, g2, g3, g4⟩ := run_rows h
  have hp := pot_after g1
  have h6 : pot st0 = 0 := rfl
  have h7 : (L.map wt).sum ≤ pot s' := by unfold pot; rw [g4]; omega
  refine ⟨fun r hr f hf => ?_, by omega⟩
  have := le_wt hf
  have := le_wts hr
  omega

set_option maxHeartbeats 4000000 in
theorem csvAgain_go (s : ByteArray) (w : World) (hs : s.size ≤ maxLen) (hm : HasMax w) :
    Calls Tryd.prog 6 #[.string s] w fun e w' => e = .returned (.bool true) ∧ Keeps w w' := by
  unfold maxLen at hs
  have HM := Lib.hid hm
  clear hm
  by_cases hl : 1000 < s.size
  · have t : decide ((1000 : Int) < (s.size : Int)) = true := decide_eq_true (by omega)
    have c := rowed_yes w HM.out
    clear hl
    go_enter Tryd.func6, Tryd.ntmps6
    go_wp2_with (go_at_call 9; refine c.mono ?_; rintro e w1 ⟨rfl, hk⟩)
    go_ret
    exact ⟨rfl, hk⟩
  have t : decide ((1000 : Int) < (s.size : Int)) = false := decide_eq_false (by omega)
  have hsz : s.size ≤ 1000 := by omega
  clear hl
  cases hr : run st0 0 s.data.toList with
  | bad p c =>
    have hp := parse_bad s w (by omega) HM.out hr
    obtain ⟨hc, _, hpl⟩ := run_code hr
    rw [len_data] at hpl
    have hcl := col_le (s.data.toList.take p)
    have hlen : (s.data.toList.take p).length ≤ s.size := by have := List.length_take_le' p s.data.toList; rw [len_data] at this; exact this
    obtain ⟨X, hX⟩ : ∃ X, lineOf (s.data.toList.take p) = X := ⟨_, rfl⟩
    obtain ⟨Y, hY⟩ : ∃ Y, colOf (s.data.toList.take p) = Y := ⟨_, rfl⟩
    have hX1 : (1 : Int) ≤ (X : Int) := by rw [← hX]; unfold lineOf; omega
    rw [hX, hY] at hp
    rw [hY] at hcl
    have hY1 : (1 : Int) ≤ (Y : Int) := by omega
    have hY2 : (Y : Int) ≤ (s.size : Int) + 1 := by omega
    have hc1 : ((c : Int) != 0) = true := by simp [bne]; omega
    have hc2 : ((c : Int) == 0) = false := by simp; omega
    clear hr hc hX hY hcl hlen hpl
    go_enter Tryd.func6, Tryd.ntmps6
    go_wp2_with fail
    refine hp.mono ?_
    rintro e w1 ⟨rfl, hk1⟩
    have HK1 := Lib.hid (keepsA hk1 (.cells #[.int .i64 (X : Int), .int .i64 (Y : Int), .int .i64 (c : Int)] 27))
    have c := rowed_yes _ (HM.out.keeps HK1.out)
    clear hk1
    go_wp2_with (go_at_call 9; refine c.mono ?_; rintro e w4 ⟨rfl, hk4⟩)
    go_ret
    exact ⟨rfl, Keeps.trans HK1.out hk4⟩
  | rows L =>
    have hp := parse_rows s w (by omega) HM.out hr
    have hfit := read_fits hr (by rw [len_data]; omega)
    obtain ⟨hag, hal⟩ := again hr
    rw [len_data] at hal
    have HFIT := Lib.hid hfit
    have HAG := Lib.hid hag
    clear hr hfit hag
    go_enter Tryd.func6, Tryd.ntmps6
    go_wp2_with fail
    refine hp.mono ?_
    rintro e w1 ⟨v, rfl, hrows, hk1⟩
    have HR := Lib.hid (hrows.keeps (keepsA (Keeps.refl w1) (.cells #[.int .i64 0, .int .i64 0, .int .i64 0] 27)))
    have HK1 := Lib.hid (keepsA hk1 (.cells #[.int .i64 0, .int .i64 0, .int .i64 0] 27))
    have HJ1 := Lib.hid (Rej.new w1 0 0 0)
    clear hk1 hrows hp
    have cp := print_any v L _ HR.out HFIT.out (HM.out.keeps HK1.out)
    go_wp2_with fail
    refine cp.mono ?_
    rintro e w2 ⟨rfl, hk2⟩
    have HK2 := Lib.hid (Keeps.trans HK1.out hk2)
    have HR2 := Lib.hid (HR.out.keeps hk2)
    have HJ2 := Lib.hid (HJ1.out.keeps hk2)
    clear hk2 cp
    have cq := parse_rows ⟨(prRows L).toArray⟩ w2 (L := L) (by rw [size_mk]; omega) (HM.out.keeps HK2.out) (by rw [data_mk]; exact HAG.out)
    go_wp2_with fail
    refine cq.mono ?_
    rintro e w3 ⟨v2, rfl, hrows2, hk3⟩
    have HR3 := Lib.hid (hrows2.keeps (keepsA (Keeps.refl w3) (.cells #[.int .i64 0, .int .i64 0, .int .i64 0] 27)))
    have HK3 := Lib.hid (keepsA (Keeps.trans HK2.out hk3) (.cells #[.int .i64 0, .int .i64 0, .int .i64 0] 27))
    have HR2b := Lib.hid (HR2.out.keeps (keepsA hk3 (.cells #[.int .i64 0, .int .i64 0, .int .i64 0] 27)))
    have hj1 := (HJ2.out.keeps (keepsA hk3 (.cells #[.int .i64 0, .int .i64 0, .int .i64 0] 27))).cells
    obtain ⟨a0, a1, a2⟩ := hj1
    have hlt : w1.heap.size < w3.heap.size := Nat.lt_of_lt_of_le HJ2.out.lt hk3.size
    clear hk3 hrows2 cq
    have cs := same_any v v2 L L _ HR2b.out HR3.out
    have hsb : sameB L L = true := by simp [sameB]
    go_wp2_with fail
    refine cs.mono ?_
    rintro e w4 ⟨rfl, hk4⟩
    have HK4 := Lib.hid (Keeps.trans HK3.out hk4)
    clear hk4 cs
    have cr := rowed_yes w4 (HM.out.keeps HK4.out)
    go_wp2_with (go_at_call 9; refine cr.mono ?_; rintro e w5 ⟨rfl, hk5⟩)
    go_ret
    exact ⟨rfl, Keeps.trans HK4.out hk5⟩
end Go.Proofs.YtjhhkfigdamaeaaDoor
