
/- The program's orders: isGoods, Check. -/
import Derived.Test.YtkffpmeocfhcpaaDoorOdC1
import Derived.Lib.SmallJoins
set_option linter.unusedVariables false
namespace Go.Proofs.YtkffpmeocfhcpaaDoor
open Go.ChangeShapes Go.WideShapes Go.ChangeAt Go.RowKit Bit Ky Od

theorem toList_ne {r : ByteArray} (h : 1 ≤ r.size) : ¬ r.toList = [] := by
  intro e
  have := congrArg List.length e
  rw [ByteArray.toList_eq, len_data, List.length_nil] at this
  omega
theorem str_some {r : ByteArray} (h : 1 ≤ r.size) : r.toList.isEmpty = false ∧ ¬ r.toList = [] := ⟨by rw [List.isEmpty_eq_false_iff]; exact toList_ne h, toList_ne h⟩
theorem str_none : ByteArray.empty.toList = [] := by rw [ByteArray.toList_eq]; rfl
def goodsB (s : ByteArray) : Bool := decide (1 ≤ s.size) && decide (s.size ≤ 8) && nameB s.data.toList
set_option maxHeartbeats 4000000 in
theorem od_isGoods (s : ByteArray) (b : Bool) (w : World) (hs : s.size ≤ maxLen) (h : goodsB s = b) : Calls Tryd.prog 53 #[.string s] w fun e w' => e = .returned (.bool b) ∧ Keeps w w' := by
  have E := Lib.hid h
  obtain ⟨c, hc⟩ : ∃ c, nameB s.data.toList = c := ⟨_, rfl⟩
  have HC := Lib.hid hc
  have N1 := Lib.hid fun w => od_isName_is s c w hs hc
  unfold maxLen at hs
  clear h hc
  by_cases h0 : s.size = 0
  · obtain rfl := size_none h0
    have z := str_none
    go_enter Tryd.func53, Tryd.ntmps53
    go_wp2
    go_ret
    exact ⟨ret_bool (by rw [← E.out]; rfl), Keeps.refl _⟩
  · obtain ⟨z1, z2⟩ := str_some (show 1 ≤ s.size by omega)
    by_cases h8 : s.size ≤ 8
    · go_enter Tryd.func53, Tryd.ntmps53
      go_wp2_with fail
      refine (N1.out _).mono ?_
      rintro e w2 ⟨rfl, k2⟩
      go_wp2
      go_ret
      exact ⟨ret_bool (by rw [← E.out]; unfold goodsB; rw [HC.out, decide_eq_true h8, decide_eq_true (show 1 ≤ s.size by omega)]; rfl), k2⟩
    · go_enter Tryd.func53, Tryd.ntmps53
      go_wp2
      go_ret
      exact ⟨ret_bool (by rw [← E.out]; unfold goodsB; rw [decide_eq_false h8]; simp), Keeps.refl _⟩
set_option maxHeartbeats 8000000 in
theorem od_check (i : Int) (r s : ByteArray) (q a : Int) (w : World) (hr : r.size ≤ maxLen) (hs : s.size ≤ maxLen) :
    Calls Tryd.prog 55 #[odV i r s q a] w fun e w' => e = .returned (.int .i64 (checkO i r s q a)) ∧ Keeps w w' := by
  have HR := Lib.hid hr
  have HS := Lib.hid hs
  unfold maxLen at hr hs
  have KB := Lib.hid (ky_box w (odBox i r s q a))
  have CX : Hid (∀ W, Keeps (w.alloc (odBox i r s q a)) W → W.cell? ⟨w.heap.size, 1, none⟩ = some (.string r) ∧ W.cell? ⟨w.heap.size, 2, none⟩ = some (.string s)) := Lib.hid fun W k => by
    have e := (k.block _ (by simp)).trans (heap_alloc_new w (odBox i r s q a))
    exact ⟨Joins.cell_of_block e 1, Joins.cell_of_block e 2⟩
  have QT := Lib.hid fun w => fun h => od_isQty q true w h
  have QF := Lib.hid fun w => fun h => od_isQty q false w h
  have AT := Lib.hid fun w => fun h => od_isAmount a true w h
  have AF := Lib.hid fun w => fun h => od_isAmount a false w h
  unfold odBox at KB CX
  unfold odV
  by_cases h : 1 ≤ i ∧ i ≤ 60 ∧ 1 ≤ q ∧ q ≤ 999 ∧ 1 ≤ a ∧ a ≤ 1099511627776 ∧ 1 ≤ r.size ∧ 1 ≤ s.size
  · have E0 := Lib.hid fun g => check_long h g
    have E1 := Lib.hid fun g n => check_name h g n
    have E2 : Hid (r.size ≤ 16 ∧ s.size ≤ 8 → nameB r.data.toList = true → nameB s.data.toList = true → checkO i r s q a = 0) := Lib.hid fun g n m => by
      unfold checkO inB
      rw [if_pos (by simpa using h), if_pos g, if_pos ⟨n, m⟩]
    obtain ⟨h11, h12, h13, h14, h15, h16, h17, h18⟩ := h
    obtain ⟨z1, z2⟩ := str_some h17
    obtain ⟨z3, z4⟩ := str_some h18
    have Q := Lib.hid fun w => QT.out w (by unfold qtyB; exact decide_eq_true ⟨h13, h14⟩)
    have A := Lib.hid fun w => AT.out w (by unfold amtB; exact decide_eq_true ⟨h15, h16⟩)
    clear QT QF AT AF h13 h14 h15 h16 h17 h18
    rcases (show (r.size ≤ 16 ∧ s.size ≤ 8) ∨ 16 < r.size ∨ (r.size ≤ 16 ∧ 8 < s.size) from by omega) with ⟨h3, h4⟩ | h3 | ⟨h3, h4⟩
    rotate_left
    · go_enter Tryd.func55, Tryd.ntmps55
      go_wp2_with fail
      refine (Q.out _).mono ?_
      rintro e w1 ⟨rfl, rfl⟩
      go_wp2_with fail
      refine (A.out _).mono ?_
      rintro e w1 ⟨rfl, rfl⟩
      go_wp2
      go_ret
      exact ⟨ret_int (E0.out (by omega)).symm, KB.out⟩
    · go_enter Tryd.func55, Tryd.ntmps55
      go_wp2_with fail
      refine (Q.out _).mono ?_
      rintro e w1 ⟨rfl, rfl⟩
      go_wp2_with fail
      refine (A.out _).mono ?_
      rintro e w1 ⟨rfl, rfl⟩
      go_wp2
      go_ret
      exact ⟨ret_int (E0.out (by omega)).symm, KB.out⟩
    obtain ⟨b1, hb1⟩ : ∃ b, nameB r.data.toList = b := ⟨_, rfl⟩
    obtain ⟨b2, hb2⟩ : ∃ b, nameB s.data.toList = b := ⟨_, rfl⟩
    have N1 := Lib.hid fun w => od_isName_is r b1 w HR.out hb1
    have N2 := Lib.hid fun w => od_isName_is s b2 w HS.out hb2
    have B1 := Lib.hid hb1
    have B2 := Lib.hid hb2
    have H34 : Hid (r.size ≤ 16 ∧ s.size ≤ 8) := Lib.hid ⟨h3, h4⟩
    clear hb1 hb2
    go_enter Tryd.func55, Tryd.ntmps55
    go_wp2_with fail
    refine (Q.out _).mono ?_
    rintro e w1 ⟨rfl, rfl⟩
    go_wp2_with fail
    refine (A.out _).mono ?_
    rintro e w1 ⟨rfl, rfl⟩
    go_wp2_with fail
    refine (N1.out _).mono ?_
    rintro e w1 ⟨rfl, k1⟩
    have K1 := Lib.hid k1
    obtain ⟨c1, c2⟩ := CX.out _ k1
    clear k1
    cases b1 with
    | false =>
      go_wp2
      go_ret
      exact ⟨ret_int (E1.out H34.out (by rw [B1.out]; simp)).symm, KB.out.trans K1.out⟩
    | true =>
      go_wp2_with fail
      refine (N2.out _).mono ?_
      rintro e w2 ⟨rfl, k2⟩
      have K2 := Lib.hid (K1.out.trans k2)
      clear k2
      cases b2 with
      | false =>
        go_wp2
        go_ret
        exact ⟨ret_int (E1.out H34.out (by rw [B2.out]; simp)).symm, KB.out.trans K2.out⟩
      | true =>
        go_wp2
        go_ret
        exact ⟨ret_int (E2.out H34.out B1.out B2.out).symm, KB.out.trans K2.out⟩
  · have E := Lib.hid (check_arg h)
    rcases arg_ways h with h | ⟨h1, h⟩ | ⟨h1, h2, h⟩ | ⟨h1, h2, h3, h⟩ | ⟨h1, h2, h3, h4, h⟩ | ⟨h1, h2, h3, h4, h5, h⟩ | ⟨h1, h2, h3, h4, h5, h6, h⟩ | ⟨h1, h2, h3, h4, h5, h6, h7, h⟩
    · go_enter Tryd.func55, Tryd.ntmps55
      go_wp2
      go_ret
      exact ⟨ret_int E.out.symm, KB.out⟩
    · go_enter Tryd.func55, Tryd.ntmps55
      go_wp2
      go_ret
      exact ⟨ret_int E.out.symm, KB.out⟩
    · have Q := Lib.hid fun w => QF.out w (by unfold qtyB; exact decide_eq_false (by omega))
      clear h
      go_enter Tryd.func55, Tryd.ntmps55
      go_wp2_with fail
      refine (Q.out _).mono ?_
      rintro e w1 ⟨rfl, rfl⟩
      go_wp2
      go_ret
      exact ⟨ret_int E.out.symm, KB.out⟩
    · have Q := Lib.hid fun w => QF.out w (by unfold qtyB; exact decide_eq_false (by omega))
      clear h
      go_enter Tryd.func55, Tryd.ntmps55
      go_wp2_with fail
      refine (Q.out _).mono ?_
      rintro e w1 ⟨rfl, rfl⟩
      go_wp2
      go_ret
      exact ⟨ret_int E.out.symm, KB.out⟩
    · have Q := Lib.hid fun w => QT.out w (by unfold qtyB; exact decide_eq_true (by omega))
      have A := Lib.hid fun w => AF.out w (by unfold amtB; exact decide_eq_false (by omega))
      clear h
      go_enter Tryd.func55, Tryd.ntmps55
      go_wp2_with fail
      refine (Q.out _).mono ?_
      rintro e w1 ⟨rfl, rfl⟩
      go_wp2_with fail
      refine (A.out _).mono ?_
      rintro e w1 ⟨rfl, rfl⟩
      go_wp2
      go_ret
      exact ⟨ret_int E.out.symm, KB.out⟩
    · have Q := Lib.hid fun w => QT.out w (by unfold qtyB; exact decide_eq_true (by omega))
      have A := Lib.hid fun w => AF.out w (by unfold amtB; exact decide_eq_false (by omega))
      clear h
      go_enter Tryd.func55, Tryd.ntmps55
      go_wp2_with fail
      refine (Q.out _).mono ?_
      rintro e w1 ⟨rfl, rfl⟩
      go_wp2_with fail
      refine (A.out _).mono ?_
      rintro e w1 ⟨rfl, rfl⟩
      go_wp2
      go_ret
      exact ⟨ret_int E.out.symm, KB.out⟩
    · have Q := Lib.hid fun w => QT.out w (by unfold qtyB; exact decide_eq_true (by omega))
      have A := Lib.hid fun w => AT.out w (by unfold amtB; exact decide_eq_true (by omega))
      obtain rfl := size_none h
      have z := str_none
      go_enter Tryd.func55, Tryd.ntmps55
      go_wp2_with fail
      refine (Q.out _).mono ?_
      rintro e w1 ⟨rfl, rfl⟩
      go_wp2_with fail
      refine (A.out _).mono ?_
      rintro e w1 ⟨rfl, rfl⟩
      go_wp2
      go_ret
      exact ⟨ret_int E.out.symm, KB.out⟩
    · have Q := Lib.hid fun w => QT.out w (by unfold qtyB; exact decide_eq_true (by omega))
      have A := Lib.hid fun w => AT.out w (by unfold amtB; exact decide_eq_true (by omega))
      obtain rfl := size_none h
      have z := str_none
      obtain ⟨z1, z2⟩ := str_some h7
      go_enter Tryd.func55, Tryd.ntmps55
      go_wp2_with fail
      refine (Q.out _).mono ?_
      rintro e w1 ⟨rfl, rfl⟩
      go_wp2_with fail
      refine (A.out _).mono ?_
      rintro e w1 ⟨rfl, rfl⟩
      go_wp2
      go_ret
      exact ⟨ret_int E.out.symm, KB.out⟩
end Go.Proofs.YtkffpmeocfhcpaaDoor
