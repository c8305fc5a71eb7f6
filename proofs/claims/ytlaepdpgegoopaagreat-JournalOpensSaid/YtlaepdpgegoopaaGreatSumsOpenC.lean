
/- The contracts of sums.Seal, Open. -/
import Derived.Test.YtlaepdpgegoopaaGreatSumsC
set_option linter.unusedVariables false
namespace Go.Proofs.YtlaepdpgegoopaaGreat
open Go.ChangeShapes Go.WideShapes Go.ChangeAt Go.RowKit Bit Crc

theorem data_eq (s : ByteArray) (l : List UInt8) (h : s.data.toList = l) : s = ⟨l.toArray⟩ := by rw [← h]
theorem app_mk (s : ByteArray) (l : List UInt8) : s ++ ⟨l.toArray⟩ = ⟨(s.data.toList ++ l).toArray⟩ := by
  rw [← mk_data s, ByteArray.mk_append_mk]

set_option maxRecDepth 100000 in
set_option maxHeartbeats 400000 in
theorem seal_any (s : ByteArray) (w : World) (hs : s.size ≤ 4294967296) :
    Calls Tryz.prog 67 #[.string s] w fun e w' => e = .returned (.string ⟨(sealL s.data.toList).toArray⟩) ∧ Keeps w w' := by
  have S := Lib.hid (show s.size ≤ maxLen by unfold maxLen; omega)
  have hl : (⟨(le4 (sumN s.data.toList)).toArray⟩ : ByteArray).size ≤ 4 := by rw [size_mk]; exact Nat.le_refl 4
  go_enter Tryz.func67, Tryz.ntmps67
  go_wp2_with (go_at_call 86; refine (tail_any _ _ S.out).mono ?_; rintro e w' ⟨rfl, hk⟩)
  go_ret
  exact ⟨ret_str (by rw [app_mk, sealL]), hk⟩

theorem front_data (s : ByteArray) : (s.extract 0 (s.size - 4)).data.toList = frontL s.data.toList := by
  have := extract_list s 0 (s.size - 4)
  rw [ByteArray.toList_eq] at this
  rw [this, frontL, len_data]; simp
theorem end_data (s : ByteArray) : (s.extract (s.size - 4) s.size).toList = s.data.toList.drop (s.data.toList.length - 4) := by
  have := extract_list s (s.size - 4) s.size
  rw [this, len_data, List.take_of_length_le (by simp)]
theorem op_dec (l : List UInt8) (h : 4 ≤ l.length) : opB l = (le4 (sumN (frontL l)) == l.drop (l.length - 4)) := by
  unfold opB
  rw [decide_eq_true h, Bool.true_and, Bool.eq_iff_iff, beq_iff_eq, beq_iff_eq]
  have e : l = frontL l ++ l.drop (l.length - 4) := (List.take_append_drop _ _).symm
  constructor
  · intro g
    rw [sealL] at g
    have g2 : frontL l ++ le4 (sumN (frontL l)) = frontL l ++ l.drop (l.length - 4) := g.trans e
    exact List.append_cancel_left g2
  · intro g
    rw [sealL, g, ← e]

set_option maxRecDepth 100000 in
set_option maxHeartbeats 1000000 in
theorem open_any (s : ByteArray) (w : World) (hs : s.size ≤ maxLen) :
    Calls Tryz.prog 108 #[.string s] w fun e w' => e = .returned (.tuple #[.string ⟨(opT s.data.toList).toArray⟩, .bool (opB s.data.toList)]) ∧ Keeps w w' := by
  by_cases h4 : s.size < 4
  · have H := Lib.hid (show opB s.data.toList = false from by unfold opB; rw [decide_eq_false (by rw [len_data]; omega)]; rfl)
    go_enter Tryz.func108, Tryz.ntmps108
    go_wp2
    go_ret2
    exact ⟨ret_str_bool (by rw [op_no H.out]) H.out.symm, Keeps.refl _⟩
  have hx1 : 0 ≤ (s.size : Int) - 4 := by omega
  have hx2 : ((s.size : Int) - 4).toNat = s.size - 4 := by omega
  have T := Lib.hid (show (s.extract 0 (s.size - 4)).size ≤ maxLen from by rw [ByteArray.size_extract]; omega)
  have F := Lib.hid (front_data s)
  have G := Lib.hid (op_dec s.data.toList (by rw [len_data]; omega))
  have E := Lib.hid (end_data s)
  have hx3 : (s.extract 0 (s.size - 4)).size = s.size - 4 := by rw [ByteArray.size_extract]; omega
  unfold maxLen at hs
  cases ht : (le4 (sumN (frontL s.data.toList)) == (s.extract (s.size - 4) s.size).toList)
  · have H := Lib.hid (show opB s.data.toList = false from by rw [G.out, ← E.out, ht])
    go_enter Tryz.func108, Tryz.ntmps108
    go_wp2_with (go_region_with (go_at_call 86; refine (tail_any _ _ T.out).mono ?_; rw [F.out]; rintro e w' ⟨rfl, hk⟩))
    all_goals
      go_ret2
      refine ⟨ret_str_bool (by rw [op_no H.out]) H.out.symm, ?_⟩
      first | exact Keeps.trans ((Below.refl _ _).drew) hk | exact hk.drew
  · have H := Lib.hid (show opB s.data.toList = true from by rw [G.out, ← E.out, ht])
    go_enter Tryz.func108, Tryz.ntmps108
    go_wp2_with (go_region_with (go_at_call 86; refine (tail_any _ _ T.out).mono ?_; rw [F.out]; rintro e w' ⟨rfl, hk⟩))
    all_goals
      go_ret2
      refine ⟨ret_str_bool (by rw [op_yes H.out]; exact data_eq _ _ F.out) H.out.symm, ?_⟩
      first | exact Keeps.trans ((Below.refl _ _).drew) hk | exact hk.drew
end Go.Proofs.YtlaepdpgegoopaaGreat
