/- The program's Msg of orders. -/
import Derived.Test.YtonjkgonbfimjaaDoorOdMsgM
set_option linter.unusedVariables false
namespace Go.Proofs.YtonjkgonbfimjaaDoor
open Go.ChangeShapes Go.WideShapes Go.ChangeAt Go.RowKit Bit Ky Od

theorem Keeps.setCell5 {w W : World} (h : Keeps w W) (v : Value) : Keeps w (W.setCell ⟨w.heap.size + 1, 5, none⟩ v) := Below.setCell h (p := ⟨w.heap.size + 1, 5, none⟩) (by simp) v
theorem Keeps.setCell4 {w W : World} (h : Keeps w W) (v : Value) : Keeps w (W.setCell ⟨w.heap.size + 1, 4, none⟩ v) := Below.setCell h (p := ⟨w.heap.size + 1, 4, none⟩) (by simp) v
theorem Keeps.setCell3 {w W : World} (h : Keeps w W) (v : Value) : Keeps w (W.setCell ⟨w.heap.size + 1, 3, none⟩ v) := Below.setCell h (p := ⟨w.heap.size + 1, 3, none⟩) (by simp) v
set_option maxHeartbeats 16000000 in
set_option maxRecDepth 100000 in
theorem od_msg (i : Int) (r s : ByteArray) (q a d : Int) (w : World) (hp : HasP w) (hr : r.size ≤ maxLen) (hs : s.size ≤ maxLen) :
    Calls Tryd.prog 9 #[odV i r s q a, .int .i64 d] w (MsgOut i r s q a d w) := by
  have KB := Lib.hid ((ky_box w (odBox i r s q a)).trans (ky_box (w.alloc (odBox i r s q a)) msZ))
  have CX : Hid (∀ W, Keeps ((w.alloc (odBox i r s q a)).alloc msZ) W → W.heap[w.heap.size]? = some (.cells #[.int .i64 i, .string r, .string s, .int .i64 q, .int .i64 a] tOd (0, 0)) ∧ W.heap[w.heap.size + 1]? = some (.cells #[.int .i64 0, .int .i64 0, .int .i64 0, .string ⟨#[]⟩, .int .i64 0, .int .i64 0, .int .i64 0] tMs (0, 0))) := Lib.hid fun W k => by
    have e1 := box_cells _ ((ky_box (w.alloc (odBox i r s q a)) msZ))
    have e3 := heap_alloc_new (w.alloc (odBox i r s q a)) msZ
    have hz : (w.alloc (odBox i r s q a)).heap.size = w.heap.size + 1 := by simp
    rw [hz] at e3
    have h0 : ((w.alloc (odBox i r s q a)).alloc msZ).heap.size = w.heap.size + 2 := by simp
    exact ⟨(k.block _ (by omega)).trans e1, (k.block _ (by omega)).trans e3⟩
  have HC := Lib.hid (od_check i r s q a ((w.alloc (odBox i r s q a)).alloc msZ) hr hs)
  have HP := Lib.hid (pk_party d ((w.alloc (odBox i r s q a)).alloc msZ) (hp.keeps KB.out))
  have PL : Hid (partyK d < 0 ↔ ¬ (0 ≤ d ∧ d < 6)) := Lib.hid party_lt
  obtain ⟨c, hc⟩ : ∃ c, checkO i r s q a = c := ⟨_, rfl⟩
  have HCC := Lib.hid hc
  rw [hc] at HC
  obtain ⟨p, hpp⟩ : ∃ c, partyK d = c := ⟨_, rfl⟩
  have HPP := Lib.hid hpp
  rw [hpp] at HP PL
  clear hc hp hr hs hpp
  unfold odBox msZ msBox at KB HC CX HP
  unfold odV at HC ⊢
  go_enter Tryd.func9, Tryd.ntmps9
  go_wp2_with fail
  refine HP.out.mono ?_
  rintro e w1 ⟨rfl, rfl⟩
  go_wp2_with fail
  refine HC.out.mono ?_
  rintro e w2 ⟨rfl, k⟩
  have K2 := Lib.hid (KB.out.trans k)
  obtain ⟨hb0, hb1⟩ := CX.out w2 k
  have B0 := Lib.hid hb0
  have B1 := Lib.hid hb1
  obtain ⟨⟨x0, x1, x2, x3, x4⟩, _⟩ := five_at hb0
  obtain ⟨⟨z0, z1, z2, z3, z4, z5, z6⟩, f0, f1, f2, f3, f4, f5, f6⟩ := seven_at hb1
  clear k HC HP hb0 hb1
  by_cases hc0 : c = 0 ∧ 0 ≤ p
  · obtain ⟨rfl, hp0⟩ := hc0
    have D : Hid (0 ≤ d ∧ d < 6) := Lib.hid (by have := PL.out; omega)
    by_cases hpz : p = 0
    · subst hpz
      have G : Hid (IsM i r s q a d 0 i d ⟨#[]⟩ 0 a) := Lib.hid (Or.inl ⟨HCC.out, D.out.1, D.out.2, HPP.out.symm, rfl, rfl, Or.inl ⟨HPP.out, rfl, rfl, rfl⟩⟩)
      obtain ⟨w5, hw5, k5, g5, b5⟩ := seven_new K2.out rfl B0.out B1.out (.int .i64 0) (.int .i64 i) (.int .i64 d) (.string ⟨#[]⟩) (.int .i64 0) (.int .i64 0) (.int .i64 0)
      have HW5 := Lib.hid hw5
      have K5 := Lib.hid k5
      have B5 := Lib.hid b5
      have G5 := Lib.hid g5
      clear hw5 k5 b5 g5
      go_upto_region 5 with (fail)
      rw [HW5.out]
      clear x0 x1 x2 x3 x4 z0 z1 z2 z3 z4 z5 z6 f0 f1 f2 f3 f4 f5 f6 HW5
      obtain ⟨⟨x0, x1, x2, x3, x4⟩, _⟩ := five_at G5.out
      obtain ⟨_, f0, f1, f2, f3, f4, f5, f6⟩ := seven_at B5.out
      go_upto_region 8 with (fail)
      have hb6 := Joins.block_setCell (i := 5) B5.out (.int .i64 a)
      have K6 := Lib.hid (Keeps.setCell5 K5.out (.int .i64 a))
      obtain ⟨w6, hw6⟩ : ∃ W, w5.setCell ⟨w.heap.size + 1, 5, none⟩ (.int .i64 a) = W := ⟨_, rfl⟩
      rw [hw6] at hb6 K6 ⊢
      have B6 : Hid (w6.heap[w.heap.size + 1]? = some (.cells #[.int .i64 0, .int .i64 i, .int .i64 d, .string ⟨#[]⟩, .int .i64 0, .int .i64 a, .int .i64 0] tMs (0, 0))) := Lib.hid hb6
      clear hw6 hb6 x0 x1 x2 x3 x4 f0 f1 f2 f3 f4 f5 f6
      obtain ⟨⟨z0, z1, z2, z3, z4, z5, z6⟩, f0, f1, f2, f3, f4, f5, f6⟩ := seven_at B6.out
      go_wp2
      obtain ⟨⟨e0, e1, e2, e3, e4, e5, e6⟩, _⟩ := seven_at (seven_set B6.out (.int .i64 0) (.int .i64 i) (.int .i64 d) (.string ⟨#[]⟩) (.int .i64 0) (.int .i64 a) (.int .i64 0))
      exact bodyPost_ret (v := msV 0 i d ⟨#[]⟩ 0 a 0) (by simp [results, Tryd.results9, go_sem, msV, e0, e1, e2, e3, e4, e5, e6]) rfl ⟨_, _, _, _, _, _, rfl, G.out, seven_keeps K6.out (by omega) _ _ _ _ _ _ _⟩
    · have G : Hid (IsM i r s q a d p i d s q 0) := Lib.hid (Or.inl ⟨HCC.out, D.out.1, D.out.2, HPP.out.symm, rfl, rfl, Or.inr ⟨by rw [HPP.out]; exact hpz, rfl, rfl, rfl⟩⟩)
      have t : (p == 0) = false := by rw [beq_eq_false_iff_ne]; exact hpz
      obtain ⟨w5, hw5, k5, g5, b5⟩ := seven_new K2.out rfl B0.out B1.out (.int .i64 p) (.int .i64 i) (.int .i64 d) (.string ⟨#[]⟩) (.int .i64 0) (.int .i64 0) (.int .i64 0)
      have HW5 := Lib.hid hw5
      have K5 := Lib.hid k5
      have B5 := Lib.hid b5
      have G5 := Lib.hid g5
      clear hw5 k5 b5 g5 hpz
      go_upto_region 5 with (fail)
      rw [HW5.out]
      clear x0 x1 x2 x3 x4 z0 z1 z2 z3 z4 z5 z6 f0 f1 f2 f3 f4 f5 f6 HW5
      obtain ⟨⟨x0, x1, x2, x3, x4⟩, _⟩ := five_at G5.out
      obtain ⟨_, f0, f1, f2, f3, f4, f5, f6⟩ := seven_at B5.out
      go_upto_region 7 with (fail)
      go_region
      go_upto_region 8 with (fail)
      have hb6 := Joins.block_setCell (i := 4) (Joins.block_setCell (i := 3) B5.out (.string s)) (.int .i64 q)
      have K6 := Lib.hid ((Keeps.setCell4 (Keeps.setCell3 K5.out (.string s)) (.int .i64 q)).trans (ky_drew _))
      obtain ⟨w6, hw6⟩ : ∃ W, ((w5.setCell ⟨w.heap.size + 1, 3, none⟩ (.string s)).setCell ⟨w.heap.size + 1, 4, none⟩ (.int .i64 q)).drew = W := ⟨_, rfl⟩
      have B6 : Hid (w6.heap[w.heap.size + 1]? = some (.cells #[.int .i64 p, .int .i64 i, .int .i64 d, .string s, .int .i64 q, .int .i64 0, .int .i64 0] tMs (0, 0))) := Lib.hid (by rw [← hw6]; exact hb6)
      rw [hw6] at K6 ⊢
      clear hw6 hb6 x0 x1 x2 x3 x4 f0 f1 f2 f3 f4 f5 f6
      obtain ⟨⟨z0, z1, z2, z3, z4, z5, z6⟩, f0, f1, f2, f3, f4, f5, f6⟩ := seven_at B6.out
      go_wp2
      obtain ⟨⟨e0, e1, e2, e3, e4, e5, e6⟩, _⟩ := seven_at (seven_set B6.out (.int .i64 p) (.int .i64 i) (.int .i64 d) (.string s) (.int .i64 q) (.int .i64 0) (.int .i64 0))
      exact bodyPost_ret (v := msV p i d s q 0 0) (by simp [results, Tryd.results9, go_sem, msV, e0, e1, e2, e3, e4, e5, e6]) rfl ⟨_, _, _, _, _, _, rfl, G.out, seven_keeps K6.out (by omega) _ _ _ _ _ _ _⟩
  · have G : Hid (IsM i r s q a d 0 0 0 ⟨#[]⟩ 0 0) := Lib.hid (Or.inr ⟨by rw [HCC.out]; have := PL.out; omega, rfl, rfl, rfl, rfl, rfl, rfl⟩)
    rcases (show c ≠ 0 ∨ (c = 0 ∧ p < 0) from by omega) with hc1 | ⟨rfl, hp1⟩
    · have t : (c == 0) = false := by rw [beq_eq_false_iff_ne]; exact hc1
      have t2 : (c != 0) = true := by rw [bne, t]; rfl
      clear hc0 hc1
      go_wp2
      obtain ⟨⟨e0, e1, e2, e3, e4, e5, e6⟩, _⟩ := seven_at (seven_set B1.out (.int .i64 0) (.int .i64 0) (.int .i64 0) (.string ⟨#[]⟩) (.int .i64 0) (.int .i64 0) (.int .i64 0))
      exact bodyPost_ret (v := msV 0 0 0 ⟨#[]⟩ 0 0 0) (by simp [results, Tryd.results9, go_sem, msV, e0, e1, e2, e3, e4, e5, e6]) rfl ⟨_, _, _, _, _, _, rfl, G.out, seven_keeps K2.out (by omega) _ _ _ _ _ _ _⟩
    · clear hc0
      go_wp2
      obtain ⟨⟨e0, e1, e2, e3, e4, e5, e6⟩, _⟩ := seven_at (seven_set B1.out (.int .i64 0) (.int .i64 0) (.int .i64 0) (.string ⟨#[]⟩) (.int .i64 0) (.int .i64 0) (.int .i64 0))
      exact bodyPost_ret (v := msV 0 0 0 ⟨#[]⟩ 0 0 0) (by simp [results, Tryd.results9, go_sem, msV, e0, e1, e2, e3, e4, e5, e6]) rfl ⟨_, _, _, _, _, _, rfl, G.out, seven_keeps K2.out (by omega) _ _ _ _ _ _ _⟩
end Go.Proofs.YtonjkgonbfimjaaDoor
