
/- SettlePrint: the walk. -/
import Derived.Test.YtjmaldikpdlngaaDoorSeL1
import Derived.Test.YtjmaldikpdlngaaDoorStRefP
set_option linter.unusedVariables false
namespace Go.Proofs.YtjmaldikpdlngaaDoor
open Go.ChangeShapes Go.WideShapes Go.ChangeAt Go.RowKit Ky Rw Stl

theorem same_self (p s : Int) (L : List R) : sameB p s p s L L = true := by unfold sameB; simp
/-- A statement in a box of the law's own. -/
theorem st_box (w : World) (p s : Int) (v : Value) : ∀ W, Keeps (w.alloc (stBox p s v)) W → W.heap[w.heap.size]? = some (.cells #[.int .i64 p, .int .i64 s, v] tSt (0, 0)) := fun W k => (k.block _ (by simp)).trans (heap_alloc_new w (stBox p s v))
set_option maxHeartbeats 16000000 in
set_option maxRecDepth 100000 in
theorem settlePrint_go (p s : Int) (v : Value) (L : List R) (w : World) (hp : HasP w) (hl : RowsIn w v L) :
    Calls Tryd.prog 3 #[stV p s v] w fun e w' => e = .returned (.bool true) ∧ Keeps w w' := by
  have I1 := Lib.hid hl
  obtain ⟨q, c, rfl, hmx, _, _⟩ := hl
  obtain ⟨N, hN⟩ : ∃ N, L.length = N := ⟨_, rfl⟩
  have HN := Lib.hid hN
  rw [hN] at hmx I1 ⊢
  clear hN
  have KB := Lib.hid (ky_box w (stBox p s (.slice q N c)))
  have SB := Lib.hid (st_box w p s (.slice q N c))
  have IB := Lib.hid (I1.out.keeps KB.out)
  have HP : Hid (∀ W, Keeps w W → HasP W) := Lib.hid fun W k => hp.keeps k
  have HS : Hid (∀ W, Keeps w W → Calls Tryd.prog 8 #[] W fun e w' => e = .returned (.bool true) ∧ Keeps W w') := Lib.hid fun W k => sl_settled W (hp.keeps k)
  unfold maxLen at hmx
  unfold stV
  unfold stBox at KB SB IB
  clear hp
  obtain ⟨x0, x1, x2⟩ := (three_atG (SB.out _ (Keeps.refl _))).1
  by_cases hbig : N ≤ 420
  rotate_left
  · go_enter Tryd.func3, Tryd.ntmps3
    go_wp2_with fail
    refine (HS.out _ KB.out).mono ?_
    rintro e w1 ⟨rfl, k1⟩
    go_wp2
    go_ret
    exact ⟨rfl, KB.out.trans k1⟩
  obtain ⟨w1, hw1⟩ : ∃ W, w.alloc (.cells #[.int .i64 p, .int .i64 s, .slice q N c] tSt) = W := ⟨_, rfl⟩
  have z1 : w1.heap.size = w.heap.size + 1 := by rw [← hw1]; simp
  have KC := Lib.hid (ky_box w1 (stBox p s (.slice q N c)))
  have SC := Lib.hid (st_box w1 p s (.slice q N c))
  unfold stBox at KC SC
  rw [hw1] at KB SB IB x0 x1 x2
  obtain ⟨qo, co, w3, R1, R2, R3⟩ := rowK.copy_row (w1.alloc (.cells #[.int .i64 p, .int .i64 s, .slice q N c] tSt)) (.slice q N c) L (IB.out.keeps KC.out).src (by rw [HN.out]; omega)
  rw [HN.out] at R1 R2
  have HR : Hid ((Builtin.append_ #[tRs, tRs] tRs #[.slice none 0 0, .slice q N c]).run Tryd.prog (w1.alloc (.cells #[.int .i64 p, .int .i64 s, .slice q N c] tSt)) = .ok (.slice qo N co) w3) := Lib.hid R1
  have hc3 := SC.out w3 R3
  rw [z1] at hc3
  have hs3 := SB.out w3 (Keeps.trans KC.out R3)
  obtain ⟨⟨_, _, y2⟩, _, _, g2⟩ := three_atG hc3
  have HC4 := Lib.hid (Joins.block_setCell (i := 2) hc3 (.slice qo N co))
  have HS4 := Lib.hid ((Below.heap_setCell w3 ⟨w.heap.size + 1, 2, none⟩ (.slice qo N co) w.heap.size (show w.heap.size ≠ w.heap.size + 1 by omega)).trans hs3)
  have K4 : Hid (Keeps w1 (w3.setCell ⟨w.heap.size + 1, 2, none⟩ (.slice qo N co))) := Lib.hid ((Keeps.trans KC.out R3).setCell (p := ⟨w.heap.size + 1, 2, none⟩) (by show w1.heap.size ≤ w.heap.size + 1; omega) _)
  have O4 : Hid (RowsIn (w3.setCell ⟨w.heap.size + 1, 2, none⟩ (.slice qo N co)) (.slice qo N co) L) := Lib.hid (own_rows (own_set R2 (by simp; omega) _) (by rw [HN.out]; omega))
  obtain ⟨X, hX⟩ : ∃ X, prtS p s L = X := ⟨_, rfl⟩
  obtain ⟨cc, hcc⟩ : ∃ X, prtC p s L = X := ⟨_, rfl⟩
  clear R1 R2 R3 hc3 hs3
  go_enter Tryd.func3, Tryd.ntmps3
  go_upto_region 4 with (fail)
  clear x0 x1 x2
  obtain ⟨x0, x1, x2⟩ := (three_atG ((KC.out.block _ (by omega)).trans (SB.out w1 (Keeps.refl _)))).1
  go_upto_region 5 with (at_builtin; refine wpAppKnown rfl _ _ _ _ rfl _ _ _ _ rfl rfl HR.out ?_)
  clear x0 x1 x2 y2 g2
  obtain ⟨w4, hw4⟩ : ∃ W, w3.setCell ⟨w.heap.size + 1, 2, none⟩ (.slice qo N co) = W := ⟨_, rfl⟩
  rw [hw4] at HC4 HS4 K4 O4 ⊢
  clear hw4 hw1
  obtain ⟨y0, y1, y2⟩ := (three_atG (show w4.heap[w.heap.size + 1]? = some (.cells #[.int .i64 p, .int .i64 s, .slice qo N co] tSt (0, 0)) from HC4.out)).1
  have C1 : Hid (Calls Tryd.prog 9 #[stV p s (.slice qo N co)] w4 fun e w' => e = .returned (.tuple #[.string X, .int .i64 cc]) ∧ Keeps w4 w') := Lib.hid (by rw [← hX, ← hcc]; exact se_print p s _ L w4 O4.out (HP.out _ (Keeps.trans KB.out K4.out)))
  have C2 : Hid (∀ W, Keeps w4 W → Calls Tryd.prog 10 #[stV p s (.slice q N c)] W fun e w' => e = .returned (.tuple #[.string X, .int .i64 cc]) ∧ Keeps W w') := Lib.hid fun W k => by rw [← hX, ← hcc]; exact sr_print p s _ L W (IB.out.keeps (Keeps.trans K4.out k))
  have C3 : Hid (∀ W, Keeps w4 W → Calls Tryd.prog 11 #[stV p s (.slice q N c), stV p s (.slice qo N co)] W fun e w' => e = .returned (.bool true) ∧ Keeps W w') := Lib.hid fun W k => by
    have := rr_same p s p s (.slice q N c) (.slice qo N co) L L W (IB.out.keeps (Keeps.trans K4.out k)) (O4.out.keeps k)
    rwa [same_self] at this
  unfold stV at C1 C2 C3
  clear hX hcc
  go_wp2_with fail
  refine C1.out.mono ?_
  rintro e w5 ⟨rfl, k5⟩
  have K5 := Lib.hid k5
  obtain ⟨x0, x1, x2⟩ := (three_atG ((k5.block _ (Array.getElem?_eq_some_iff.1 HS4.out).1).trans HS4.out)).1
  clear k5 C1 y0 y1 y2
  go_wp2_with fail
  refine (C2.out _ K5.out).mono ?_
  rintro e w6 ⟨rfl, k6⟩
  have K6 := Lib.hid (Keeps.trans K5.out k6)
  clear k6 C2 x0 x1 x2
  obtain ⟨x0, x1, x2⟩ := (three_atG ((K6.out.block _ (Array.getElem?_eq_some_iff.1 HS4.out).1).trans HS4.out)).1
  obtain ⟨y0, y1, y2⟩ := (three_atG ((K6.out.block _ (Array.getElem?_eq_some_iff.1 HC4.out).1).trans (show w4.heap[w.heap.size + 1]? = some (.cells #[.int .i64 p, .int .i64 s, .slice qo N co] tSt (0, 0)) from HC4.out))).1
  go_wp2_with fail
  refine (C3.out _ K6.out).mono ?_
  rintro e w7 ⟨rfl, k7⟩
  have K7 := Lib.hid (Keeps.trans KB.out (Keeps.trans K4.out (Keeps.trans K6.out k7)))
  clear k7 C3 x0 x1 x2 y0 y1 y2
  go_wp2_with fail
  refine (HS.out _ K7.out).mono ?_
  rintro e w8 ⟨rfl, k8⟩
  go_wp2
  go_ret
  exact ⟨rfl, Keeps.trans K7.out k8⟩
end Go.Proofs.YtjmaldikpdlngaaDoor
