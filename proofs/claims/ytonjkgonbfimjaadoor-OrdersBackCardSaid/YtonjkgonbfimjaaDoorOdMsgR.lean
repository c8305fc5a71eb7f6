/- The document's Msg of orders. -/
import Derived.Test.YtonjkgonbfimjaaDoorOdMsgC
import Derived.Deep.RegionWith
import Derived.StillTailTactics
set_option linter.unusedVariables false
namespace Go.Proofs.YtonjkgonbfimjaaDoor
open Go.ChangeShapes Go.WideShapes Go.ChangeAt Go.RowKit Bit Ky Od

set_option maxHeartbeats 16000000 in
set_option maxRecDepth 100000 in
theorem or_msg (i : Int) (r s : ByteArray) (q a d : Int) (w : World) (hr : r.size ≤ maxLen) (hs : s.size ≤ maxLen) :
    Calls Tryd.prog 10 #[odV i r s q a, .int .i64 d] w (MsgOut i r s q a d w) := by
  have KB := Lib.hid ((ky_box w (odBox i r s q a)).trans (ky_box (w.alloc (odBox i r s q a)) msZ))
  have CX : Hid (∀ W, Keeps ((w.alloc (odBox i r s q a)).alloc msZ) W → W.heap[w.heap.size]? = some (.cells #[.int .i64 i, .string r, .string s, .int .i64 q, .int .i64 a] tOd (0, 0)) ∧ W.heap[w.heap.size + 1]? = some (.cells #[.int .i64 0, .int .i64 0, .int .i64 0, .string ⟨#[]⟩, .int .i64 0, .int .i64 0, .int .i64 0] tMs (0, 0))) := Lib.hid fun W k => by
    have e1 := box_cells _ ((ky_box (w.alloc (odBox i r s q a)) msZ))
    have e3 := heap_alloc_new (w.alloc (odBox i r s q a)) msZ
    have hz : (w.alloc (odBox i r s q a)).heap.size = w.heap.size + 1 := by simp
    rw [hz] at e3
    have h0 : ((w.alloc (odBox i r s q a)).alloc msZ).heap.size = w.heap.size + 2 := by simp
    exact ⟨(k.block _ (by omega)).trans e1, (k.block _ (by omega)).trans e3⟩
  have HC := Lib.hid (or_check i r s q a ((w.alloc (odBox i r s q a)).alloc msZ) hr hs)
  have HP := Lib.hid fun W => kr_party d W
  have PL : Hid (partyK d < 0 ↔ ¬ (0 ≤ d ∧ d < 6)) := Lib.hid party_lt
  obtain ⟨c, hc⟩ : ∃ c, checkO i r s q a = c := ⟨_, rfl⟩
  have HCC := Lib.hid hc
  rw [hc] at HC
  obtain ⟨p, hpp⟩ : ∃ c, partyK d = c := ⟨_, rfl⟩
  have HPP := Lib.hid hpp
  rw [hpp] at HP PL
  clear hc hr hs hpp
  unfold odBox msZ msBox at KB HC CX
  unfold odV at HC ⊢
  go_enter Tryd.func10, Tryd.ntmps10
  go_wp2_with fail
  refine HC.out.mono ?_
  rintro e w2 ⟨rfl, k⟩
  have K2 := Lib.hid (KB.out.trans k)
  obtain ⟨hb0, hb1⟩ := CX.out w2 k
  have B0 := Lib.hid hb0
  have B1 := Lib.hid hb1
  obtain ⟨⟨x0, x1, x2, x3, x4⟩, _⟩ := five_at hb0
  obtain ⟨⟨z0, z1, z2, z3, z4, z5, z6⟩, f0, f1, f2, f3, f4, f5, f6⟩ := seven_at hb1
  clear k HC hb0 hb1
  by_cases hc0 : c = 0
  · subst hc0
    go_wp2_with fail
    refine (HP.out _).mono ?_
    rintro e w3 ⟨rfl, rfl⟩
    by_cases hp0 : 0 ≤ p
    · have D : Hid (0 ≤ d ∧ d < 6) := Lib.hid (by have := PL.out; omega)
      by_cases hpz : p = 0
      · subst hpz
        have G : Hid (IsM i r s q a d 0 i d ⟨#[]⟩ 0 a) := Lib.hid (Or.inl ⟨HCC.out, D.out.1, D.out.2, HPP.out.symm, rfl, rfl, Or.inl ⟨HPP.out, rfl, rfl, rfl⟩⟩)
        go_wp2_with fail
        refine (HP.out _).mono ?_
        rintro e w3 ⟨rfl, rfl⟩
        go_wp2
        obtain ⟨⟨e0, e1, e2, e3, e4, e5, e6⟩, _⟩ := seven_at (seven_set B1.out (.int .i64 0) (.int .i64 i) (.int .i64 d) (.string ⟨#[]⟩) (.int .i64 0) (.int .i64 a) (.int .i64 0))
        exact bodyPost_ret (v := msV 0 i d ⟨#[]⟩ 0 a 0) (by simp [results, Tryd.results10, go_sem, msV, e0, e1, e2, e3, e4, e5, e6]) rfl ⟨_, _, _, _, _, _, rfl, G.out, seven_keeps K2.out (by omega) _ _ _ _ _ _ _⟩
      · have G : Hid (IsM i r s q a d p i d s q 0) := Lib.hid (Or.inl ⟨HCC.out, D.out.1, D.out.2, HPP.out.symm, rfl, rfl, Or.inr ⟨by rw [HPP.out]; exact hpz, rfl, rfl, rfl⟩⟩)
        have t : (p == 0) = false := by rw [beq_eq_false_iff_ne]; exact hpz
        clear hpz
        go_wp2_with fail
        refine (HP.out _).mono ?_
        rintro e w3 ⟨rfl, rfl⟩
        go_upto_region 5 with (fail)
        refine wp_region_still_tail 11 (by kernel_rfl) (by kernel_rfl) ?_
        generalize hq : ({ w2 with drawn := w2.drawn + 1 } : World) = wq
        have hq2 : w2.drew = wq := hq
        have KQ : Hid (Keeps w wq) := Lib.hid (hq2 ▸ K2.out.trans (ky_drew _))
        have Q0 : Hid (wq.heap[w.heap.size]? = some (.cells #[.int .i64 i, .string r, .string s, .int .i64 q, .int .i64 a] tOd (0, 0))) := Lib.hid (hq2 ▸ B0.out)
        have Q1 : Hid (wq.heap[w.heap.size + 1]? = some (.cells #[.int .i64 0, .int .i64 0, .int .i64 0, .string ⟨#[]⟩, .int .i64 0, .int .i64 0, .int .i64 0] tMs (0, 0))) := Lib.hid (hq2 ▸ B1.out)
        clear hq hq2 x0 x1 x2 x3 x4 z0 z1 z2 z3 z4 z5 z6 f0 f1 f2 f3 f4 f5 f6
        obtain ⟨⟨x0, x1, x2, x3, x4⟩, _⟩ := five_at Q0.out
        obtain ⟨⟨z0, z1, z2, z3, z4, z5, z6⟩, f0, f1, f2, f3, f4, f5, f6⟩ := seven_at Q1.out
        have ST := Lib.hid fun W => HP.out W
        simp only [List.take_succ_cons, List.take_zero, List.drop_succ_cons, List.drop_zero]
        repeat (refine wpStill_step (fun K hK => ?_); go_simp; first
          | (refine hK _ ?_; clear hK K)
          | (refine ⟨_, ((HP.out _).mono fun _ _ h => ⟨h.1, h.2.symm⟩), hK _ ?_⟩; clear hK K))
        try refine wpStill_nil ?_
        go_wp2
        obtain ⟨⟨e0, e1, e2, e3, e4, e5, e6⟩, _⟩ := seven_at (seven_set Q1.out (.int .i64 p) (.int .i64 i) (.int .i64 d) (.string s) (.int .i64 q) (.int .i64 0) (.int .i64 0))
        exact bodyPost_ret (v := msV p i d s q 0 0) (by simp [results, Tryd.results10, go_sem, msV, e0, e1, e2, e3, e4, e5, e6]) rfl ⟨_, _, _, _, _, _, rfl, G.out, seven_keeps KQ.out (by omega) _ _ _ _ _ _ _⟩
    · have G : Hid (IsM i r s q a d 0 0 0 ⟨#[]⟩ 0 0) := Lib.hid (Or.inr ⟨by rw [HCC.out]; have := PL.out; omega, rfl, rfl, rfl, rfl, rfl, rfl⟩)
      go_wp2
      obtain ⟨⟨e0, e1, e2, e3, e4, e5, e6⟩, _⟩ := seven_at (seven_set B1.out (.int .i64 0) (.int .i64 0) (.int .i64 0) (.string ⟨#[]⟩) (.int .i64 0) (.int .i64 0) (.int .i64 0))
      exact bodyPost_ret (v := msV 0 0 0 ⟨#[]⟩ 0 0 0) (by simp [results, Tryd.results10, go_sem, msV, e0, e1, e2, e3, e4, e5, e6]) rfl ⟨_, _, _, _, _, _, rfl, G.out, seven_keeps K2.out (by omega) _ _ _ _ _ _ _⟩
  · have G : Hid (IsM i r s q a d 0 0 0 ⟨#[]⟩ 0 0) := Lib.hid (Or.inr ⟨by rw [HCC.out]; intro h; exact hc0 h.1, rfl, rfl, rfl, rfl, rfl, rfl⟩)
    have t : (c == 0) = false := by rw [beq_eq_false_iff_ne]; exact hc0
    have t2 : (c != 0) = true := by rw [bne, t]; rfl
    clear hc0
    go_wp2
    obtain ⟨⟨e0, e1, e2, e3, e4, e5, e6⟩, _⟩ := seven_at (seven_set B1.out (.int .i64 0) (.int .i64 0) (.int .i64 0) (.string ⟨#[]⟩) (.int .i64 0) (.int .i64 0) (.int .i64 0))
    exact bodyPost_ret (v := msV 0 0 0 ⟨#[]⟩ 0 0 0) (by simp [results, Tryd.results10, go_sem, msV, e0, e1, e2, e3, e4, e5, e6]) rfl ⟨_, _, _, _, _, _, rfl, G.out, seven_keeps K2.out (by omega) _ _ _ _ _ _ _⟩
end Go.Proofs.YtonjkgonbfimjaaDoor
