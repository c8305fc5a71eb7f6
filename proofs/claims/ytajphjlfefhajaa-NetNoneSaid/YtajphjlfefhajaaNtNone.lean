/- A net that is none: NetNone. -/
import Derived.Test.YtajphjlfefhajaaNtC4
import Derived.Test.YtajphjlfefhajaaNtMail
import Derived.Test.YtajphjlfefhajaaNtOpen
set_option linter.unusedVariables false
set_option linter.unusedSimpArgs false
namespace Go.Proofs.Ytajphjlfefhajaa
open Go.ChangeShapes Go.WideShapes Go.ChangeAt Go.RowKit Csv Ky
namespace Nt
/-- A net that is nil, or that New did not make. -/
def NoneN (W : World) (v : Value) : Prop := v = .pointer none ∨ ∃ b, v = .pointer (some ⟨b, 0, none⟩) ∧ W.heap[b]? = some (.cells #[.bool false, .slice none 0 0] tNt (0, 0))
theorem NoneN.keeps {W W' : World} {v : Value} (h : NoneN W v) (k : Keeps W W') : NoneN W' v := by
  rcases h with rfl | ⟨b, rfl, h⟩
  · exact Or.inl rfl
  · exact Or.inr ⟨b, rfl, box_keep h k⟩
theorem zn_none {W : World} {v : Value} (h : NoneN W v) : Calls Try.prog 20 #[v] W fun e w' => e = .returned (.bool true) ∧ w' = W := by
  rcases h with rfl | ⟨b, rfl, h⟩
  · exact pn_none_nil W
  · exact pn_none_box b false _ W h
theorem zn_has {W : World} {v : Value} (h : NoneN W v) (i : Int) : Calls Try.prog 27 #[v, .int .i64 i] W fun e w' => e = .returned (.bool false) ∧ w' = W := by
  have CN := Lib.hid (zn_none h)
  clear h
  go_enter Try.func27, Try.ntmps27
  go_wp2_with fail
  refine CN.out.mono ?_
  rintro e w2 ⟨rfl, h2⟩
  obtain rfl : W = w2 := h2.symm
  go_wp2
  go_ret
  exact ⟨rfl, rfl⟩
theorem zn_send {W : World} {v : Value} (h : NoneN W v) (m : Mg) : Calls Try.prog 16 #[v, mgV m] W fun e w' => e = .returned (.bool false) ∧ Keeps W w' := by
  obtain ⟨w1, hw1⟩ : ∃ w1, W.alloc (mgBox m) = w1 := ⟨_, rfl⟩
  have K1 : Hid (Keeps W w1) := Lib.hid (hw1 ▸ nbox _ _)
  have CN := Lib.hid (zn_none (h.keeps K1.out))
  have EW1 := Lib.hid hw1
  clear h hw1
  unfold mgBox at EW1
  unfold mgV
  go_enter Try.func16, Try.ntmps16
  go_upto_region 1 with (fail)
  rw [EW1.out]
  clear EW1
  go_wp2_with fail
  refine CN.out.mono ?_
  rintro e w2 ⟨rfl, h2⟩
  obtain rfl : w1 = w2 := h2.symm
  go_wp2
  go_ret
  exact ⟨rfl, K1.out⟩
theorem zn_mail {W : World} {v : Value} (h : NoneN W v) : Calls Try.prog 14 #[v] W fun e w' => e = .returned (.slice none 0 0) ∧ w' = W := by
  have CN := Lib.hid (zn_none h)
  clear h
  go_enter Try.func14, Try.ntmps14
  go_wp2_with fail
  refine CN.out.mono ?_
  rintro e w2 ⟨rfl, h2⟩
  obtain rfl : W = w2 := h2.symm
  go_wp2
  go_ret
  exact ⟨rfl, rfl⟩
theorem zn_copy {W : World} {v : Value} (h : NoneN W v) : Calls Try.prog 10 #[v] W fun e w' => e = .returned (.pointer none) ∧ w' = W := by
  have CN := Lib.hid (zn_none h)
  clear h
  go_enter Try.func10, Try.ntmps10
  go_wp2_with fail
  refine CN.out.mono ?_
  rintro e w2 ⟨rfl, h2⟩
  obtain rfl : W = w2 := h2.symm
  go_wp2
  go_ret
  exact ⟨rfl, rfl⟩
set_option maxRecDepth 100000 in
theorem zn_deliver {W : World} {v : Value} (h : NoneN W v) (i : Int) : Calls Try.prog 15 #[v, .int .i64 i] W fun e w' => e = .returned (.tuple #[.agg #[.int .i64 0, .int .i64 0, .int .i64 0, .string ⟨#[]⟩, .int .i64 0, .int .i64 0, .int .i64 0], .bool false]) ∧ Keeps W w' := by
  obtain ⟨w1, hw1⟩ : ∃ w1, W.alloc zeBox = w1 := ⟨_, rfl⟩
  have K1 : Hid (Keeps W w1) := Lib.hid (hw1 ▸ nbox _ _)
  have B1 : Hid (w1.heap[W.heap.size]? = some zeBox) := Lib.hid (hw1 ▸ heap_alloc_new _ _)
  have CN := Lib.hid (zn_has (h.keeps K1.out) i)
  have EW1 := Lib.hid hw1
  clear h hw1
  unfold zeBox at EW1
  obtain ⟨⟨v0, v1, v2, v3, v4, v5, v6⟩, f0, f1, f2, f3, f4, f5, f6⟩ := ze_box_cells B1.out
  go_enter Try.func15, Try.ntmps15
  go_upto_region 1 with (fail)
  rw [EW1.out]
  clear EW1
  go_wp2_with fail
  refine CN.out.mono ?_
  rintro e w2 ⟨rfl, h2⟩
  obtain rfl : w1 = w2 := h2.symm
  go_wp2
  refine bodyPost_ret (v := .tuple #[.agg #[.int .i64 0, .int .i64 0, .int .i64 0, .string ⟨#[]⟩, .int .i64 0, .int .i64 0, .int .i64 0], .bool false]) (by simp [results, Try.results15, go_sem, v0, v1, v2, v3, v4, v5, v6]) rfl ?_
  exact ⟨rfl, Only.keeps (seven_only w1 W.heap.size (.int .i64 0) (.int .i64 0) (.int .i64 0) (.string ⟨#[]⟩) (.int .i64 0) (.int .i64 0) (.int .i64 0)) K1.out (fun j hj => by omega)⟩
theorem zn_drop {W : World} {v : Value} (h : NoneN W v) (i : Int) : Calls Try.prog 17 #[v, .int .i64 i] W fun e w' => e = .returned (.bool false) ∧ Keeps W w' := by
  have CD := Lib.hid (zn_deliver h i)
  clear h
  go_enter Try.func17, Try.ntmps17
  go_wp2_with fail
  refine CD.out.mono ?_
  rintro e w2 ⟨rfl, hg⟩
  have HG := Lib.hid hg
  clear hg
  go_wp2
  go_ret
  exact ⟨rfl, HG.out.trans (nbox _ _)⟩
theorem zn_double {W : World} {v : Value} (h : NoneN W v) (i : Int) : Calls Try.prog 18 #[v, .int .i64 i] W fun e w' => e = .returned (.bool false) ∧ w' = W := by
  have CN := Lib.hid (zn_has h i)
  clear h
  go_enter Try.func18, Try.ntmps18
  go_wp2_with fail
  refine CN.out.mono ?_
  rintro e w2 ⟨rfl, h2⟩
  obtain rfl : W = w2 := h2.symm
  go_wp2
  go_ret
  exact ⟨rfl, rfl⟩
theorem zn_turn {W : World} {v : Value} (h : NoneN W v) (i k : Int) : Calls Try.prog 19 #[v, .int .i64 i, .int .i64 k] W fun e w' => e = .returned (.bool false) ∧ w' = W := by
  have CN := Lib.hid (zn_has h i)
  clear h
  go_enter Try.func19, Try.ntmps19
  go_wp2_with fail
  refine CN.out.mono ?_
  rintro e w2 ⟨rfl, h2⟩
  obtain rfl : W = w2 := h2.symm
  go_wp2
  go_ret
  exact ⟨rfl, rfl⟩
set_option maxHeartbeats 8000000 in
set_option maxRecDepth 100000 in
theorem netNone_go (x : Ac) (W : World) (hx : AcOk x) (ht : True) :
    Calls Try.prog 4 #[acV x] W fun e w' => e = .returned (.bool true) ∧ Keeps W w' := by
  obtain ⟨w1, hw1⟩ : ∃ w1, W.alloc (acBox x) = w1 := ⟨_, rfl⟩
  have K1 : Hid (Keeps W w1) := Lib.hid (hw1 ▸ nbox _ _)
  have B1 : Hid (w1.heap[W.heap.size]? = some (acBox x)) := Lib.hid (hw1 ▸ heap_alloc_new _ _)
  have HB : Hid (∀ X, Keeps w1 X → X.heap[W.heap.size]? = some (acBox x)) := Lib.hid fun X k => box_keep B1.out k
  have EW1 := Lib.hid hw1
  have AS : Hid (∀ X, Calls Try.prog 8 #[] X fun e w' => e = .returned (.bool true) ∧ Keeps X w') := Lib.hid fun X => la_mailed ntP X
  have CD := Lib.hid fun X v (h : NoneN X v) => zn_deliver h x.i
  have CS := Lib.hid fun X v (h : NoneN X v) => zn_send h x.m
  have CM := Lib.hid fun X v (h : NoneN X v) => zn_mail h
  have CR := Lib.hid fun X v (h : NoneN X v) => zn_drop h x.i
  have C2 := Lib.hid fun X v (h : NoneN X v) => zn_double h x.i
  have CT := Lib.hid fun X v (h : NoneN X v) => zn_turn h x.i x.k
  have CC := Lib.hid fun X v (h : NoneN X v) => zn_copy h
  have hs := hx.s
  unfold maxLen at hs
  obtain ⟨x0, x1, x2, x3, x4, x5, x6, x7, x8, x9⟩ := ac_box_cells B1.out
  clear hx hw1
  unfold acBox at EW1
  unfold acV
  unfold mgV at CS
  go_enter Try.func4, Try.ntmps4
  go_upto_region 1 with (fail)
  rw [EW1.out]
  clear EW1
  rcases Nat.lt_or_ge 50 x.m.s.size with hl | hl
  · go_wp2_with fail
    refine (AS.out _).mono ?_
    rintro e w2 ⟨rfl, k2⟩
    have K2 := Lib.hid (K1.out.trans k2)
    clear k2
    go_wp2
    go_ret
    exact ⟨rfl, K2.out⟩
  · go_wp2_with fail
    go_loopw [3, 4] (fun v3 v4 wr => ∃ (t : Nat) (u : Value), t ≤ 2 ∧ v4 = .int .i64 (t : Int) ∧ u = v3 ∧ NoneN wr u ∧ Keeps w1 wr) (fun _ v4 _ => 2 - (intOf v4).toNat)
    case atStart => exact ⟨0, _, by omega, rfl, rfl, Or.inl rfl, Keeps.refl _⟩
    case round =>
      obtain ⟨t, u, ht, rfl, rfl, hn, hk⟩ := hrel
      have HN := Lib.hid hn
      have HKR := Lib.hid hk
      clear x0 x1 x2 x3 x4 x5 x6 x7 x8 x9 hn hk
      obtain ⟨x0, x1, x2, x3, x4, x5, x6, x7, x8, x9⟩ := ac_box_cells (HB.out wr HKR.out)
      by_cases hlt : t < 2
      · have ht1 : (t : Int) < 2 := by omega
        go_wp2_with fail
        refine (CD.out _ _ HN.out).mono ?_
        rintro e w2 ⟨rfl, k2⟩
        obtain ⟨w3, hw3⟩ : ∃ w3, w2.alloc zeBox = w3 := ⟨_, rfl⟩
        have K3 : Hid (Keeps w1 w3) := Lib.hid (HKR.out.trans (k2.trans (hw3 ▸ nbox _ _)))
        have HN3 : Hid (NoneN w3 u) := Lib.hid (HN.out.keeps (k2.trans (hw3 ▸ nbox _ _)))
        have B3 : Hid (w3.heap[w2.heap.size]? = some zeBox) := Lib.hid (hw3 ▸ heap_alloc_new _ _)
        clear k2 x0 x1 x2 x3 x4 x5 x6 x7 x8 x9
        obtain ⟨x0, x1, x2, x3, x4, x5, x6, x7, x8, x9⟩ := ac_box_cells (HB.out w3 K3.out)
        obtain ⟨⟨z0, z1, z2, z3, z4, z5, z6⟩, _⟩ := ze_box_cells B3.out
        have EW3 := Lib.hid hw3
        unfold zeBox at EW3
        clear hw3
        go_upto_region 8 with (fail)
        rw [EW3.out]
        clear EW3
        go_wp2_with fail
        refine (CS.out _ _ HN3.out).mono ?_
        rintro e w4 ⟨rfl, k4⟩
        have K4 := Lib.hid (K3.out.trans k4)
        have HN4 := Lib.hid (HN3.out.keeps k4)
        clear k4 x0 x1 x2 x3 x4 x5 x6 x7 x8 x9 z0 z1 z2 z3 z4 z5 z6
        obtain ⟨x0, x1, x2, x3, x4, x5, x6, x7, x8, x9⟩ := ac_box_cells (HB.out w4 K4.out)
        go_wp2_with fail
        refine (CM.out _ _ HN4.out).mono ?_
        rintro e w5 ⟨rfl, h5⟩
        obtain rfl : w4 = w5 := h5.symm
        go_wp2_with fail
        refine (CR.out _ _ HN4.out).mono ?_
        rintro e w6 ⟨rfl, k6⟩
        have K6 := Lib.hid (K4.out.trans k6)
        have HN6 := Lib.hid (HN4.out.keeps k6)
        clear k6 x0 x1 x2 x3 x4 x5 x6 x7 x8 x9
        obtain ⟨x0, x1, x2, x3, x4, x5, x6, x7, x8, x9⟩ := ac_box_cells (HB.out w6 K6.out)
        go_wp2_with fail
        refine (C2.out _ _ HN6.out).mono ?_
        rintro e w7 ⟨rfl, h7⟩
        obtain rfl : w6 = w7 := h7.symm
        go_wp2_with fail
        refine (CT.out _ _ HN6.out).mono ?_
        rintro e w8 ⟨rfl, h8⟩
        obtain rfl : w6 = w8 := h8.symm
        go_wp2_with fail
        refine (CC.out _ _ HN6.out).mono ?_
        rintro e w9 ⟨rfl, h9⟩
        obtain rfl : w6 = w9 := h9.symm
        have wi : Hid (wrap64 ((t : Int) + 1) = (t : Int) + 1) := Lib.hid (i64w (by unfold top; omega) (by unfold top; omega))
        go_wp2_with fail
        go_round
        case measure => (try rw [wi.out]); simp only [intOf]; omega
        case rel => exact ⟨t + 1, _, by omega, by first | (rw [wi.out]; rfl) | rfl | go_num, rfl, Or.inr ⟨_, rfl, heap_alloc_new _ _⟩, K6.out.trans (nbox _ _)⟩
      · obtain rfl : t = 2 := by omega
        go_wp2_with fail
        refine (AS.out _).mono ?_
        rintro e w2 ⟨rfl, k2⟩
        have K2 := Lib.hid ((K1.out.trans HKR.out).trans k2)
        clear k2
        go_wp2
        go_ret
        exact ⟨rfl, K2.out⟩
end Nt
end Go.Proofs.Ytajphjlfefhajaa
