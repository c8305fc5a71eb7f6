/- OrdersGet: the walk. -/
import Derived.Test.YtonjkgonbfimjaaDoorOdFormL
set_option linter.unusedVariables false
namespace Go.Proofs.YtonjkgonbfimjaaDoor
open Go.ChangeShapes Go.WideShapes Go.ChangeAt Go.RowKit Bit Ky Od

theorem od_may_at (t o d : Int) (s : ByteArray) (q a c : Int) (w : World) (hp : HasP w) (hs : s.size ≤ maxLen) (b : Bool) (hb : mayM t o d s q a c = b) : ∀ W B, Keeps w B → Keeps B W → Calls Tryd.prog 17 #[msV t o d s q a c] W fun e w' => e = .returned (.bool b) ∧ Keeps B w' := fun W B kb k =>
  (hb ▸ od_may t o d s q a c W (hp.keeps (kb.trans k)) hs).mono fun e w' h => ⟨h.1, k.trans h.2⟩
theorem or_may_at (t o d : Int) (s : ByteArray) (q a c : Int) (hs : s.size ≤ maxLen) (b : Bool) (hb : mayM t o d s q a c = b) : ∀ W B, Keeps B W → Calls Tryd.prog 18 #[msV t o d s q a c] W fun e w' => e = .returned (.bool b) ∧ Keeps B w' := fun W B k =>
  (hb ▸ or_may t o d s q a c W hs).mono fun e w' h => ⟨h.1, k.trans h.2⟩
set_option maxHeartbeats 16000000 in
set_option maxRecDepth 100000 in
theorem ordersGet_go (s : ByteArray) (t o d : Int) (S : ByteArray) (q a c : Int) (w : World) (hp : HasP w) (hs : s.size ≤ maxLen) (hS : S.size ≤ maxLen) :
    Calls Tryd.prog 4 #[.string s, msV t o d S q a c] w fun e w' => e = .returned (.bool true) ∧ Keeps w w' := by
  have KB := Lib.hid (ky_box w (msBox t o d S q a c))
  have OF := Lib.hid (ordered_from w hp)
  have OD0 := Lib.hid (ordered_at w hp _ KB.out)
  have GT := Lib.hid fun W => od_get s W hs
  have GR := Lib.hid fun W => or_get s W hs
  obtain ⟨b, hb⟩ : ∃ b, mayM t o d S q a c = b := ⟨_, rfl⟩
  have M1 := Lib.hid (od_may_at t o d S q a c w hp hS b hb)
  have M2 := Lib.hid (or_may_at t o d S q a c hS b hb)
  have CX := Lib.hid (ms_cells w t o d S q a c)
  unfold maxLen at hs hS
  clear hp hb
  unfold msBox at KB OD0 CX
  unfold msV at M1 M2 ⊢
  by_cases h : s.size ≤ 300 ∧ S.size ≤ 300
  rotate_left
  · rcases (show 300 < s.size ∨ (s.size ≤ 300 ∧ 300 < S.size) from by omega) with h1 | ⟨h1, h2⟩
    all_goals
      clear h
      go_enter Tryd.func4, Tryd.ntmps4
      go_wp2_with fail
      refine OD0.out.mono ?_
      rintro e w1 ⟨rfl, k1⟩
      go_wp2
      go_ret
      exact ⟨rfl, k1⟩
  obtain ⟨h1, h2⟩ := h
  go_enter Tryd.func4, Tryd.ntmps4
  go_wp2_with fail
  refine (GT.out _).mono ?_
  rintro e w1 ⟨i, r, Q, n, m, z, rfl, hi, k1⟩
  unfold odV
  have HI := Lib.hid hi
  have K1 := Lib.hid k1
  have A1 := Lib.hid (ky_box w1 (.cells #[.int .i64 i, .string r, .string Q, .int .i64 n, .int .i64 m] tOd))
  have C1 := Lib.hid (box_cells (w := w1) (x0 := .int .i64 i) (x1 := .string r) (x2 := .string Q) (x3 := .int .i64 n) (x4 := .int .i64 m))
  clear hi k1 GT
  go_wp2_with fail
  refine (GR.out _).mono ?_
  rintro e w2 ⟨i', r', Q', n', m', z', rfl, hi', k2⟩
  obtain ⟨rfl, rfl, rfl, rfl, rfl, rfl⟩ := HI.out.same hi'
  unfold odV
  have K2 := Lib.hid (A1.out.trans k2)
  have A2 := Lib.hid (ky_box w2 (.cells #[.int .i64 i, .string r, .string Q, .int .i64 n, .int .i64 m] tOd))
  have C2 := Lib.hid (box_cells (w := w2) (x0 := .int .i64 i) (x1 := .string r) (x2 := .string Q) (x3 := .int .i64 n) (x4 := .int .i64 m))
  have B1 := Lib.hid (C1.out w2 k2)
  clear hi' k2 GR HI h1 h2 hs hS
  have BW : Hid (Keeps w (w2.alloc (.cells #[.int .i64 i, .string r, .string Q, .int .i64 n, .int .i64 m] tOd))) := Lib.hid (KB.out.trans (K1.out.trans (K2.out.trans A2.out)))
  have CS : Hid (∀ W, Keeps (w2.alloc (.cells #[.int .i64 i, .string r, .string Q, .int .i64 n, .int .i64 m] tOd)) W → (W.cell? ⟨w1.heap.size, 0, none⟩ = some (.int .i64 i) ∧ W.cell? ⟨w1.heap.size, 1, none⟩ = some (.string r) ∧ W.cell? ⟨w1.heap.size, 2, none⟩ = some (.string Q) ∧ W.cell? ⟨w1.heap.size, 3, none⟩ = some (.int .i64 n) ∧ W.cell? ⟨w1.heap.size, 4, none⟩ = some (.int .i64 m)) ∧ (W.cell? ⟨w2.heap.size, 0, none⟩ = some (.int .i64 i) ∧ W.cell? ⟨w2.heap.size, 1, none⟩ = some (.string r) ∧ W.cell? ⟨w2.heap.size, 2, none⟩ = some (.string Q) ∧ W.cell? ⟨w2.heap.size, 3, none⟩ = some (.int .i64 n) ∧ W.cell? ⟨w2.heap.size, 4, none⟩ = some (.int .i64 m)) ∧ W.cell? ⟨w.heap.size, 0, none⟩ = some (.int .i64 t) ∧ W.cell? ⟨w.heap.size, 1, none⟩ = some (.int .i64 o) ∧ W.cell? ⟨w.heap.size, 2, none⟩ = some (.int .i64 d) ∧ W.cell? ⟨w.heap.size, 3, none⟩ = some (.string S) ∧ W.cell? ⟨w.heap.size, 4, none⟩ = some (.int .i64 q) ∧ W.cell? ⟨w.heap.size, 5, none⟩ = some (.int .i64 a) ∧ W.cell? ⟨w.heap.size, 6, none⟩ = some (.int .i64 c)) := Lib.hid fun W k =>
    ⟨(five_at (((A2.out.trans k).block _ (Array.getElem?_eq_some_iff.1 B1.out).1).trans B1.out)).1, (five_at (C2.out W k)).1, CX.out W (K1.out.trans (K2.out.trans (A2.out.trans k)))⟩
  have HV := Lib.hid (Keeps.refl (w2.alloc (.cells #[.int .i64 i, .string r, .string Q, .int .i64 n, .int .i64 m] tOd)))
  have M1 := Lib.hid fun W => M1.out W (w2.alloc (.cells #[.int .i64 i, .string r, .string Q, .int .i64 n, .int .i64 m] tOd)) BW.out
  have M2 := Lib.hid fun W => M2.out W (w2.alloc (.cells #[.int .i64 i, .string r, .string Q, .int .i64 n, .int .i64 m] tOd))
  have OD := Lib.hid (OF.out _ BW.out)
  clear CX C1 C2 B1 K1 K2 A1 A2 OD0 OF
  go_upto_region 5 with (fail)
  obtain ⟨⟨x0, x1, x2, x3, x4⟩, ⟨y0, y1, y2, y3, y4⟩, z0, z1, z2, z3, z4, z5, z6⟩ := CS.out _ HV.out
  have te1 : (r.toList == r.toList) = true := by simp
  have te2 : (Q.toList == Q.toList) = true := by simp
  have te3 : (b == b) = true := by simp
  go_region_held3 (fun W => (W.cell? ⟨w1.heap.size, 0, none⟩ = some (.int .i64 i) ∧ W.cell? ⟨w1.heap.size, 1, none⟩ = some (.string r) ∧ W.cell? ⟨w1.heap.size, 2, none⟩ = some (.string Q) ∧ W.cell? ⟨w1.heap.size, 3, none⟩ = some (.int .i64 n) ∧ W.cell? ⟨w1.heap.size, 4, none⟩ = some (.int .i64 m)) ∧ (W.cell? ⟨w2.heap.size, 0, none⟩ = some (.int .i64 i) ∧ W.cell? ⟨w2.heap.size, 1, none⟩ = some (.string r) ∧ W.cell? ⟨w2.heap.size, 2, none⟩ = some (.string Q) ∧ W.cell? ⟨w2.heap.size, 3, none⟩ = some (.int .i64 n) ∧ W.cell? ⟨w2.heap.size, 4, none⟩ = some (.int .i64 m)) ∧ W.cell? ⟨w.heap.size, 0, none⟩ = some (.int .i64 t) ∧ W.cell? ⟨w.heap.size, 1, none⟩ = some (.int .i64 o) ∧ W.cell? ⟨w.heap.size, 2, none⟩ = some (.int .i64 d) ∧ W.cell? ⟨w.heap.size, 3, none⟩ = some (.string S) ∧ W.cell? ⟨w.heap.size, 4, none⟩ = some (.int .i64 q) ∧ W.cell? ⟨w.heap.size, 5, none⟩ = some (.int .i64 a) ∧ W.cell? ⟨w.heap.size, 6, none⟩ = some (.int .i64 c))
    (first | exact CS.out _ HV.out | exact CS.out _ (HV.out.trans (ky_drew _)) | assumption) (first
    | (go_at_call 17; refine (M1.out _ (HV.out.trans (ky_drew _))).mono ?_; clear HV M1; rintro e wv ⟨rfl, hv⟩; have HV := Lib.hid hv; have zv := CS.out _ hv; clear hv)
    | (go_at_call 18; refine (M2.out _ HV.out).mono ?_; clear HV M2; rintro e wv ⟨rfl, hv⟩; have HV := Lib.hid hv; have zv := CS.out _ hv; clear hv)
    | (go_at_call 8; refine (OD.out _ HV.out).mono ?_; clear HV OD; rintro e wv ⟨rfl, hv⟩; have HV := Lib.hid hv; have zv := CS.out _ hv; clear hv))
  go_wp2
  go_ret
  exact ⟨rfl, BW.out.trans HV.out⟩
end Go.Proofs.YtonjkgonbfimjaaDoor
