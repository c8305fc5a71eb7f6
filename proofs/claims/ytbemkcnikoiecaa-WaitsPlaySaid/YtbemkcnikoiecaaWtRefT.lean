
/- The document's waits: Start, Due, Tick. -/
import Derived.Test.YtbemkcnikoiecaaWtRefP
import Derived.Deep.RegionWith
set_option linter.unusedVariables false
set_option linter.unusedSimpArgs false
namespace Go.Proofs.Ytbemkcnikoiecaa
open Go.ChangeShapes Go.WideShapes Go.ChangeAt Go.RowKit Csv Ky
namespace Wt
theorem PutOut.from {w w1 w' : World} {v v' : Value} {l l' : List W5} (h : PutOut w1 w' v v' l l') (k : Keeps w w1) : PutOut w w' v v' l l' :=
  ⟨h.src, h.own.imp id fun q => rwK.own_base q fun g hg => Nat.le_trans k.size (rwK.own_lt q g hg).1, k.trans h.keeps⟩
set_option maxHeartbeats 8000000 in
set_option maxRecDepth 100000 in
theorem wr_start (v : Value) (l : List W5) (o d now : Int) (w : World) (h : rwK.Src w v l) (hl : l.length ≤ 1000) :
    Calls Try.prog 16 #[v, kyV o d, .int .i64 now] w fun e w' => ∃ v', e = .returned v' ∧ PutOut w w' v v' l (startL l o d now) := by
  obtain ⟨w1, hw1⟩ : ∃ w1, w.alloc (keBox o d) = w1 := ⟨_, rfl⟩
  have K1 : Hid (Keeps w w1) := Lib.hid (hw1 ▸ wbox _ _)
  have B1 : Hid (w1.heap[w.heap.size]? = some (keBox o d)) := Lib.hid (hw1 ▸ heap_alloc_new _ _)
  obtain ⟨p0, c0, rfl⟩ := src_slice rwK h
  have CN := Lib.hid fun W => wr_near now W
  have CP : Hid (∀ X, Keeps w1 X → Calls Try.prog 29 #[.slice p0 l.length c0, wtV ⟨o, d, 1, near now + 1, false⟩] X fun e w' => ∃ v', e = .returned v' ∧ PutOut w w' (.slice p0 l.length c0) v' l (startL l o d now) ∧ Keeps w1 w') := Lib.hid fun X k => (wr_put _ l ⟨o, d, 1, near now + 1, false⟩ X (RowK.Src.keeps rwK h (K1.out.trans k)) hl).mono fun e w' ⟨v', h1, h2⟩ => ⟨v', h1, h2.from (K1.out.trans k), k.trans h2.keeps⟩
  have CS : Hid (∀ W, Keeps w1 W → W.cell? ⟨w.heap.size, 0, none⟩ = some (.int .i64 o) ∧ W.cell? ⟨w.heap.size, 1, none⟩ = some (.int .i64 d)) := Lib.hid fun W k => ke_box_cells (wbox_keep B1.out k)
  have EW1 := Lib.hid hw1
  have hm := near_in now
  generalize startL l o d now = L at CP ⊢
  obtain ⟨m, hmm⟩ : ∃ m, near now = m := ⟨_, rfl⟩
  obtain ⟨m1, hm1⟩ : ∃ m1, m + 1 = m1 := ⟨_, rfl⟩
  rw [hmm] at CP CN hm
  rw [hm1] at CP
  have wi : IntKind.i64.wrap (m + 1) = m1 := by
    unfold far at hm
    rw [IntWalk.i64_in _ ⟨by omega, by omega⟩]; exact hm1
  have wj : wrap64 (m + 1) = m1 := by
    unfold far at hm
    exact (i64w (by unfold top; omega) (by unfold top; omega)).trans hm1
  obtain ⟨z0, z1⟩ := CS.out _ (Keeps.refl _)
  have HX := Lib.hid (Keeps.refl w1)
  clear h hl hw1 hm hmm hm1
  unfold keBox at EW1
  unfold wtV at CP
  unfold kyV
  go_enter Try.func16, Try.ntmps16
  go_upto_region 1 with (fail)
  rw [EW1.out]
  clear EW1
  go_wp2_with (go_region_with (first
    | (go_at_call 30; refine (CN.out _).mono ?_; rintro e wv ⟨rfl, rfl⟩)
    | (go_at_call 29; refine (CP.out _ (by first | exact HX.out | exact HX.out.trans (wdrew _))).mono ?_; rintro e wv ⟨v', rfl, hp, hv⟩; have PO := Lib.hid hp; clear hp; obtain ⟨u0, u1⟩ := CS.out _ hv; clear hv)))
  all_goals
    go_ret
    exact ⟨_, rfl, PO.out⟩
set_option maxHeartbeats 8000000 in
set_option maxRecDepth 100000 in
theorem wr_due (v : Value) (l : List W5) (o d now : Int) (w : World) (h : rwK.Src w v l) (hl : l.length ≤ 1000) :
    Calls Try.prog 11 #[v, kyV o d, .int .i64 now] w fun e w' => ∃ v', e = .returned v' ∧ PutOut w w' v v' l (dueL l o d now) := by
  obtain ⟨w1, hw1⟩ : ∃ w1, w.alloc (keBox o d) = w1 := ⟨_, rfl⟩
  have K1 : Hid (Keeps w w1) := Lib.hid (hw1 ▸ wbox _ _)
  have B1 : Hid (w1.heap[w.heap.size]? = some (keBox o d)) := Lib.hid (hw1 ▸ heap_alloc_new _ _)
  obtain ⟨p0, c0, rfl⟩ := src_slice rwK h
  have CN := Lib.hid fun W => wr_near now W
  have CP : Hid (∀ X, Keeps w1 X → Calls Try.prog 29 #[.slice p0 l.length c0, wtV ⟨o, d, 0, near now, false⟩] X fun e w' => ∃ v', e = .returned v' ∧ PutOut w w' (.slice p0 l.length c0) v' l (dueL l o d now) ∧ Keeps w1 w') := Lib.hid fun X k => (wr_put _ l ⟨o, d, 0, near now, false⟩ X (RowK.Src.keeps rwK h (K1.out.trans k)) hl).mono fun e w' ⟨v', h1, h2⟩ => ⟨v', h1, h2.from (K1.out.trans k), k.trans h2.keeps⟩
  have CS : Hid (∀ W, Keeps w1 W → W.cell? ⟨w.heap.size, 0, none⟩ = some (.int .i64 o) ∧ W.cell? ⟨w.heap.size, 1, none⟩ = some (.int .i64 d)) := Lib.hid fun W k => ke_box_cells (wbox_keep B1.out k)
  have EW1 := Lib.hid hw1
  generalize dueL l o d now = L at CP ⊢
  generalize near now = m at CP CN
  obtain ⟨z0, z1⟩ := CS.out _ (Keeps.refl _)
  have HX := Lib.hid (Keeps.refl w1)
  clear h hl hw1
  unfold keBox at EW1
  unfold wtV at CP
  unfold kyV
  go_enter Try.func11, Try.ntmps11
  go_upto_region 1 with (fail)
  rw [EW1.out]
  clear EW1
  go_wp2_with (go_region_with (first
    | (go_at_call 30; refine (CN.out _).mono ?_; rintro e wv ⟨rfl, rfl⟩)
    | (go_at_call 29; refine (CP.out _ (by first | exact HX.out | exact HX.out.trans (wdrew _))).mono ?_; rintro e wv ⟨v', rfl, hp, hv⟩; have PO := Lib.hid hp; clear hp; obtain ⟨u0, u1⟩ := CS.out _ hv; clear hv)))
  all_goals
    go_ret
    exact ⟨_, rfl, PO.out⟩
end Wt
end Go.Proofs.Ytbemkcnikoiecaa
