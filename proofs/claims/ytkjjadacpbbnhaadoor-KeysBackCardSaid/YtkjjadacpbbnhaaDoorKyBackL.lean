/- KeysBack, out of what the program answers (KyP). -/
import Derived.Test.YtkjjadacpbbnhaaDoorKyBackH
import Derived.Test.YtkjjadacpbbnhaaDoorHeldSteps
import Derived.Deep.RegionHeld3
import Derived.Deep.QuietTactic
import Derived.BigQuiet
set_option linter.unusedVariables false
namespace Go.Proofs.YtkjjadacpbbnhaaDoor
open Go.ChangeShapes Go.WideShapes Go.ChangeAt Go.RowKit Mon Ky

set_option maxRecDepth 4000 in
set_option maxHeartbeats 4000000 in
theorem keysBack_go (P : KyP) (o d o' d' : Int) (w : World) (hw : HasK w) (i1 : I64 o) (i2 : I64 d) (i3 : I64 o') (i4 : I64 d') :
    Calls Tryd.prog 5 #[kyV o d, kyV o' d'] w fun e w' => e = .returned (.bool true) ∧ Keeps w w' := by
  obtain ⟨c, hc⟩ : ∃ c, checkK o d = c := ⟨_, rfl⟩
  obtain ⟨c', hc'⟩ : ∃ c, checkK o' d' = c := ⟨_, rfl⟩
  obtain ⟨X, hX⟩ : ∃ X, putS o d = X := ⟨_, rfl⟩
  obtain ⟨Y, hY⟩ : ∃ X, putS o' d' = X := ⟨_, rfl⟩
  have K1 : Hid (∀ W, Calls Tryd.prog 13 #[.agg #[.int .i64 o, .int .i64 d]] W fun e w' => e = .returned (.bool c) ∧ Keeps W w') := Lib.hid fun W => hc ▸ P.check o d W i1 i2
  have K2 : Hid (∀ W, Calls Tryd.prog 13 #[.agg #[.int .i64 o', .int .i64 d']] W fun e w' => e = .returned (.bool c') ∧ Keeps W w') := Lib.hid fun W => hc' ▸ P.check o' d' W i3 i4
  have P1 : Hid (∀ W B, Keeps B W → Calls Tryd.prog 15 #[.agg #[.int .i64 o, .int .i64 d]] W fun e w' => e = .returned (.string X) ∧ Keeps B w') := Lib.hid fun W B k => Calls.mono (hX ▸ P.put o d W i1 i2) fun e w' h => ⟨h.1, k.trans h.2⟩
  have P2 : Hid (∀ W B, Keeps B W → Calls Tryd.prog 15 #[.agg #[.int .i64 o', .int .i64 d']] W fun e w' => e = .returned (.string Y) ∧ Keeps B w') := Lib.hid fun W B k => Calls.mono (hY ▸ P.put o' d' W i3 i4) fun e w' h => ⟨h.1, k.trans h.2⟩
  have hb := hw.keeps (Keeps.trans (ky_box w (.cells #[.int .i64 o, .int .i64 d] tKy)) (ky_box _ (.cells #[.int .i64 o', .int .i64 d'] tKy)))
  have GT : Hid (c = true → ∀ W, Keeps ((w.alloc (.cells #[.int .i64 o, .int .i64 d] tKy)).alloc (.cells #[.int .i64 o', .int .i64 d'] tKy)) W → Calls Tryd.prog 23 #[.string X, .agg #[.int .i64 o, .int .i64 d], .bool true] W fun e w' => e = .returned (.bool true) ∧ Keeps W w') := Lib.hid fun h W k => got_any P X o d true W (hb.keeps k) (hX ▸ put_short o d) (by rw [← hX]; exact put_is (hc.trans h))
  have XY : Hid (c = true → c' = true → X = Y → o = o' ∧ d = d') := Lib.hid fun h1 h2 e => put_same (hc.trans h1) (hc'.trans h2) (by rw [hX, hY, e])
  have X0 : Hid (c = false → X = ⟨#[]⟩) := Lib.hid fun h => hX ▸ put_no (hc.trans h)
  have X1 : Hid (c = true → X ≠ ⟨#[]⟩) := Lib.hid fun h => hX ▸ put_yes (hc.trans h)
  have SM : Hid (o = o' ∧ d = d' → X = Y ∧ c = c') := Lib.hid fun ⟨e1, e2⟩ => ⟨by rw [← hX, ← hY, e1, e2], by rw [← hc, ← hc', e1, e2]⟩
  obtain ⟨l, hl⟩ : ∃ l, lessK o d o' d' = l := ⟨_, rfl⟩
  obtain ⟨m, hm⟩ : ∃ l, lessK o' d' o d = l := ⟨_, rfl⟩
  have L1 : Hid (∀ W B, Keeps B W → Calls Tryd.prog 17 #[.agg #[.int .i64 o, .int .i64 d], .agg #[.int .i64 o', .int .i64 d']] W fun e w' => e = .returned (.bool l) ∧ Keeps B w') := Lib.hid fun W B k => Calls.mono (hl ▸ P.less o d o' d' W i1 i2 i3 i4) fun e w' h => ⟨h.1, k.trans h.2⟩
  have L2 : Hid (∀ W B, Keeps B W → Calls Tryd.prog 17 #[.agg #[.int .i64 o', .int .i64 d'], .agg #[.int .i64 o, .int .i64 d]] W fun e w' => e = .returned (.bool m) ∧ Keeps B w') := Lib.hid fun W B k => Calls.mono (hm ▸ P.less o' d' o d W i3 i4 i1 i2) fun e w' h => ⟨h.1, k.trans h.2⟩
  have L3 : Hid (∀ W B, Keeps B W → Calls Tryd.prog 17 #[.agg #[.int .i64 o, .int .i64 d], .agg #[.int .i64 o, .int .i64 d]] W fun e w' => e = .returned (.bool false) ∧ Keeps B w') := Lib.hid fun W B k => Calls.mono (less_self o d ▸ P.less o d o d W i1 i2 i1 i2) fun e w' h => ⟨h.1, k.trans h.2⟩
  have LM : Hid (¬ (o = o' ∧ d = d') → l = !m) := Lib.hid fun h => by rw [← hl, ← hm]; exact less_one h
  have LE : Hid (o = o' ∧ d = d' → l = false) := Lib.hid fun ⟨e1, e2⟩ => by rw [← hl, e1, e2]; exact less_self _ _
  have KE2 : Hid (∀ W, Keeps ((w.alloc (.cells #[.int .i64 o, .int .i64 d] tKy)).alloc (.cells #[.int .i64 o', .int .i64 d'] tKy)) W → Calls Tryd.prog 19 #[] W fun e w' => e = .returned (.bool true) ∧ Keeps ((w.alloc (.cells #[.int .i64 o, .int .i64 d] tKy)).alloc (.cells #[.int .i64 o', .int .i64 d'] tKy)) w') := Lib.hid fun W k => Calls.mono (keyed_any P W (hb.keeps k)) fun e w' h => ⟨h.1, k.trans h.2⟩
  have I := Lib.hid (⟨i1, i2, i3, i4⟩ : I64 o ∧ I64 d ∧ I64 o' ∧ I64 d')
  have KB := Lib.hid (Keeps.trans (ky_box w (.cells #[.int .i64 o, .int .i64 d] tKy)) (ky_box _ (.cells #[.int .i64 o', .int .i64 d'] tKy)))
  have CX : Hid (∀ W, Keeps ((w.alloc (.cells #[.int .i64 o, .int .i64 d] tKy)).alloc (.cells #[.int .i64 o', .int .i64 d'] tKy)) W → (W.cell? ⟨w.heap.size, 0, none⟩ = some (.int .i64 o) ∧ W.cell? ⟨w.heap.size, 1, none⟩ = some (.int .i64 d)) ∧ W.cell? ⟨w.heap.size + 1, 0, none⟩ = some (.int .i64 o') ∧ W.cell? ⟨w.heap.size + 1, 1, none⟩ = some (.int .i64 d')) := Lib.hid fun W k => by
    have e1 := heap_alloc_new w (.cells #[.int .i64 o, .int .i64 d] tKy)
    have e2 := (ky_box (w.alloc (.cells #[.int .i64 o, .int .i64 d] tKy)) (.cells #[.int .i64 o', .int .i64 d'] tKy)).block w.heap.size (by simp)
    have e3 := heap_alloc_new (w.alloc (.cells #[.int .i64 o, .int .i64 d] tKy)) (.cells #[.int .i64 o', .int .i64 d'] tKy)
    have hz : (w.alloc (.cells #[.int .i64 o, .int .i64 d] tKy)).heap.size = w.heap.size + 1 := by simp
    rw [hz] at e3
    have h0 : ((w.alloc (.cells #[.int .i64 o, .int .i64 d] tKy)).alloc (.cells #[.int .i64 o', .int .i64 d'] tKy)).heap.size = w.heap.size + 2 := by simp
    have b1 := (k.block _ (by omega)).trans (e2.trans e1)
    have b2 := (k.block _ (by omega)).trans e3
    exact ⟨⟨Joins.cell_of_block b1 0, Joins.cell_of_block b1 1⟩, Joins.cell_of_block b2 0, Joins.cell_of_block b2 1⟩
  clear P hw hb hc hc' hX hY hl hm i1 i2 i3 i4
  have HV := Lib.hid (Keeps.refl ((w.alloc (.cells #[.int .i64 o, .int .i64 d] tKy)).alloc (.cells #[.int .i64 o', .int .i64 d'] tKy)))
  by_cases hs : o = o' ∧ d = d'
  · obtain ⟨rfl, rfl⟩ := hs
    obtain ⟨rfl, rfl⟩ := SM.out ⟨rfl, rfl⟩
    obtain rfl := LE.out ⟨rfl, rfl⟩
    cases c with
    | false =>
      obtain rfl := X0.out rfl
      clear X0 X1 XY SM LE LM
      unfold kyV
      go_enter Tryd.func5, Tryd.ntmps5
      go_wp2_with fail
      obtain ⟨⟨x0, x1⟩, y0, y1⟩ := CX.out _ HV.out
      go_region_held3 (fun W => (W.cell? ⟨w.heap.size, 0, none⟩ = some (.int .i64 o) ∧ W.cell? ⟨w.heap.size, 1, none⟩ = some (.int .i64 d)) ∧ W.cell? ⟨w.heap.size + 1, 0, none⟩ = some (.int .i64 o) ∧ W.cell? ⟨w.heap.size + 1, 1, none⟩ = some (.int .i64 d))
        (first | exact CX.out _ HV.out | exact CX.out _ (HV.out.trans (ky_drew _)) | assumption) (first
        | (go_at_call 15; refine (P1.out _ _ (HV.out.trans (ky_drew _))).mono ?_; clear HV P1; rintro e wv ⟨rfl, hv⟩; have HV := Lib.hid hv; have zv := CX.out _ hv; clear hv)
        | (go_at_call 15; refine (P2.out _ _ HV.out).mono ?_; clear HV P2; rintro e wv ⟨rfl, hv⟩; have HV := Lib.hid hv; have zv := CX.out _ hv; clear hv))
      clear x0 x1 y0 y1
      obtain ⟨⟨x0, x1⟩, y0, y1⟩ := CX.out _ HV.out
      go_wp2_with fail
      refine (K1.out _).mono ?_
      rintro e wv ⟨rfl, hv⟩
      have HV := Lib.hid (HV.out.trans hv)
      clear hv x0 x1 y0 y1
      obtain ⟨⟨x0, x1⟩, y0, y1⟩ := CX.out _ HV.out
      go_wp2_with fail
      refine (K1.out _).mono ?_
      rintro e wv ⟨rfl, hv⟩
      have HV := Lib.hid (HV.out.trans hv)
      clear hv x0 x1 y0 y1
      obtain ⟨⟨x0, x1⟩, y0, y1⟩ := CX.out _ HV.out
      go_wp2_with fail
      refine (K1.out _).mono ?_
      rintro e wv ⟨rfl, hv⟩
      have HV := Lib.hid (HV.out.trans hv)
      clear hv x0 x1 y0 y1
      obtain ⟨⟨x0, x1⟩, y0, y1⟩ := CX.out _ HV.out
      go_wp2_with fail
      refine wp_region_held_drew (S := fun W => Keeps ((w.alloc (.cells #[.int .i64 o, .int .i64 d] tKy)).alloc (.cells #[.int .i64 o, .int .i64 d] tKy)) W) (by kernel_rfl) (HV.out.trans (ky_drew _)) (fun hHeld => ?_)
      refine takeH (i := 0) (d := some 43) (v := ?bv0) rfl rfl (by kernel_rfl) (by kernel_rfl) (by kernel_rfl) (fun _ _ _ h => h) (Or.inl ⟨by rfl, ?by0⟩) (by assumption) ?br0
      case by0 => (intro W hSw; obtain ⟨⟨x0, x1⟩, y0, y1⟩ := CX.out W hSw; go_simp; try with_reducible rfl)
      try simp only [Act.put, List.setIfInBounds_toArray, List.set_cons_zero, List.set_cons_succ]
      refine takeH (i := 1) (d := some 44) (v := ?bv1) rfl rfl (by kernel_rfl) (by kernel_rfl) (by kernel_rfl) (fun _ _ _ h => h) (Or.inl ⟨by rfl, ?by1⟩) (by assumption) ?br1
      case by1 => (intro W hSw; obtain ⟨⟨x0, x1⟩, y0, y1⟩ := CX.out W hSw; go_simp; try with_reducible rfl)
      try simp only [Act.put, List.setIfInBounds_toArray, List.set_cons_zero, List.set_cons_succ]
      refine takeH (i := 3) (d := some 46) (v := ?bv3) rfl rfl (by kernel_rfl) (by kernel_rfl) (by kernel_rfl) (fun _ _ _ h => h) (Or.inl ⟨by rfl, ?by3⟩) (by assumption) ?br3
      case by3 => (intro W hSw; obtain ⟨⟨x0, x1⟩, y0, y1⟩ := CX.out W hSw; go_simp; try with_reducible rfl)
      try simp only [Act.put, List.setIfInBounds_toArray, List.set_cons_zero, List.set_cons_succ]
      refine takeH (i := 4) (d := some 47) (v := ?bv4) rfl rfl (by kernel_rfl) (by kernel_rfl) (by kernel_rfl) (fun _ _ _ h => h) (Or.inl ⟨by rfl, ?by4⟩) (by assumption) ?br4
      case by4 => (intro W hSw; obtain ⟨⟨x0, x1⟩, y0, y1⟩ := CX.out W hSw; go_simp; try with_reducible rfl)
      try simp only [Act.put, List.setIfInBounds_toArray, List.set_cons_zero, List.set_cons_succ]
      refine takeH (i := 5) (d := some 48) (v := ?bv5) rfl rfl (by kernel_rfl) (by kernel_rfl) (by kernel_rfl) (fun _ _ _ h => h) (Or.inl ⟨by rfl, ?by5⟩) (by assumption) ?br5
      case by5 => (intro W hSw; obtain ⟨⟨x0, x1⟩, y0, y1⟩ := CX.out W hSw; go_simp; try with_reducible rfl)
      try simp only [Act.put, List.setIfInBounds_toArray, List.set_cons_zero, List.set_cons_succ]
      refine wpAnyH_ready (rs := [2]) (by kernel_rfl) (by simp) ?_
      refine AllReadyH.cons rfl (fun K hK => ?_) AllReadyH.nil
      go_simp
      refine (L1.out _ _ hHeld).mono ?_
      rintro e wv ⟨rfl, hv⟩
      first | done | skip
      refine hK.out _ _ hv (fun hHeld => ?_)
      clear hK K hv
      try simp only [Act.put, List.setIfInBounds_toArray, List.set_cons_zero, List.set_cons_succ]
      refine takeH (i := 6) (d := some 49) (v := ?bv6) rfl rfl (by kernel_rfl) (by kernel_rfl) (by kernel_rfl) (fun _ _ _ h => h) (Or.inl ⟨by rfl, ?by6⟩) (by assumption) ?br6
      case by6 => (intro W hSw; obtain ⟨⟨x0, x1⟩, y0, y1⟩ := CX.out W hSw; go_simp; try with_reducible rfl)
      try simp only [Act.put, List.setIfInBounds_toArray, List.set_cons_zero, List.set_cons_succ]
      refine skipH (i := 7) (d := some 50) rfl rfl (by kernel_rfl) (by kernel_rfl) (by kernel_rfl) (fun _ _ _ h => h) (by rfl) (by assumption) ?_
      try simp only [Act.put, List.setIfInBounds_toArray, List.set_cons_zero, List.set_cons_succ]
      refine skipH (i := 8) (d := some 51) rfl rfl (by kernel_rfl) (by kernel_rfl) (by kernel_rfl) (fun _ _ _ h => h) (by rfl) (by assumption) ?_
      try simp only [Act.put, List.setIfInBounds_toArray, List.set_cons_zero, List.set_cons_succ]
      refine skipH (i := 9) (d := some 52) rfl rfl (by kernel_rfl) (by kernel_rfl) (by kernel_rfl) (fun _ _ _ h => h) (by rfl) (by assumption) ?_
      try simp only [Act.put, List.setIfInBounds_toArray, List.set_cons_zero, List.set_cons_succ]
      refine skipH (i := 10) (d := some 53) rfl rfl (by kernel_rfl) (by kernel_rfl) (by kernel_rfl) (fun _ _ _ h => h) (by rfl) (by assumption) ?_
      try simp only [Act.put, List.setIfInBounds_toArray, List.set_cons_zero, List.set_cons_succ]
      refine takeH (i := 11) (d := some 54) (v := ?bv11) rfl rfl (by kernel_rfl) (by kernel_rfl) (by kernel_rfl) (fun _ _ _ h => h) (Or.inl ⟨by rfl, ?by11⟩) (by assumption) ?br11
      case by11 => (intro W hSw; obtain ⟨⟨x0, x1⟩, y0, y1⟩ := CX.out W hSw; go_simp; try with_reducible rfl)
      try simp only [Act.put, List.setIfInBounds_toArray, List.set_cons_zero, List.set_cons_succ]
      refine takeH (i := 12) (d := some 55) (v := ?bv12) rfl rfl (by kernel_rfl) (by kernel_rfl) (by kernel_rfl) (fun _ _ _ h => h) (Or.inl ⟨by rfl, ?by12⟩) (by assumption) ?br12
      case by12 => (intro W hSw; obtain ⟨⟨x0, x1⟩, y0, y1⟩ := CX.out W hSw; go_simp; try with_reducible rfl)
      try simp only [Act.put, List.setIfInBounds_toArray, List.set_cons_zero, List.set_cons_succ]
      refine takeH (i := 13) (d := some 56) (v := ?bv13) rfl rfl (by kernel_rfl) (by kernel_rfl) (by kernel_rfl) (fun _ _ _ h => h) (Or.inl ⟨by rfl, ?by13⟩) (by assumption) ?br13
      case by13 => (intro W hSw; obtain ⟨⟨x0, x1⟩, y0, y1⟩ := CX.out W hSw; go_simp; try with_reducible rfl)
      try simp only [Act.put, List.setIfInBounds_toArray, List.set_cons_zero, List.set_cons_succ]
      refine takeH (i := 14) (d := some 57) (v := ?bv14) rfl rfl (by kernel_rfl) (by kernel_rfl) (by kernel_rfl) (fun _ _ _ h => h) (Or.inl ⟨by rfl, ?by14⟩) (by assumption) ?br14
      case by14 => (intro W hSw; obtain ⟨⟨x0, x1⟩, y0, y1⟩ := CX.out W hSw; go_simp; try with_reducible rfl)
      try simp only [Act.put, List.setIfInBounds_toArray, List.set_cons_zero, List.set_cons_succ]
      refine takeH (i := 15) (d := some 58) (v := ?bv15) rfl rfl (by kernel_rfl) (by kernel_rfl) (by kernel_rfl) (fun _ _ _ h => h) (Or.inl ⟨by rfl, ?by15⟩) (by assumption) ?br15
      case by15 => (intro W hSw; obtain ⟨⟨x0, x1⟩, y0, y1⟩ := CX.out W hSw; go_simp; try with_reducible rfl)
      try simp only [Act.put, List.setIfInBounds_toArray, List.set_cons_zero, List.set_cons_succ]
      refine wpAnyH_ready (rs := [16]) (by kernel_rfl) (by simp) ?_
      refine AllReadyH.cons rfl (fun K hK => ?_) AllReadyH.nil
      go_simp
      refine (L3.out _ _ hHeld).mono ?_
      rintro e wv ⟨rfl, hv⟩
      first | done | skip
      refine hK.out _ _ hv (fun hHeld => ?_)
      clear hK K hv
      try simp only [Act.put, List.setIfInBounds_toArray, List.set_cons_zero, List.set_cons_succ]
      refine takeH (i := 17) (d := some 60) (v := ?bv17) rfl rfl (by kernel_rfl) (by kernel_rfl) (by kernel_rfl) (fun _ _ _ h => h) (Or.inl ⟨by rfl, ?by17⟩) (by assumption) ?br17
      case by17 => (intro W hSw; obtain ⟨⟨x0, x1⟩, y0, y1⟩ := CX.out W hSw; go_simp; try with_reducible rfl)
      try simp only [Act.put, List.setIfInBounds_toArray, List.set_cons_zero, List.set_cons_succ]
      refine takeH (i := 18) (d := some 61) (v := ?bv18) rfl rfl (by kernel_rfl) (by kernel_rfl) (by kernel_rfl) (fun _ _ _ h => h) (Or.inl ⟨by rfl, ?by18⟩) (by assumption) ?br18
      case by18 => (intro W hSw; obtain ⟨⟨x0, x1⟩, y0, y1⟩ := CX.out W hSw; go_simp; try with_reducible rfl)
      try simp only [Act.put, List.setIfInBounds_toArray, List.set_cons_zero, List.set_cons_succ]
      refine takeH (i := 19) (d := some 62) (v := ?bv19) rfl rfl (by kernel_rfl) (by kernel_rfl) (by kernel_rfl) (fun _ _ _ h => h) (Or.inl ⟨by rfl, ?by19⟩) (by assumption) ?br19
      case by19 => (intro W hSw; obtain ⟨⟨x0, x1⟩, y0, y1⟩ := CX.out W hSw; go_simp; try with_reducible rfl)
      try simp only [Act.put, List.setIfInBounds_toArray, List.set_cons_zero, List.set_cons_succ]
      refine wpAnyH_ready (rs := [20]) (by kernel_rfl) (by simp) ?_
      refine AllReadyH.cons rfl (fun K hK => ?_) AllReadyH.nil
      go_simp
      refine (KE2.out _ hHeld).mono ?_
      rintro e wv ⟨rfl, hv⟩
      first | done | skip
      refine hK.out _ _ hv (fun hHeld => ?_)
      clear hK K hv
      try simp only [Act.put, List.setIfInBounds_toArray, List.set_cons_zero, List.set_cons_succ]
      refine takeH (i := 21) (d := some 64) (v := ?bv21) rfl rfl (by kernel_rfl) (by kernel_rfl) (by kernel_rfl) (fun _ _ _ h => h) (Or.inl ⟨by rfl, ?by21⟩) (by assumption) ?br21
      case by21 => (intro W hSw; obtain ⟨⟨x0, x1⟩, y0, y1⟩ := CX.out W hSw; go_simp; try with_reducible rfl)
      try simp only [Act.put, List.setIfInBounds_toArray, List.set_cons_zero, List.set_cons_succ]
      refine takeH (i := 22) (d := some 4) (v := ?bv22) rfl rfl (by kernel_rfl) (by kernel_rfl) (by kernel_rfl) (fun _ _ _ h => h) (Or.inl ⟨by rfl, ?by22⟩) (by assumption) ?br22
      case by22 => (intro W hSw; obtain ⟨⟨x0, x1⟩, y0, y1⟩ := CX.out W hSw; go_simp; try with_reducible rfl)
      try simp only [Act.put, List.setIfInBounds_toArray, List.set_cons_zero, List.set_cons_succ]
      refine wpAnyH_done (by kernel_rfl) ?_ _
      go_wp2
      go_ret
      exact ⟨rfl, KB.out.trans hHeld⟩
    | true =>
      have tX := no_empty (X1.out rfl)
      have tY : (X.toList == X.toList) = true := by simp
      clear X0 X1 XY SM LE LM
      unfold kyV
      go_enter Tryd.func5, Tryd.ntmps5
      go_wp2_with fail
      obtain ⟨⟨x0, x1⟩, y0, y1⟩ := CX.out _ HV.out
      go_region_held3 (fun W => (W.cell? ⟨w.heap.size, 0, none⟩ = some (.int .i64 o) ∧ W.cell? ⟨w.heap.size, 1, none⟩ = some (.int .i64 d)) ∧ W.cell? ⟨w.heap.size + 1, 0, none⟩ = some (.int .i64 o) ∧ W.cell? ⟨w.heap.size + 1, 1, none⟩ = some (.int .i64 d))
        (first | exact CX.out _ HV.out | exact CX.out _ (HV.out.trans (ky_drew _)) | assumption) (first
        | (go_at_call 15; refine (P1.out _ _ (HV.out.trans (ky_drew _))).mono ?_; clear HV P1; rintro e wv ⟨rfl, hv⟩; have HV := Lib.hid hv; have zv := CX.out _ hv; clear hv)
        | (go_at_call 15; refine (P2.out _ _ HV.out).mono ?_; clear HV P2; rintro e wv ⟨rfl, hv⟩; have HV := Lib.hid hv; have zv := CX.out _ hv; clear hv))
      clear x0 x1 y0 y1
      obtain ⟨⟨x0, x1⟩, y0, y1⟩ := CX.out _ HV.out
      go_wp2_with fail
      refine (K1.out _).mono ?_
      rintro e wv ⟨rfl, hv⟩
      have HV := Lib.hid (HV.out.trans hv)
      clear hv x0 x1 y0 y1
      obtain ⟨⟨x0, x1⟩, y0, y1⟩ := CX.out _ HV.out
      go_wp2_with fail
      refine (K1.out _).mono ?_
      rintro e wv ⟨rfl, hv⟩
      have HV := Lib.hid (HV.out.trans hv)
      clear hv x0 x1 y0 y1
      obtain ⟨⟨x0, x1⟩, y0, y1⟩ := CX.out _ HV.out
      go_wp2_with fail
      refine (GT.out trivial _ HV.out).mono ?_
      rintro e wv ⟨rfl, hv⟩
      have HV := Lib.hid (HV.out.trans hv)
      clear hv x0 x1 y0 y1
      obtain ⟨⟨x0, x1⟩, y0, y1⟩ := CX.out _ HV.out
      go_wp2_with fail
      refine (K1.out _).mono ?_
      rintro e wv ⟨rfl, hv⟩
      have HV := Lib.hid (HV.out.trans hv)
      clear hv x0 x1 y0 y1
      obtain ⟨⟨x0, x1⟩, y0, y1⟩ := CX.out _ HV.out
      go_wp2_with fail
      refine (K2.out _).mono ?_
      rintro e wv ⟨rfl, hv⟩
      have HV := Lib.hid (HV.out.trans hv)
      clear hv x0 x1 y0 y1
      obtain ⟨⟨x0, x1⟩, y0, y1⟩ := CX.out _ HV.out
      go_wp2_with fail
      refine wp_region_held_drew (S := fun W => Keeps ((w.alloc (.cells #[.int .i64 o, .int .i64 d] tKy)).alloc (.cells #[.int .i64 o, .int .i64 d] tKy)) W) (by kernel_rfl) (HV.out.trans (ky_drew _)) (fun hHeld => ?_)
      refine takeH (i := 0) (d := some 43) (v := ?cv0) rfl rfl (by kernel_rfl) (by kernel_rfl) (by kernel_rfl) (fun _ _ _ h => h) (Or.inl ⟨by rfl, ?cy0⟩) (by assumption) ?cr0
      case cy0 => (intro W hSw; obtain ⟨⟨x0, x1⟩, y0, y1⟩ := CX.out W hSw; go_simp; try with_reducible rfl)
      try simp only [Act.put, List.setIfInBounds_toArray, List.set_cons_zero, List.set_cons_succ]
      refine takeH (i := 1) (d := some 44) (v := ?cv1) rfl rfl (by kernel_rfl) (by kernel_rfl) (by kernel_rfl) (fun _ _ _ h => h) (Or.inl ⟨by rfl, ?cy1⟩) (by assumption) ?cr1
      case cy1 => (intro W hSw; obtain ⟨⟨x0, x1⟩, y0, y1⟩ := CX.out W hSw; go_simp; try with_reducible rfl)
      try simp only [Act.put, List.setIfInBounds_toArray, List.set_cons_zero, List.set_cons_succ]
      refine takeH (i := 3) (d := some 46) (v := ?cv3) rfl rfl (by kernel_rfl) (by kernel_rfl) (by kernel_rfl) (fun _ _ _ h => h) (Or.inl ⟨by rfl, ?cy3⟩) (by assumption) ?cr3
      case cy3 => (intro W hSw; obtain ⟨⟨x0, x1⟩, y0, y1⟩ := CX.out W hSw; go_simp; try with_reducible rfl)
      try simp only [Act.put, List.setIfInBounds_toArray, List.set_cons_zero, List.set_cons_succ]
      refine takeH (i := 4) (d := some 47) (v := ?cv4) rfl rfl (by kernel_rfl) (by kernel_rfl) (by kernel_rfl) (fun _ _ _ h => h) (Or.inl ⟨by rfl, ?cy4⟩) (by assumption) ?cr4
      case cy4 => (intro W hSw; obtain ⟨⟨x0, x1⟩, y0, y1⟩ := CX.out W hSw; go_simp; try with_reducible rfl)
      try simp only [Act.put, List.setIfInBounds_toArray, List.set_cons_zero, List.set_cons_succ]
      refine takeH (i := 5) (d := some 48) (v := ?cv5) rfl rfl (by kernel_rfl) (by kernel_rfl) (by kernel_rfl) (fun _ _ _ h => h) (Or.inl ⟨by rfl, ?cy5⟩) (by assumption) ?cr5
      case cy5 => (intro W hSw; obtain ⟨⟨x0, x1⟩, y0, y1⟩ := CX.out W hSw; go_simp; try with_reducible rfl)
      try simp only [Act.put, List.setIfInBounds_toArray, List.set_cons_zero, List.set_cons_succ]
      refine wpAnyH_ready (rs := [2]) (by kernel_rfl) (by simp) ?_
      refine AllReadyH.cons rfl (fun K hK => ?_) AllReadyH.nil
      go_simp
      refine (L1.out _ _ hHeld).mono ?_
      rintro e wv ⟨rfl, hv⟩
      first | done | skip
      refine hK.out _ _ hv (fun hHeld => ?_)
      clear hK K hv
      try simp only [Act.put, List.setIfInBounds_toArray, List.set_cons_zero, List.set_cons_succ]
      refine takeH (i := 6) (d := some 49) (v := ?cv6) rfl rfl (by kernel_rfl) (by kernel_rfl) (by kernel_rfl) (fun _ _ _ h => h) (Or.inl ⟨by rfl, ?cy6⟩) (by assumption) ?cr6
      case cy6 => (intro W hSw; obtain ⟨⟨x0, x1⟩, y0, y1⟩ := CX.out W hSw; go_simp; try with_reducible rfl)
      try simp only [Act.put, List.setIfInBounds_toArray, List.set_cons_zero, List.set_cons_succ]
      refine skipH (i := 7) (d := some 50) rfl rfl (by kernel_rfl) (by kernel_rfl) (by kernel_rfl) (fun _ _ _ h => h) (by rfl) (by assumption) ?_
      try simp only [Act.put, List.setIfInBounds_toArray, List.set_cons_zero, List.set_cons_succ]
      refine skipH (i := 8) (d := some 51) rfl rfl (by kernel_rfl) (by kernel_rfl) (by kernel_rfl) (fun _ _ _ h => h) (by rfl) (by assumption) ?_
      try simp only [Act.put, List.setIfInBounds_toArray, List.set_cons_zero, List.set_cons_succ]
      refine skipH (i := 9) (d := some 52) rfl rfl (by kernel_rfl) (by kernel_rfl) (by kernel_rfl) (fun _ _ _ h => h) (by rfl) (by assumption) ?_
      try simp only [Act.put, List.setIfInBounds_toArray, List.set_cons_zero, List.set_cons_succ]
      refine skipH (i := 10) (d := some 53) rfl rfl (by kernel_rfl) (by kernel_rfl) (by kernel_rfl) (fun _ _ _ h => h) (by rfl) (by assumption) ?_
      try simp only [Act.put, List.setIfInBounds_toArray, List.set_cons_zero, List.set_cons_succ]
      refine takeH (i := 11) (d := some 54) (v := ?cv11) rfl rfl (by kernel_rfl) (by kernel_rfl) (by kernel_rfl) (fun _ _ _ h => h) (Or.inl ⟨by rfl, ?cy11⟩) (by assumption) ?cr11
      case cy11 => (intro W hSw; obtain ⟨⟨x0, x1⟩, y0, y1⟩ := CX.out W hSw; go_simp; try with_reducible rfl)
      try simp only [Act.put, List.setIfInBounds_toArray, List.set_cons_zero, List.set_cons_succ]
      refine takeH (i := 12) (d := some 55) (v := ?cv12) rfl rfl (by kernel_rfl) (by kernel_rfl) (by kernel_rfl) (fun _ _ _ h => h) (Or.inl ⟨by rfl, ?cy12⟩) (by assumption) ?cr12
      case cy12 => (intro W hSw; obtain ⟨⟨x0, x1⟩, y0, y1⟩ := CX.out W hSw; go_simp; try with_reducible rfl)
      try simp only [Act.put, List.setIfInBounds_toArray, List.set_cons_zero, List.set_cons_succ]
      refine takeH (i := 13) (d := some 56) (v := ?cv13) rfl rfl (by kernel_rfl) (by kernel_rfl) (by kernel_rfl) (fun _ _ _ h => h) (Or.inl ⟨by rfl, ?cy13⟩) (by assumption) ?cr13
      case cy13 => (intro W hSw; obtain ⟨⟨x0, x1⟩, y0, y1⟩ := CX.out W hSw; go_simp; try with_reducible rfl)
      try simp only [Act.put, List.setIfInBounds_toArray, List.set_cons_zero, List.set_cons_succ]
      refine takeH (i := 14) (d := some 57) (v := ?cv14) rfl rfl (by kernel_rfl) (by kernel_rfl) (by kernel_rfl) (fun _ _ _ h => h) (Or.inl ⟨by rfl, ?cy14⟩) (by assumption) ?cr14
      case cy14 => (intro W hSw; obtain ⟨⟨x0, x1⟩, y0, y1⟩ := CX.out W hSw; go_simp; try with_reducible rfl)
      try simp only [Act.put, List.setIfInBounds_toArray, List.set_cons_zero, List.set_cons_succ]
      refine takeH (i := 15) (d := some 58) (v := ?cv15) rfl rfl (by kernel_rfl) (by kernel_rfl) (by kernel_rfl) (fun _ _ _ h => h) (Or.inl ⟨by rfl, ?cy15⟩) (by assumption) ?cr15
      case cy15 => (intro W hSw; obtain ⟨⟨x0, x1⟩, y0, y1⟩ := CX.out W hSw; go_simp; try with_reducible rfl)
      try simp only [Act.put, List.setIfInBounds_toArray, List.set_cons_zero, List.set_cons_succ]
      refine wpAnyH_ready (rs := [16]) (by kernel_rfl) (by simp) ?_
      refine AllReadyH.cons rfl (fun K hK => ?_) AllReadyH.nil
      go_simp
      refine (L3.out _ _ hHeld).mono ?_
      rintro e wv ⟨rfl, hv⟩
      first | done | skip
      refine hK.out _ _ hv (fun hHeld => ?_)
      clear hK K hv
      try simp only [Act.put, List.setIfInBounds_toArray, List.set_cons_zero, List.set_cons_succ]
      refine takeH (i := 17) (d := some 60) (v := ?cv17) rfl rfl (by kernel_rfl) (by kernel_rfl) (by kernel_rfl) (fun _ _ _ h => h) (Or.inl ⟨by rfl, ?cy17⟩) (by assumption) ?cr17
      case cy17 => (intro W hSw; obtain ⟨⟨x0, x1⟩, y0, y1⟩ := CX.out W hSw; go_simp; try with_reducible rfl)
      try simp only [Act.put, List.setIfInBounds_toArray, List.set_cons_zero, List.set_cons_succ]
      refine takeH (i := 18) (d := some 61) (v := ?cv18) rfl rfl (by kernel_rfl) (by kernel_rfl) (by kernel_rfl) (fun _ _ _ h => h) (Or.inl ⟨by rfl, ?cy18⟩) (by assumption) ?cr18
      case cy18 => (intro W hSw; obtain ⟨⟨x0, x1⟩, y0, y1⟩ := CX.out W hSw; go_simp; try with_reducible rfl)
      try simp only [Act.put, List.setIfInBounds_toArray, List.set_cons_zero, List.set_cons_succ]
      refine takeH (i := 19) (d := some 62) (v := ?cv19) rfl rfl (by kernel_rfl) (by kernel_rfl) (by kernel_rfl) (fun _ _ _ h => h) (Or.inl ⟨by rfl, ?cy19⟩) (by assumption) ?cr19
      case cy19 => (intro W hSw; obtain ⟨⟨x0, x1⟩, y0, y1⟩ := CX.out W hSw; go_simp; try with_reducible rfl)
      try simp only [Act.put, List.setIfInBounds_toArray, List.set_cons_zero, List.set_cons_succ]
      refine wpAnyH_ready (rs := [20]) (by kernel_rfl) (by simp) ?_
      refine AllReadyH.cons rfl (fun K hK => ?_) AllReadyH.nil
      go_simp
      refine (KE2.out _ hHeld).mono ?_
      rintro e wv ⟨rfl, hv⟩
      first | done | skip
      refine hK.out _ _ hv (fun hHeld => ?_)
      clear hK K hv
      try simp only [Act.put, List.setIfInBounds_toArray, List.set_cons_zero, List.set_cons_succ]
      refine takeH (i := 21) (d := some 64) (v := ?cv21) rfl rfl (by kernel_rfl) (by kernel_rfl) (by kernel_rfl) (fun _ _ _ h => h) (Or.inl ⟨by rfl, ?cy21⟩) (by assumption) ?cr21
      case cy21 => (intro W hSw; obtain ⟨⟨x0, x1⟩, y0, y1⟩ := CX.out W hSw; go_simp; try with_reducible rfl)
      try simp only [Act.put, List.setIfInBounds_toArray, List.set_cons_zero, List.set_cons_succ]
      refine takeH (i := 22) (d := some 4) (v := ?cv22) rfl rfl (by kernel_rfl) (by kernel_rfl) (by kernel_rfl) (fun _ _ _ h => h) (Or.inl ⟨by rfl, ?cy22⟩) (by assumption) ?cr22
      case cy22 => (intro W hSw; obtain ⟨⟨x0, x1⟩, y0, y1⟩ := CX.out W hSw; go_simp; try with_reducible rfl)
      try simp only [Act.put, List.setIfInBounds_toArray, List.set_cons_zero, List.set_cons_succ]
      refine wpAnyH_done (by kernel_rfl) ?_ _
      go_wp2
      go_ret
      exact ⟨rfl, KB.out.trans hHeld⟩
  by_cases ho : o = o'
  · subst ho
    have hd : ¬ d = d' := fun e => hs ⟨rfl, e⟩
    obtain rfl := LM.out hs
    clear hs
    cases c with
    | false =>
      obtain rfl := X0.out rfl
      clear X0 X1 XY SM LE LM
      unfold kyV
      go_enter Tryd.func5, Tryd.ntmps5
      go_wp2_with fail
      obtain ⟨⟨x0, x1⟩, y0, y1⟩ := CX.out _ HV.out
      go_region_held3 (fun W => (W.cell? ⟨w.heap.size, 0, none⟩ = some (.int .i64 o) ∧ W.cell? ⟨w.heap.size, 1, none⟩ = some (.int .i64 d)) ∧ W.cell? ⟨w.heap.size + 1, 0, none⟩ = some (.int .i64 o) ∧ W.cell? ⟨w.heap.size + 1, 1, none⟩ = some (.int .i64 d'))
        (first | exact CX.out _ HV.out | exact CX.out _ (HV.out.trans (ky_drew _)) | assumption) (first
        | (go_at_call 15; refine (P1.out _ _ (HV.out.trans (ky_drew _))).mono ?_; clear HV P1; rintro e wv ⟨rfl, hv⟩; have HV := Lib.hid hv; have zv := CX.out _ hv; clear hv)
        | (go_at_call 15; refine (P2.out _ _ HV.out).mono ?_; clear HV P2; rintro e wv ⟨rfl, hv⟩; have HV := Lib.hid hv; have zv := CX.out _ hv; clear hv))
      clear x0 x1 y0 y1
      obtain ⟨⟨x0, x1⟩, y0, y1⟩ := CX.out _ HV.out
      go_wp2_with fail
      refine (K1.out _).mono ?_
      rintro e wv ⟨rfl, hv⟩
      have HV := Lib.hid (HV.out.trans hv)
      clear hv x0 x1 y0 y1
      obtain ⟨⟨x0, x1⟩, y0, y1⟩ := CX.out _ HV.out
      go_wp2_with fail
      refine (K1.out _).mono ?_
      rintro e wv ⟨rfl, hv⟩
      have HV := Lib.hid (HV.out.trans hv)
      clear hv x0 x1 y0 y1
      obtain ⟨⟨x0, x1⟩, y0, y1⟩ := CX.out _ HV.out
      go_wp2_with fail
      refine (K1.out _).mono ?_
      rintro e wv ⟨rfl, hv⟩
      have HV := Lib.hid (HV.out.trans hv)
      clear hv x0 x1 y0 y1
      obtain ⟨⟨x0, x1⟩, y0, y1⟩ := CX.out _ HV.out
      go_wp2_with fail
      cases m
      all_goals go_region_held3 (fun W => (W.cell? ⟨w.heap.size, 0, none⟩ = some (.int .i64 o) ∧ W.cell? ⟨w.heap.size, 1, none⟩ = some (.int .i64 d)) ∧ W.cell? ⟨w.heap.size + 1, 0, none⟩ = some (.int .i64 o) ∧ W.cell? ⟨w.heap.size + 1, 1, none⟩ = some (.int .i64 d'))
        (first | exact CX.out _ HV.out | exact CX.out _ (HV.out.trans (ky_drew _)) | assumption) (first
        | (go_at_call 17; refine (L1.out _ _ (HV.out.trans (ky_drew _))).mono ?_; clear HV L1; rintro e wv ⟨rfl, hv⟩; have HV := Lib.hid hv; have zv := CX.out _ hv; clear hv)
        | (go_at_call 17; refine (L2.out _ _ HV.out).mono ?_; clear HV L2; rintro e wv ⟨rfl, hv⟩; have HV := Lib.hid hv; have zv := CX.out _ hv; clear hv)
        | (go_at_call 17; refine (L3.out _ _ HV.out).mono ?_; clear HV L3; rintro e wv ⟨rfl, hv⟩; have HV := Lib.hid hv; have zv := CX.out _ hv; clear hv)
        | (go_at_call 19; refine (KE2.out _ HV.out).mono ?_; clear HV KE2; rintro e wv ⟨rfl, hv⟩; have HV := Lib.hid hv; have zv := CX.out _ hv; clear hv))
      all_goals go_wp2
      all_goals go_ret
      all_goals exact ⟨rfl, KB.out.trans HV.out⟩
    | true =>
      have tX := no_empty (X1.out rfl)
      cases c' with
      | false =>
        clear X0 X1 XY SM LE LM
        unfold kyV
        go_enter Tryd.func5, Tryd.ntmps5
        go_wp2_with fail
        obtain ⟨⟨x0, x1⟩, y0, y1⟩ := CX.out _ HV.out
        go_region_held3 (fun W => (W.cell? ⟨w.heap.size, 0, none⟩ = some (.int .i64 o) ∧ W.cell? ⟨w.heap.size, 1, none⟩ = some (.int .i64 d)) ∧ W.cell? ⟨w.heap.size + 1, 0, none⟩ = some (.int .i64 o) ∧ W.cell? ⟨w.heap.size + 1, 1, none⟩ = some (.int .i64 d'))
          (first | exact CX.out _ HV.out | exact CX.out _ (HV.out.trans (ky_drew _)) | assumption) (first
          | (go_at_call 15; refine (P1.out _ _ (HV.out.trans (ky_drew _))).mono ?_; clear HV P1; rintro e wv ⟨rfl, hv⟩; have HV := Lib.hid hv; have zv := CX.out _ hv; clear hv)
          | (go_at_call 15; refine (P2.out _ _ HV.out).mono ?_; clear HV P2; rintro e wv ⟨rfl, hv⟩; have HV := Lib.hid hv; have zv := CX.out _ hv; clear hv))
        clear x0 x1 y0 y1
        obtain ⟨⟨x0, x1⟩, y0, y1⟩ := CX.out _ HV.out
        go_wp2_with fail
        refine (K1.out _).mono ?_
        rintro e wv ⟨rfl, hv⟩
        have HV := Lib.hid (HV.out.trans hv)
        clear hv x0 x1 y0 y1
        obtain ⟨⟨x0, x1⟩, y0, y1⟩ := CX.out _ HV.out
        go_wp2_with fail
        refine (K1.out _).mono ?_
        rintro e wv ⟨rfl, hv⟩
        have HV := Lib.hid (HV.out.trans hv)
        clear hv x0 x1 y0 y1
        obtain ⟨⟨x0, x1⟩, y0, y1⟩ := CX.out _ HV.out
        go_wp2_with fail
        refine (GT.out trivial _ HV.out).mono ?_
        rintro e wv ⟨rfl, hv⟩
        have HV := Lib.hid (HV.out.trans hv)
        clear hv x0 x1 y0 y1
        obtain ⟨⟨x0, x1⟩, y0, y1⟩ := CX.out _ HV.out
        go_wp2_with fail
        refine (K1.out _).mono ?_
        rintro e wv ⟨rfl, hv⟩
        have HV := Lib.hid (HV.out.trans hv)
        clear hv x0 x1 y0 y1
        obtain ⟨⟨x0, x1⟩, y0, y1⟩ := CX.out _ HV.out
        go_wp2_with fail
        refine (K2.out _).mono ?_
        rintro e wv ⟨rfl, hv⟩
        have HV := Lib.hid (HV.out.trans hv)
        clear hv x0 x1 y0 y1
        obtain ⟨⟨x0, x1⟩, y0, y1⟩ := CX.out _ HV.out
        go_wp2_with fail
        cases m
        all_goals go_region_held3 (fun W => (W.cell? ⟨w.heap.size, 0, none⟩ = some (.int .i64 o) ∧ W.cell? ⟨w.heap.size, 1, none⟩ = some (.int .i64 d)) ∧ W.cell? ⟨w.heap.size + 1, 0, none⟩ = some (.int .i64 o) ∧ W.cell? ⟨w.heap.size + 1, 1, none⟩ = some (.int .i64 d'))
          (first | exact CX.out _ HV.out | exact CX.out _ (HV.out.trans (ky_drew _)) | assumption) (first
          | (go_at_call 17; refine (L1.out _ _ (HV.out.trans (ky_drew _))).mono ?_; clear HV L1; rintro e wv ⟨rfl, hv⟩; have HV := Lib.hid hv; have zv := CX.out _ hv; clear hv)
          | (go_at_call 17; refine (L2.out _ _ HV.out).mono ?_; clear HV L2; rintro e wv ⟨rfl, hv⟩; have HV := Lib.hid hv; have zv := CX.out _ hv; clear hv)
          | (go_at_call 17; refine (L3.out _ _ HV.out).mono ?_; clear HV L3; rintro e wv ⟨rfl, hv⟩; have HV := Lib.hid hv; have zv := CX.out _ hv; clear hv)
          | (go_at_call 19; refine (KE2.out _ HV.out).mono ?_; clear HV KE2; rintro e wv ⟨rfl, hv⟩; have HV := Lib.hid hv; have zv := CX.out _ hv; clear hv))
        all_goals go_wp2
        all_goals go_ret
        all_goals exact ⟨rfl, KB.out.trans HV.out⟩
      | true =>
        have tY := bytes_eq fun e => hd (XY.out rfl rfl e).2
        clear X0 X1 XY SM LE LM
        unfold kyV
        go_enter Tryd.func5, Tryd.ntmps5
        go_wp2_with fail
        obtain ⟨⟨x0, x1⟩, y0, y1⟩ := CX.out _ HV.out
        go_region_held3 (fun W => (W.cell? ⟨w.heap.size, 0, none⟩ = some (.int .i64 o) ∧ W.cell? ⟨w.heap.size, 1, none⟩ = some (.int .i64 d)) ∧ W.cell? ⟨w.heap.size + 1, 0, none⟩ = some (.int .i64 o) ∧ W.cell? ⟨w.heap.size + 1, 1, none⟩ = some (.int .i64 d'))
          (first | exact CX.out _ HV.out | exact CX.out _ (HV.out.trans (ky_drew _)) | assumption) (first
          | (go_at_call 15; refine (P1.out _ _ (HV.out.trans (ky_drew _))).mono ?_; clear HV P1; rintro e wv ⟨rfl, hv⟩; have HV := Lib.hid hv; have zv := CX.out _ hv; clear hv)
          | (go_at_call 15; refine (P2.out _ _ HV.out).mono ?_; clear HV P2; rintro e wv ⟨rfl, hv⟩; have HV := Lib.hid hv; have zv := CX.out _ hv; clear hv))
        clear x0 x1 y0 y1
        obtain ⟨⟨x0, x1⟩, y0, y1⟩ := CX.out _ HV.out
        go_wp2_with fail
        refine (K1.out _).mono ?_
        rintro e wv ⟨rfl, hv⟩
        have HV := Lib.hid (HV.out.trans hv)
        clear hv x0 x1 y0 y1
        obtain ⟨⟨x0, x1⟩, y0, y1⟩ := CX.out _ HV.out
        go_wp2_with fail
        refine (K1.out _).mono ?_
        rintro e wv ⟨rfl, hv⟩
        have HV := Lib.hid (HV.out.trans hv)
        clear hv x0 x1 y0 y1
        obtain ⟨⟨x0, x1⟩, y0, y1⟩ := CX.out _ HV.out
        go_wp2_with fail
        refine (GT.out trivial _ HV.out).mono ?_
        rintro e wv ⟨rfl, hv⟩
        have HV := Lib.hid (HV.out.trans hv)
        clear hv x0 x1 y0 y1
        obtain ⟨⟨x0, x1⟩, y0, y1⟩ := CX.out _ HV.out
        go_wp2_with fail
        refine (K1.out _).mono ?_
        rintro e wv ⟨rfl, hv⟩
        have HV := Lib.hid (HV.out.trans hv)
        clear hv x0 x1 y0 y1
        obtain ⟨⟨x0, x1⟩, y0, y1⟩ := CX.out _ HV.out
        go_wp2_with fail
        refine (K2.out _).mono ?_
        rintro e wv ⟨rfl, hv⟩
        have HV := Lib.hid (HV.out.trans hv)
        clear hv x0 x1 y0 y1
        obtain ⟨⟨x0, x1⟩, y0, y1⟩ := CX.out _ HV.out
        go_wp2_with fail
        cases m
        all_goals go_region_held3 (fun W => (W.cell? ⟨w.heap.size, 0, none⟩ = some (.int .i64 o) ∧ W.cell? ⟨w.heap.size, 1, none⟩ = some (.int .i64 d)) ∧ W.cell? ⟨w.heap.size + 1, 0, none⟩ = some (.int .i64 o) ∧ W.cell? ⟨w.heap.size + 1, 1, none⟩ = some (.int .i64 d'))
          (first | exact CX.out _ HV.out | exact CX.out _ (HV.out.trans (ky_drew _)) | assumption) (first
          | (go_at_call 17; refine (L1.out _ _ (HV.out.trans (ky_drew _))).mono ?_; clear HV L1; rintro e wv ⟨rfl, hv⟩; have HV := Lib.hid hv; have zv := CX.out _ hv; clear hv)
          | (go_at_call 17; refine (L2.out _ _ HV.out).mono ?_; clear HV L2; rintro e wv ⟨rfl, hv⟩; have HV := Lib.hid hv; have zv := CX.out _ hv; clear hv)
          | (go_at_call 17; refine (L3.out _ _ HV.out).mono ?_; clear HV L3; rintro e wv ⟨rfl, hv⟩; have HV := Lib.hid hv; have zv := CX.out _ hv; clear hv)
          | (go_at_call 19; refine (KE2.out _ HV.out).mono ?_; clear HV KE2; rintro e wv ⟨rfl, hv⟩; have HV := Lib.hid hv; have zv := CX.out _ hv; clear hv))
        all_goals go_wp2
        all_goals go_ret
        all_goals exact ⟨rfl, KB.out.trans HV.out⟩
  · obtain rfl := LM.out hs
    clear hs
    cases c with
    | false =>
      obtain rfl := X0.out rfl
      clear X0 X1 XY SM LE LM
      unfold kyV
      go_enter Tryd.func5, Tryd.ntmps5
      go_wp2_with fail
      obtain ⟨⟨x0, x1⟩, y0, y1⟩ := CX.out _ HV.out
      go_region_held3 (fun W => (W.cell? ⟨w.heap.size, 0, none⟩ = some (.int .i64 o) ∧ W.cell? ⟨w.heap.size, 1, none⟩ = some (.int .i64 d)) ∧ W.cell? ⟨w.heap.size + 1, 0, none⟩ = some (.int .i64 o') ∧ W.cell? ⟨w.heap.size + 1, 1, none⟩ = some (.int .i64 d'))
        (first | exact CX.out _ HV.out | exact CX.out _ (HV.out.trans (ky_drew _)) | assumption) (first
        | (go_at_call 15; refine (P1.out _ _ (HV.out.trans (ky_drew _))).mono ?_; clear HV P1; rintro e wv ⟨rfl, hv⟩; have HV := Lib.hid hv; have zv := CX.out _ hv; clear hv)
        | (go_at_call 15; refine (P2.out _ _ HV.out).mono ?_; clear HV P2; rintro e wv ⟨rfl, hv⟩; have HV := Lib.hid hv; have zv := CX.out _ hv; clear hv))
      clear x0 x1 y0 y1
      obtain ⟨⟨x0, x1⟩, y0, y1⟩ := CX.out _ HV.out
      go_wp2_with fail
      refine (K1.out _).mono ?_
      rintro e wv ⟨rfl, hv⟩
      have HV := Lib.hid (HV.out.trans hv)
      clear hv x0 x1 y0 y1
      obtain ⟨⟨x0, x1⟩, y0, y1⟩ := CX.out _ HV.out
      go_wp2_with fail
      refine (K1.out _).mono ?_
      rintro e wv ⟨rfl, hv⟩
      have HV := Lib.hid (HV.out.trans hv)
      clear hv x0 x1 y0 y1
      obtain ⟨⟨x0, x1⟩, y0, y1⟩ := CX.out _ HV.out
      go_wp2_with fail
      refine (K1.out _).mono ?_
      rintro e wv ⟨rfl, hv⟩
      have HV := Lib.hid (HV.out.trans hv)
      clear hv x0 x1 y0 y1
      obtain ⟨⟨x0, x1⟩, y0, y1⟩ := CX.out _ HV.out
      go_wp2_with fail
      cases m
      all_goals go_region_held3 (fun W => (W.cell? ⟨w.heap.size, 0, none⟩ = some (.int .i64 o) ∧ W.cell? ⟨w.heap.size, 1, none⟩ = some (.int .i64 d)) ∧ W.cell? ⟨w.heap.size + 1, 0, none⟩ = some (.int .i64 o') ∧ W.cell? ⟨w.heap.size + 1, 1, none⟩ = some (.int .i64 d'))
        (first | exact CX.out _ HV.out | exact CX.out _ (HV.out.trans (ky_drew _)) | assumption) (first
        | (go_at_call 17; refine (L1.out _ _ (HV.out.trans (ky_drew _))).mono ?_; clear HV L1; rintro e wv ⟨rfl, hv⟩; have HV := Lib.hid hv; have zv := CX.out _ hv; clear hv)
        | (go_at_call 17; refine (L2.out _ _ HV.out).mono ?_; clear HV L2; rintro e wv ⟨rfl, hv⟩; have HV := Lib.hid hv; have zv := CX.out _ hv; clear hv)
        | (go_at_call 17; refine (L3.out _ _ HV.out).mono ?_; clear HV L3; rintro e wv ⟨rfl, hv⟩; have HV := Lib.hid hv; have zv := CX.out _ hv; clear hv)
        | (go_at_call 19; refine (KE2.out _ HV.out).mono ?_; clear HV KE2; rintro e wv ⟨rfl, hv⟩; have HV := Lib.hid hv; have zv := CX.out _ hv; clear hv))
      all_goals go_wp2
      all_goals go_ret
      all_goals exact ⟨rfl, KB.out.trans HV.out⟩
    | true =>
      have tX := no_empty (X1.out rfl)
      cases c' with
      | false =>
        clear X0 X1 XY SM LE LM
        unfold kyV
        go_enter Tryd.func5, Tryd.ntmps5
        go_wp2_with fail
        obtain ⟨⟨x0, x1⟩, y0, y1⟩ := CX.out _ HV.out
        go_region_held3 (fun W => (W.cell? ⟨w.heap.size, 0, none⟩ = some (.int .i64 o) ∧ W.cell? ⟨w.heap.size, 1, none⟩ = some (.int .i64 d)) ∧ W.cell? ⟨w.heap.size + 1, 0, none⟩ = some (.int .i64 o') ∧ W.cell? ⟨w.heap.size + 1, 1, none⟩ = some (.int .i64 d'))
          (first | exact CX.out _ HV.out | exact CX.out _ (HV.out.trans (ky_drew _)) | assumption) (first
          | (go_at_call 15; refine (P1.out _ _ (HV.out.trans (ky_drew _))).mono ?_; clear HV P1; rintro e wv ⟨rfl, hv⟩; have HV := Lib.hid hv; have zv := CX.out _ hv; clear hv)
          | (go_at_call 15; refine (P2.out _ _ HV.out).mono ?_; clear HV P2; rintro e wv ⟨rfl, hv⟩; have HV := Lib.hid hv; have zv := CX.out _ hv; clear hv))
        clear x0 x1 y0 y1
        obtain ⟨⟨x0, x1⟩, y0, y1⟩ := CX.out _ HV.out
        go_wp2_with fail
        refine (K1.out _).mono ?_
        rintro e wv ⟨rfl, hv⟩
        have HV := Lib.hid (HV.out.trans hv)
        clear hv x0 x1 y0 y1
        obtain ⟨⟨x0, x1⟩, y0, y1⟩ := CX.out _ HV.out
        go_wp2_with fail
        refine (K1.out _).mono ?_
        rintro e wv ⟨rfl, hv⟩
        have HV := Lib.hid (HV.out.trans hv)
        clear hv x0 x1 y0 y1
        obtain ⟨⟨x0, x1⟩, y0, y1⟩ := CX.out _ HV.out
        go_wp2_with fail
        refine (GT.out trivial _ HV.out).mono ?_
        rintro e wv ⟨rfl, hv⟩
        have HV := Lib.hid (HV.out.trans hv)
        clear hv x0 x1 y0 y1
        obtain ⟨⟨x0, x1⟩, y0, y1⟩ := CX.out _ HV.out
        go_wp2_with fail
        refine (K1.out _).mono ?_
        rintro e wv ⟨rfl, hv⟩
        have HV := Lib.hid (HV.out.trans hv)
        clear hv x0 x1 y0 y1
        obtain ⟨⟨x0, x1⟩, y0, y1⟩ := CX.out _ HV.out
        go_wp2_with fail
        refine (K2.out _).mono ?_
        rintro e wv ⟨rfl, hv⟩
        have HV := Lib.hid (HV.out.trans hv)
        clear hv x0 x1 y0 y1
        obtain ⟨⟨x0, x1⟩, y0, y1⟩ := CX.out _ HV.out
        go_wp2_with fail
        cases m
        all_goals go_region_held3 (fun W => (W.cell? ⟨w.heap.size, 0, none⟩ = some (.int .i64 o) ∧ W.cell? ⟨w.heap.size, 1, none⟩ = some (.int .i64 d)) ∧ W.cell? ⟨w.heap.size + 1, 0, none⟩ = some (.int .i64 o') ∧ W.cell? ⟨w.heap.size + 1, 1, none⟩ = some (.int .i64 d'))
          (first | exact CX.out _ HV.out | exact CX.out _ (HV.out.trans (ky_drew _)) | assumption) (first
          | (go_at_call 17; refine (L1.out _ _ (HV.out.trans (ky_drew _))).mono ?_; clear HV L1; rintro e wv ⟨rfl, hv⟩; have HV := Lib.hid hv; have zv := CX.out _ hv; clear hv)
          | (go_at_call 17; refine (L2.out _ _ HV.out).mono ?_; clear HV L2; rintro e wv ⟨rfl, hv⟩; have HV := Lib.hid hv; have zv := CX.out _ hv; clear hv)
          | (go_at_call 17; refine (L3.out _ _ HV.out).mono ?_; clear HV L3; rintro e wv ⟨rfl, hv⟩; have HV := Lib.hid hv; have zv := CX.out _ hv; clear hv)
          | (go_at_call 19; refine (KE2.out _ HV.out).mono ?_; clear HV KE2; rintro e wv ⟨rfl, hv⟩; have HV := Lib.hid hv; have zv := CX.out _ hv; clear hv))
        all_goals go_wp2
        all_goals go_ret
        all_goals exact ⟨rfl, KB.out.trans HV.out⟩
      | true =>
        have tY := bytes_eq fun e => ho (XY.out rfl rfl e).1
        clear X0 X1 XY SM LE LM
        unfold kyV
        go_enter Tryd.func5, Tryd.ntmps5
        go_wp2_with fail
        obtain ⟨⟨x0, x1⟩, y0, y1⟩ := CX.out _ HV.out
        go_region_held3 (fun W => (W.cell? ⟨w.heap.size, 0, none⟩ = some (.int .i64 o) ∧ W.cell? ⟨w.heap.size, 1, none⟩ = some (.int .i64 d)) ∧ W.cell? ⟨w.heap.size + 1, 0, none⟩ = some (.int .i64 o') ∧ W.cell? ⟨w.heap.size + 1, 1, none⟩ = some (.int .i64 d'))
          (first | exact CX.out _ HV.out | exact CX.out _ (HV.out.trans (ky_drew _)) | assumption) (first
          | (go_at_call 15; refine (P1.out _ _ (HV.out.trans (ky_drew _))).mono ?_; clear HV P1; rintro e wv ⟨rfl, hv⟩; have HV := Lib.hid hv; have zv := CX.out _ hv; clear hv)
          | (go_at_call 15; refine (P2.out _ _ HV.out).mono ?_; clear HV P2; rintro e wv ⟨rfl, hv⟩; have HV := Lib.hid hv; have zv := CX.out _ hv; clear hv))
        clear x0 x1 y0 y1
        obtain ⟨⟨x0, x1⟩, y0, y1⟩ := CX.out _ HV.out
        go_wp2_with fail
        refine (K1.out _).mono ?_
        rintro e wv ⟨rfl, hv⟩
        have HV := Lib.hid (HV.out.trans hv)
        clear hv x0 x1 y0 y1
        obtain ⟨⟨x0, x1⟩, y0, y1⟩ := CX.out _ HV.out
        go_wp2_with fail
        refine (K1.out _).mono ?_
        rintro e wv ⟨rfl, hv⟩
        have HV := Lib.hid (HV.out.trans hv)
        clear hv x0 x1 y0 y1
        obtain ⟨⟨x0, x1⟩, y0, y1⟩ := CX.out _ HV.out
        go_wp2_with fail
        refine (GT.out trivial _ HV.out).mono ?_
        rintro e wv ⟨rfl, hv⟩
        have HV := Lib.hid (HV.out.trans hv)
        clear hv x0 x1 y0 y1
        obtain ⟨⟨x0, x1⟩, y0, y1⟩ := CX.out _ HV.out
        go_wp2_with fail
        refine (K1.out _).mono ?_
        rintro e wv ⟨rfl, hv⟩
        have HV := Lib.hid (HV.out.trans hv)
        clear hv x0 x1 y0 y1
        obtain ⟨⟨x0, x1⟩, y0, y1⟩ := CX.out _ HV.out
        go_wp2_with fail
        refine (K2.out _).mono ?_
        rintro e wv ⟨rfl, hv⟩
        have HV := Lib.hid (HV.out.trans hv)
        clear hv x0 x1 y0 y1
        obtain ⟨⟨x0, x1⟩, y0, y1⟩ := CX.out _ HV.out
        go_wp2_with fail
        cases m
        all_goals go_region_held3 (fun W => (W.cell? ⟨w.heap.size, 0, none⟩ = some (.int .i64 o) ∧ W.cell? ⟨w.heap.size, 1, none⟩ = some (.int .i64 d)) ∧ W.cell? ⟨w.heap.size + 1, 0, none⟩ = some (.int .i64 o') ∧ W.cell? ⟨w.heap.size + 1, 1, none⟩ = some (.int .i64 d'))
          (first | exact CX.out _ HV.out | exact CX.out _ (HV.out.trans (ky_drew _)) | assumption) (first
          | (go_at_call 17; refine (L1.out _ _ (HV.out.trans (ky_drew _))).mono ?_; clear HV L1; rintro e wv ⟨rfl, hv⟩; have HV := Lib.hid hv; have zv := CX.out _ hv; clear hv)
          | (go_at_call 17; refine (L2.out _ _ HV.out).mono ?_; clear HV L2; rintro e wv ⟨rfl, hv⟩; have HV := Lib.hid hv; have zv := CX.out _ hv; clear hv)
          | (go_at_call 17; refine (L3.out _ _ HV.out).mono ?_; clear HV L3; rintro e wv ⟨rfl, hv⟩; have HV := Lib.hid hv; have zv := CX.out _ hv; clear hv)
          | (go_at_call 19; refine (KE2.out _ HV.out).mono ?_; clear HV KE2; rintro e wv ⟨rfl, hv⟩; have HV := Lib.hid hv; have zv := CX.out _ hv; clear hv))
        all_goals go_wp2
        all_goals go_ret
        all_goals exact ⟨rfl, KB.out.trans HV.out⟩
end Go.Proofs.YtkjjadacpbbnhaaDoor
