/- The document's party: Ask. -/
import Derived.Test.YtkffpmeocfhcpaaDoorPtRefH
set_option linter.unusedVariables false
set_option linter.unusedSimpArgs false
namespace Go.Proofs.YtkffpmeocfhcpaaDoor
open Go.ChangeShapes Go.WideShapes Go.ChangeAt Go.RowKit Ky Rw Csv
namespace Pt
open Pp
set_option maxHeartbeats 16000000 in
set_option maxRecDepth 100000 in
theorem rp_ask (b : Nat) (p : P) (seq : Int) (m : M) (w : World) (h : RefP w b p seq) (hi : Inv p) (hs : m.s.size ≤ maxLen) :
    Calls Tryd.prog 14 #[.pointer (some ⟨b, 0, none⟩), pmV m] w fun e w' => e = .returned (.tuple #[ansV m (ask p m).2, .bool (ask p m).2.isSome]) ∧ RefP w' b (ask p m).1 seq ∧ Only (fun i => i = b) w w' := by
  have BLT : Hid (b < w.heap.size) := Lib.hid (by obtain ⟨_, _, hb, _⟩ := h; exact (Array.getElem?_eq_some_iff.1 hb).1)
  have HW := Lib.hid h
  obtain ⟨w2, hw2⟩ : ∃ w2, (w.alloc (pmBox m)).alloc noObj = w2 := ⟨_, rfl⟩
  have K2 : Hid (Keeps w w2) := Lib.hid (hw2 ▸ (ky_box w (pmBox m)).trans (ky_box (w.alloc (pmBox m)) noObj))
  have B3 : Hid (w2.heap[w.heap.size]? = some (pmBox m)) := Lib.hid (hw2 ▸ box_keep (heap_alloc_new w _) (ky_box _ _))
  have B4 : Hid (w2.heap[w.heap.size + 1]? = some noObj) := Lib.hid (hw2 ▸ So.two_alloc w _ _)
  have H2 := Lib.hid (h.keeps K2.out)
  have CM := Lib.hid fun (X : World) => or_may m.t m.o m.k m.s m.q m.a m.c X hs
  have FEW : Hid (p.L.length ≤ 120) := Lib.hid hi.few
  have GFEW : Hid (p.G.length ≤ 60) := Lib.hid hi.gfew
  have CF := Lib.hid fun (X : World) (o d : Int) (k : Keeps w2 X) => rp_find b p seq o d X (H2.out.keeps k) (by have := FEW.out; omega)
  have CD := Lib.hid fun (X : World) (k : Keeps w2 X) => rp_does b p seq m X (H2.out.keeps k) hi
  have GN : Hid (p.kind ≠ 1 → p.G = []) := Lib.hid hi.goods
  have Y0 : Hid (∀ X, Keeps w2 X → X.cell? ⟨b, 0, none⟩ = some (.int .i64 p.kind)) := Lib.hid fun X k => by
    obtain ⟨vL, vG, hb, _, _⟩ := H2.out.keeps k
    exact (six_at hb).1.1
  obtain ⟨mb, hmb⟩ : ∃ mb, Od.mayM m.t m.o m.k m.s m.q m.a m.c = mb := ⟨_, rfl⟩
  have HMB : Hid (may m = mb) := Lib.hid hmb
  obtain ⟨kd, hkd⟩ : ∃ kd, p.kind = kd := ⟨_, rfl⟩
  have HKD := Lib.hid hkd
  rw [hmb] at CM
  rw [hkd] at Y0
  obtain ⟨A, hA⟩ : ∃ A, ask p m = A := ⟨_, rfl⟩
  have HA := Lib.hid hA
  rw [hA]
  have EW2 := Lib.hid hw2
  unfold msV at CM
  unfold pmV at CD ⊢
  clear hmb hkd hA hw2 h hi
  unfold noObj pmBox at EW2
  have y0 := Y0.out _ (Keeps.refl _)
  obtain ⟨x0, x1, x2, x3, x4, x5, x6⟩ := pm_box_cells B3.out
  go_enter Tryd.func14, Tryd.ntmps14
  go_upto_region 1 with (fail)
  rw [EW2.out]
  clear EW2
  go_cut [24] (fun v24 wx => v24 = .bool (!(mb && decide (m.t = kd))) ∧ Keeps w2 wx)
  case first =>
    cases mb with
    | false =>
      go_wp2_with (go_region_with ((go_at_call 32; refine (CM.out _).mono ?_; rintro e w1 ⟨rfl, k1⟩; have KK := Lib.hid (show Keeps w2 w1 from (ky_drew _).trans k1); have z0 := cell_keeps KK.out x0; have u0 := cell_keeps KK.out y0; clear k1)))
      all_goals go_wp2_with fail
      all_goals go_meet
      all_goals exact ⟨by simp, KK.out⟩
    | true =>
      by_cases ht : m.t = kd
      · have htb : (m.t != kd) = false := by simpa using ht
        have E0 : Hid (decide (m.t = kd) = true) := Lib.hid (decide_eq_true ht)
        clear ht
        go_wp2_with (go_region_with ((go_at_call 32; refine (CM.out _).mono ?_; rintro e w1 ⟨rfl, k1⟩; have KK := Lib.hid (show Keeps w2 w1 from (ky_drew _).trans k1); have z0 := cell_keeps KK.out x0; have u0 := cell_keeps KK.out y0; clear k1)))
        all_goals go_wp2_with fail
        all_goals go_meet
        all_goals exact ⟨by rw [E0.out]; simp, KK.out⟩
      · have htb : (m.t != kd) = true := by simpa using ht
        have E0 : Hid (decide (m.t = kd) = false) := Lib.hid (decide_eq_false ht)
        clear ht
        go_wp2_with (go_region_with ((go_at_call 32; refine (CM.out _).mono ?_; rintro e w1 ⟨rfl, k1⟩; have KK := Lib.hid (show Keeps w2 w1 from (ky_drew _).trans k1); have z0 := cell_keeps KK.out x0; have u0 := cell_keeps KK.out y0; clear k1)))
        all_goals go_wp2_with fail
        all_goals go_meet
        all_goals exact ⟨by rw [E0.out]; simp, KK.out⟩
  case rest =>
    rename World => wa
    obtain ⟨rfl, ka⟩ := hcut
    have KA := Lib.hid ka
    clear ka x0 x1 x2 x3 x4 x5 x6 y0 CM
    obtain ⟨x0, x1, x2, x3, x4, x5, x6⟩ := pm_box_cells (box_keep B3.out KA.out)
    obtain ⟨⟨v0, v1, v2, v3, v4, v5, v6⟩, f0, f1, f2, f3, f4, f5, f6⟩ := no_box_cells (box_keep B4.out KA.out)
    obtain ⟨B, hB⟩ : ∃ B, (mb && decide (m.t = kd)) = B := ⟨_, rfl⟩
    have HB := Lib.hid hB
    rw [hB]
    clear hB
    cases B with
    | false =>
      have RE : Hid (A = (p, none)) := Lib.hid (by
        rw [← HA.out]
        refine ask_off ?_
        rintro ⟨a1, a2⟩
        have := HB.out
        rw [← HMB.out, a1, a2, HKD.out] at this
        simp at this)
      clear HA
      go_wp2
      refine bodyPost_ret (v := .tuple #[.agg #[.int .i64 0, .int .i64 0, .int .i64 0, .string ⟨#[]⟩, .int .i64 0, .int .i64 0, .int .i64 0], .bool false]) (by simp [results, Tryd.results14, go_sem, v0, v1, v2, v3, v4, v5, v6]) rfl ?_
      rw [RE.out]
      have kk := Only.keeps (Pp.seven_set wa (w.heap.size + 1) (.int .i64 0) (.int .i64 0) (.int .i64 0) (.string ⟨#[]⟩) (.int .i64 0) (.int .i64 0) (.int .i64 0)) (K2.out.trans KA.out) (fun i hi => by omega)
      exact ⟨rfl, HW.out.keeps kk, Only.of_keeps kk⟩
    | true =>
      have OK : Hid (may m = true ∧ m.t = p.kind) := Lib.hid (by
        have := HB.out
        simp only [Bool.and_eq_true, decide_eq_true_eq] at this
        exact ⟨HMB.out.trans this.1, this.2.trans HKD.out.symm⟩)
      have CH : Hid (Chk m.o m.k) := Lib.hid (may_ok OK.out.1).key
      obtain ⟨r, hr⟩ : ∃ r, fdV p.L m.o m.k = r := ⟨_, rfl⟩
      obtain ⟨iss, hiss⟩ : ∃ iss, fdB p.L m.o m.k = iss := ⟨_, rfl⟩
      have HR := Lib.hid hr
      have HIS := Lib.hid hiss
      have CF1 := Lib.hid (CF.out wa m.o m.k KA.out)
      rw [hr, hiss] at CF1
      unfold rwV at CF1
      clear hr hiss v0 v1 v2 v3 v4 v5 v6 f0 f1 f2 f3 f4 f5 f6
      go_wp2_with fail
      refine CF1.out.mono ?_
      rintro e w3 ⟨rfl, k3⟩
      obtain ⟨w5, hw5⟩ : ∃ w5, w3.alloc (rwBox r) = w5 := ⟨_, rfl⟩
      have K5 : Hid (Keeps w2 w5) := Lib.hid (hw5 ▸ (KA.out.trans k3).trans (ky_box _ _))
      have B6 : Hid (w5.heap[w3.heap.size]? = some (rwBox r)) := Lib.hid (hw5 ▸ heap_alloc_new w3 _)
      have N6 : Hid (w.heap.size + 1 < w3.heap.size) := Lib.hid (by
        have h1 := (KA.out.trans k3).size
        have h2 := (Array.getElem?_eq_some_iff.1 B4.out).1
        omega)
      have EW5 := Lib.hid hw5
      obtain ⟨n6, hn6⟩ : ∃ n6, w3.heap.size = n6 := ⟨_, rfl⟩
      rw [hn6] at B6 N6
      have EN6 := Lib.hid hn6
      clear k3 hw5 CF1 x0 x1 x2 x3 x4 x5 x6 hn6
      unfold rwBox at EW5
      go_upto_if 33 with fail
      rw [EW5.out, EN6.out]
      clear EW5 EN6
      obtain ⟨x0, x1, x2, x3, x4, x5, x6⟩ := pm_box_cells (box_keep B3.out K5.out)
      obtain ⟨⟨v0, v1, v2, v3, v4, v5, v6⟩, f0, f1, f2, f3, f4, f5, f6⟩ := no_box_cells (box_keep B4.out K5.out)
      obtain ⟨⟨r0, r1, r2, r3, r4⟩, g0, g1, g2, g3, g4⟩ := rw_box_cells B6.out
      cases iss with
      | true =>
        have RE : Hid (A = (p, some r.c)) := Lib.hid (by
          rw [← HA.out]
          exact ask_there OK.out (fd_get HR.out HIS.out))
        clear HA
        go_wp2
        refine bodyPost_ret (v := .tuple #[.agg #[.int .i64 3, .int .i64 m.o, .int .i64 m.k, .string ⟨#[]⟩, .int .i64 0, .int .i64 0, .int .i64 r.c], .bool true]) (by simp [results, Tryd.results14, go_sem, v0, v1, v2, v3, v4, v5, v6]) rfl ?_
        rw [RE.out]
        have kk := Only.keeps (Pp.seven_set w5 (w.heap.size + 1) (.int .i64 3) (.int .i64 m.o) (.int .i64 m.k) (.string ⟨#[]⟩) (.int .i64 0) (.int .i64 0) (.int .i64 r.c)) (K2.out.trans K5.out) (fun i hi => by omega)
        exact ⟨rfl, HW.out.keeps kk, Only.of_keeps kk⟩
      | false =>
        have RE : Hid (A = ((done p m).1, some (done p m).2)) := Lib.hid (by
          rw [← HA.out]
          exact ask_new OK.out (fd_not HIS.out))
        obtain ⟨uw, huw⟩ : ∃ uw, undoW m.k = uw := ⟨_, rfl⟩
        obtain ⟨ub, hub⟩ : ∃ ub, undoB m.k = ub := ⟨_, rfl⟩
        have CU := Lib.hid (kr_undoes m.k w5 (chk64 CH.out).2)
        rw [huw, hub] at CU
        have U1 : Hid (ub = true → 3 ≤ m.k ∧ uw = m.k - 3) := Lib.hid (by
          intro e
          rw [← hub] at e
          unfold undoB at e
          simp only [Bool.and_eq_true, decide_eq_true_eq] at e
          exact ⟨e.1, by rw [← huw]; unfold undoW; rw [if_pos e]⟩)
        have U0 : Hid (ub = false → m.k < 3) := Lib.hid (by
          intro e
          refine Int.not_le.1 fun h3 => ?_
          rw [← hub] at e
          unfold undoB at e
          have h6 : m.k < 6 := CH.out.d1
          simp [h3, h6] at e)
        clear huw hub HA
        go_wp2_with fail
        refine CU.out.mono ?_
        rintro e w6 ⟨rfl, rfl⟩
        clear CU
        go_upto_if 46 with fail
        go_cut [] (fun wx => AskAt w wx b n6 m seq A)
        case first =>
          cases ub with
          | true =>
            have H3 : Hid (3 ≤ m.k) := Lib.hid (U1.out rfl).1
            have HU : Hid (uw = m.k - 3) := Lib.hid (U1.out rfl).2
            obtain ⟨ru, hru⟩ : ∃ ru, fdV p.L m.o uw = ru := ⟨_, rfl⟩
            obtain ⟨there, hth⟩ : ∃ there, fdB p.L m.o uw = there := ⟨_, rfl⟩
            have CF2 := Lib.hid fun (X : World) (k : Keeps w2 X) => CF.out X m.o uw k
            simp only [hru, hth] at CF2
            have RD : Hid (A = (⟨p.kind, p.stock, p.limit, ins ⟨m.o, m.k, 1, ru.a, ru.q⟩ (if there = true then p.L else ins ⟨m.o, uw, 2, 0, 0⟩ p.L), free m.o p.G⟩, some 1)) := Lib.hid (by
              rw [RE.out, done_undo H3.out HU.out hth hru])
            unfold rwV at CF2
            clear hru hth U0 U1 RE v0 v1 v2 v3 v4 v5 v6 f0 f1 f2 f3 f4 f5 f6 g0 g1 g2 g3 g4 r0 r1 r2 r3 r4
            go_wp2_with fail
            refine (CF2.out _ (K5.out.trans (ky_box _ _))).mono ?_
            rintro e w7 ⟨rfl, k7⟩
            obtain ⟨w8, hw8⟩ : ∃ w8, w7.alloc (rwBox ru) = w8 := ⟨_, rfl⟩
            have K8 : Hid (Keeps w5 w8) := Lib.hid (hw8 ▸ ((ky_box _ _).trans k7).trans (ky_box _ _))
            have BK : Hid (w8.cell? ⟨w5.heap.size, 0, none⟩ = some (.int .i64 m.o) ∧ w8.cell? ⟨w5.heap.size, 1, none⟩ = some (.int .i64 uw)) := Lib.hid (by
              have e := box_keep (heap_alloc_new w5 _) (k7.trans (ky_box w7 (rwBox ru)))
              rw [hw8] at e
              exact ⟨Joins.cell_of_block e 0, Joins.cell_of_block e 1⟩)
            obtain ⟨n11, hn11⟩ : ∃ n11, w7.heap.size = n11 := ⟨_, rfl⟩
            have B11 : Hid (w8.heap[n11]? = some (rwBox ru)) := Lib.hid (by rw [← hn11, ← hw8]; exact heap_alloc_new w7 _)
            have NB : Hid (b ≠ n11) := Lib.hid (by
              have h1 := ((K2.out.trans (K5.out.trans (ky_box _ _))).trans k7).size
              have h2 := BLT.out
              omega)
            have EW8 := Lib.hid hw8
            have EN := Lib.hid hn11
            have UN : Hid (Und w w8 b n6 n11 m seq p r ru) := Lib.hid ⟨((RefQ.of HW.out).mono (fun g hg e => by have := N6.out; omega)).keeps (K2.out.trans (K5.out.trans K8.out)), Only.of_keeps (K2.out.trans (K5.out.trans K8.out)), box_keep B3.out (K5.out.trans K8.out), box_keep B4.out (K5.out.trans K8.out), box_keep B6.out K8.out, B11.out, BLT.out, N6.out, NB.out⟩
            clear k7 hw8 hn11 CF2 x0 x1 x2 x3 x4 x5 x6
            unfold rwBox at EW8
            go_upto_if 59 with fail
            rw [EW8.out, EN.out]
            clear EW8 EN
            go_cut [] (fun wx => Und w wx b n6 n11 m seq ⟨p.kind, p.stock, p.limit, if there = true then p.L else ins ⟨m.o, uw, 2, 0, 0⟩ p.L, p.G⟩ r ru)
            case first =>
              cases there with
              | true =>
                go_wp2_with fail
                go_meet
                exact UN.out
              | false =>
                obtain ⟨k0, k1⟩ := BK.out
                have CW := Lib.hid (rp_write b p seq ⟨m.o, uw, 2, 0, 0⟩ w8 UN.out.ref.ref (by have := FEW.out; omega))
                unfold rwV at CW
                go_wp2_with fail
                refine CW.out.mono ?_
                rintro e w9 ⟨rfl, q1, q2⟩
                have Q1 : Hid (RefQ (fun g => g ≠ n6) w9 b ⟨p.kind, p.stock, p.limit, ins ⟨m.o, uw, 2, 0, 0⟩ p.L, p.G⟩ seq) := Lib.hid (q1.mono fun g hg e => by
                  have := (Array.getElem?_eq_some_iff.1 UN.out.b6).1
                  omega)
                have Q2 := Lib.hid (UN.out.to q2 Q1.out)
                clear q1 q2 k0 k1
                go_wp2_with fail
                go_meet
                exact Q2.out
            case rest =>
              rename World => wd
              have U2 := Lib.hid hcut
              obtain ⟨p2, hp2⟩ : ∃ p2 : P, (⟨p.kind, p.stock, p.limit, if there = true then p.L else ins ⟨m.o, uw, 2, 0, 0⟩ p.L, p.G⟩ : P) = p2 := ⟨_, rfl⟩
              rw [hp2] at U2
              have P2 := Lib.hid hp2
              have L2 : Hid (p2.L.length ≤ 400) := Lib.hid (by
                rw [← hp2]
                show (if there = true then p.L else ins ⟨m.o, uw, 2, 0, 0⟩ p.L).length ≤ 400
                have := FEW.out
                split
                · omega
                · rw [ins_len]; omega)
              have k0 : wd.cell? ⟨b, 0, none⟩ = some (.int .i64 kd) := by
                obtain ⟨vL, vG, hb, _⟩ := U2.out.ref
                rw [← HKD.out, show p.kind = p2.kind from by rw [← hp2]]
                exact (six_at hb).1.1
              clear hcut hp2
              by_cases hk1 : kd = 1
              · subst hk1
                obtain ⟨x0, x1, x2, x3, x4, x5, x6⟩ := pm_box_cells U2.out.b3
                have CX := Lib.hid (rp_free b p2 seq m.o wd U2.out.ref (by rw [← P2.out]; exact GFEW.out))
                go_wp2_with fail
                refine CX.out.mono ?_
                rintro e w9 ⟨rfl, q1, q2⟩
                have U3 := Lib.hid (U2.out.to q2 q1)
                clear q1 q2 x0 x1 x2 x3 x4 x5 x6 k0 CX
                obtain ⟨x0, x1, x2, x3, x4, x5, x6⟩ := pm_box_cells U3.out.b3
                obtain ⟨⟨r0, r1, r2', r3, r4⟩, g0, g1, g2, g3, g4⟩ := rw_box_cells U3.out.b6
                obtain ⟨⟨s0, s1, s2, s3, s4⟩, _⟩ := rw_box_cells U3.out.b11
                go_wp2_with fail
                go_meet
                exact U3.out.ask L2.out _ _ _ _ _ (by rw [RD.out, ← P2.out])
              · have hkb : (kd == 1) = false := by simpa using hk1
                obtain ⟨x0, x1, x2, x3, x4, x5, x6⟩ := pm_box_cells U2.out.b3
                obtain ⟨⟨r0, r1, r2', r3, r4⟩, g0, g1, g2, g3, g4⟩ := rw_box_cells U2.out.b6
                obtain ⟨⟨s0, s1, s2, s3, s4⟩, _⟩ := rw_box_cells U2.out.b11
                have GE : Hid (free m.o p.G = p.G) := Lib.hid (by rw [GN.out (fun e => hk1 (HKD.out.symm.trans e))]; rfl)
                clear hk1
                go_wp2_with fail
                go_meet
                exact U2.out.ask L2.out _ _ _ _ _ (by rw [RD.out, GE.out, ← P2.out])
          | false =>
            have H3 : Hid (m.k < 3) := Lib.hid (U0.out rfl)
            obtain ⟨dd, hdd⟩ : ∃ dd, does p m = dd := ⟨_, rfl⟩
            have CD1 := Lib.hid (CD.out w5 K5.out)
            rw [hdd] at CD1
            have DD := Lib.hid hdd
            clear hdd U0 U1 v0 v1 v2 v3 v4 v5 v6 f0 f1 f2 f3 f4 f5 f6 g0 g1 g2 g3 g4 r0 r1 r2 r3 r4
            go_wp2_with fail
            refine CD1.out.mono ?_
            rintro e w7 ⟨rfl, k7⟩
            have UN : Hid (Und w w7 b n6 n6 m seq p r r) := Lib.hid ⟨((RefQ.of HW.out).mono (fun g hg e => by have := N6.out; omega)).keeps (K2.out.trans (K5.out.trans k7)), Only.of_keeps (K2.out.trans (K5.out.trans k7)), box_keep B3.out (K5.out.trans k7), box_keep B4.out (K5.out.trans k7), box_keep B6.out k7, box_keep B6.out k7, BLT.out, N6.out, by have := BLT.out; have := N6.out; omega⟩
            clear k7 CD1 x0 x1 x2 x3 x4 x5 x6
            cases dd with
            | true =>
              have RD := Lib.hid (done_yes H3.out DD.out)
              have k0 : w7.cell? ⟨b, 0, none⟩ = some (.int .i64 kd) := by
                obtain ⟨vL, vG, hb, _⟩ := UN.out.ref
                rw [← HKD.out]
                exact (six_at hb).1.1
              by_cases hk1 : kd = 1
              · subst hk1
                go_upto_region 17 with (fail)
                go_cut [] (fun wx => Und w wx b n6 n6 m seq ⟨p.kind, p.stock, p.limit, p.L, p.G ++ [⟨m.o, m.s, m.q⟩]⟩ r r)
                case first =>
                  obtain ⟨vL, vG, hb, hL, hG, hq⟩ := UN.out.ref
                  obtain ⟨pg, cg, rfl, _⟩ := gd_at hG
                  obtain ⟨nG, hnG⟩ : ∃ n, p.G.length = n := ⟨_, rfl⟩
                  have SG := Lib.hid (gdK.own_src hG)
                  rw [hnG] at hb SG
                  have HB : Hid (∀ X, Keeps w7 X → X.cell? ⟨b, 4, none⟩ = some (.slice pg nG cg) ∧ X.frozen? ⟨b, 4, none⟩ = false) := Lib.hid fun X k => by
                    have e := six_at (box_keep hb k)
                    exact ⟨e.1.2.2.2.2.1, e.2.2.1⟩
                  have N1 : Hid (([] : List Gd).length + p.G.length = nG) := Lib.hid (by rw [hnG]; simp)
                  have L1 : Hid (([] : List Gd).length + p.G.length ≤ 100000) := Lib.hid (by rw [N1.out]; have := GFEW.out; omega)
                  have N2 : Hid (([] ++ p.G).length + [(⟨m.o, m.s, m.q⟩ : Gd)].length = nG + 1) := Lib.hid (by simp [hnG])
                  have L2 : Hid (([] ++ p.G).length + [(⟨m.o, m.s, m.q⟩ : Gd)].length ≤ 100000) := Lib.hid (by rw [N2.out]; have := GFEW.out; omega)
                  have HM : Hid (∀ X, Only (fun i => i = b) w7 X → X.cell? ⟨w.heap.size, 1, none⟩ = some (.int .i64 m.o) ∧ X.cell? ⟨w.heap.size, 3, none⟩ = some (.string m.s) ∧ X.cell? ⟨w.heap.size, 4, none⟩ = some (.int .i64 m.q)) := Lib.hid fun X k => by
                    obtain ⟨x0, x1, x2, x3, x4, x5, x6⟩ := pm_box_cells (box_off UN.out.b3 k (by have := UN.out.lt; omega))
                    exact ⟨x1, x3, x4⟩
                  have bl : b < w7.heap.size := (Array.getElem?_eq_some_iff.1 hb).1
                  have bn : b ≠ w7.heap.size := Nat.ne_of_lt bl
                  have bm : w7.heap.size ≠ b := Ne.symm bn
                  clear hb hL hG hq hnG k0
                  -- region 17
                  refine wp_region_held_drew (S := fun W => Only (fun i => i = b) w7 W) (by kernel_rfl) (Only.of_keeps (ky_drew _)) (fun hHeld => ?_)
                  refine takeH (i := 0) (d := some 89) (v := ?va0) rfl rfl (by kernel_rfl) (by kernel_rfl) (by kernel_rfl) (fun _ _ _ h => h) (Or.inl ⟨by rfl, ?ya0⟩) (by assumption) ?ra0
                  case ya0 => (intro W hSw; obtain ⟨x1, x3, x4⟩ := HM.out W hSw; go_simp; try with_reducible rfl)
                  try simp only [Act.put, List.setIfInBounds_toArray, List.set_cons_zero, List.set_cons_succ]
                  refine takeH (i := 1) (d := some 90) (v := ?va1) rfl rfl (by kernel_rfl) (by kernel_rfl) (by kernel_rfl) (fun _ _ _ h => h) (Or.inl ⟨by rfl, ?ya1⟩) (by assumption) ?ra1
                  case ya1 => (intro W hSw; obtain ⟨x1, x3, x4⟩ := HM.out W hSw; go_simp; try with_reducible rfl)
                  try simp only [Act.put, List.setIfInBounds_toArray, List.set_cons_zero, List.set_cons_succ]
                  refine takeH (i := 2) (d := some 91) (v := ?va2) rfl rfl (by kernel_rfl) (by kernel_rfl) (by kernel_rfl) (fun _ _ _ h => h) (Or.inl ⟨by rfl, ?ya2⟩) (by assumption) ?ra2
                  case ya2 => (intro W hSw; obtain ⟨x1, x3, x4⟩ := HM.out W hSw; go_simp; try with_reducible rfl)
                  try simp only [Act.put, List.setIfInBounds_toArray, List.set_cons_zero, List.set_cons_succ]
                  refine takeH (i := 3) (d := some 92) (v := ?va3) rfl rfl (by kernel_rfl) (by kernel_rfl) (by kernel_rfl) (fun _ _ _ h => h) (Or.inl ⟨by rfl, ?ya3⟩) (by assumption) ?ra3
                  case ya3 => (intro W hSw; obtain ⟨x1, x3, x4⟩ := HM.out W hSw; go_simp; try with_reducible rfl)
                  try simp only [Act.put, List.setIfInBounds_toArray, List.set_cons_zero, List.set_cons_succ]
                  refine takeH (i := 6) (d := some 95) (v := ?va6) rfl rfl (by kernel_rfl) (by kernel_rfl) (by kernel_rfl) (fun _ _ _ h => h) (Or.inl ⟨by rfl, ?ya6⟩) (by assumption) ?ra6
                  case ya6 => (intro W hSw; obtain ⟨x1, x3, x4⟩ := HM.out W hSw; go_simp; try with_reducible rfl)
                  try simp only [Act.put, List.setIfInBounds_toArray, List.set_cons_zero, List.set_cons_succ]
                  refine takeH (i := 7) (d := some 96) (v := ?va7) rfl rfl (by kernel_rfl) (by kernel_rfl) (by kernel_rfl) (fun _ _ _ h => h) (Or.inl ⟨by rfl, ?ya7⟩) (by assumption) ?ra7
                  case ya7 => (intro W hSw; obtain ⟨x1, x3, x4⟩ := HM.out W hSw; go_simp; try with_reducible rfl)
                  try simp only [Act.put, List.setIfInBounds_toArray, List.set_cons_zero, List.set_cons_succ]
                  refine takeH (i := 8) (d := some 97) (v := ?va8) rfl rfl (by kernel_rfl) (by kernel_rfl) (by kernel_rfl) (fun _ _ _ h => h) (Or.inl ⟨by rfl, ?ya8⟩) (by assumption) ?ra8
                  case ya8 => (intro W hSw; obtain ⟨x1, x3, x4⟩ := HM.out W hSw; go_simp; try with_reducible rfl)
                  try simp only [Act.put, List.setIfInBounds_toArray, List.set_cons_zero, List.set_cons_succ]
                  refine takeH (i := 9) (d := some 98) (v := ?va9) rfl rfl (by kernel_rfl) (by kernel_rfl) (by kernel_rfl) (fun _ _ _ h => h) (Or.inl ⟨by rfl, ?ya9⟩) (by assumption) ?ra9
                  case ya9 => (intro W hSw; obtain ⟨x1, x3, x4⟩ := HM.out W hSw; go_simp; try with_reducible rfl)
                  try simp only [Act.put, List.setIfInBounds_toArray, List.set_cons_zero, List.set_cons_succ]
                  refine takeH (i := 10) (d := some 99) (v := ?va10) rfl rfl (by kernel_rfl) (by kernel_rfl) (by kernel_rfl) (fun _ _ _ h => h) (Or.inl ⟨by rfl, ?ya10⟩) (by assumption) ?ra10
                  case ya10 => (intro W hSw; obtain ⟨x1, x3, x4⟩ := HM.out W hSw; go_simp; try with_reducible rfl)
                  try simp only [Act.put, List.setIfInBounds_toArray, List.set_cons_zero, List.set_cons_succ]
                  refine takeH (i := 11) (d := some 100) (v := ?va11) rfl rfl (by kernel_rfl) (by kernel_rfl) (by kernel_rfl) (fun _ _ _ h => h) (Or.inl ⟨by rfl, ?ya11⟩) (by assumption) ?ra11
                  case ya11 => (intro W hSw; obtain ⟨x1, x3, x4⟩ := HM.out W hSw; go_simp; try with_reducible rfl)
                  try simp only [Act.put, List.setIfInBounds_toArray, List.set_cons_zero, List.set_cons_succ]
                  refine takeH (i := 12) (d := some 101) (v := ?va12) rfl rfl (by kernel_rfl) (by kernel_rfl) (by kernel_rfl) (fun _ _ _ h => h) (Or.inl ⟨by rfl, ?ya12⟩) (by assumption) ?ra12
                  case ya12 => (intro W hSw; obtain ⟨x1, x3, x4⟩ := HM.out W hSw; go_simp; try with_reducible rfl)
                  try simp only [Act.put, List.setIfInBounds_toArray, List.set_cons_zero, List.set_cons_succ]
                  refine takeH (i := 13) (d := some 102) (v := ?va13) rfl rfl (by kernel_rfl) (by kernel_rfl) (by kernel_rfl) (fun _ _ _ h => h) (Or.inl ⟨by rfl, ?ya13⟩) (by assumption) ?ra13
                  case ya13 => (intro W hSw; obtain ⟨x1, x3, x4⟩ := HM.out W hSw; go_simp; try with_reducible rfl)
                  try simp only [Act.put, List.setIfInBounds_toArray, List.set_cons_zero, List.set_cons_succ]
                  refine wpAnyH_ready (rs := [4, 14]) (by kernel_rfl) (by simp) ?_
                  refine AllReadyH.cons rfl (fun K hK => ?_) (AllReadyH.cons rfl (fun K hK => ?_) AllReadyH.nil)
                  · obtain ⟨y4, f4⟩ := HB.out _ (Keeps.refl _)
                    go_simp
                    refine hK.out _ _ (Only.of_keeps (ky_drew w7)) (fun hHeld => ?_)
                    clear hK K
                    try simp only [Act.put, List.setIfInBounds_toArray, List.set_cons_zero, List.set_cons_succ]
                    clear y4 f4
                    refine wpAnyH_ready (rs := [5, 14]) (by kernel_rfl) (by simp) ?_
                    refine AllReadyH.cons rfl (fun K hK => ?_) (AllReadyH.cons rfl (fun K hK => ?_) AllReadyH.nil)
                    · refine stepAppOwnK gdK rfl _ _ rfl rfl w7.heap.size (ky_drew w7).size (.slice none 0 0) _ [] p.G nG N1.out rfl rfl (gdK.own_nil _ _) (RowK.Src.keeps gdK SG.out (ky_drew w7)) L1.out ?_
                      intro p5 c5 W5 o5 g5
                      have K5 : Keeps w7 W5 := pt_mono (ky_drew w7) g5 (fun j hj => by cases hj)
                      refine hK.out _ _ (Only.of_keeps K5) (fun hHeld => ?_)
                      clear hK K
                      try simp only [Act.put, List.setIfInBounds_toArray, List.set_cons_zero, List.set_cons_succ]
                      refine wpAnyH_ready (rs := [14]) (by kernel_rfl) (by simp) ?_
                      refine AllReadyH.cons rfl (fun K hK => ?_) AllReadyH.nil
                      go_simp
                      refine hK.out _ _ (Only.of_keeps (Keeps.trans K5 (ky_box _ _))) (fun hHeld => ?_)
                      clear hK K
                      try simp only [Act.put, List.setIfInBounds_toArray, List.set_cons_zero, List.set_cons_succ]
                      refine wpAnyH_ready (rs := [15]) (by kernel_rfl) (by simp) ?_
                      refine AllReadyH.cons rfl (fun K hK => ?_) AllReadyH.nil
                      refine stepAppOwnK gdK rfl _ _ rfl rfl w7.heap.size (Keeps.trans K5 (ky_box _ _)).size (.slice p5 nG c5) _ ([] ++ p.G) [⟨m.o, m.s, m.q⟩] (nG + 1) N2.out rfl rfl (gdK.own_keeps o5 (ky_box _ _)) (row_src1 gdK W5 ⟨m.o, m.s, m.q⟩) L2.out ?_
                      intro p6 c6 W6 o6 g6
                      have K6 : Keeps w7 W6 := pt_mono (Keeps.trans K5 (ky_box _ _)) g6 (fun j hj => (gdK.own_lt o5 j hj).1)
                      refine hK.out _ _ (Only.of_keeps K6) (fun hHeld => ?_)
                      clear hK K
                      try simp only [Act.put, List.setIfInBounds_toArray, List.set_cons_zero, List.set_cons_succ]
                      refine takeH (i := 16) (d := some 105) (v := ?vb16) rfl rfl (by kernel_rfl) (by kernel_rfl) (by kernel_rfl) (fun _ _ _ h => h) (Or.inl ⟨by rfl, ?yb16⟩) (by assumption) ?rb16
                      case yb16 => (intro W hSw; obtain ⟨x1, x3, x4⟩ := HM.out W hSw; go_simp; try with_reducible rfl)
                      try simp only [Act.put, List.setIfInBounds_toArray, List.set_cons_zero, List.set_cons_succ]
                      refine takeH (i := 17) (d := some 106) (v := ?vb17) rfl rfl (by kernel_rfl) (by kernel_rfl) (by kernel_rfl) (fun _ _ _ h => h) (Or.inl ⟨by rfl, ?yb17⟩) (by assumption) ?rb17
                      case yb17 => (intro W hSw; obtain ⟨x1, x3, x4⟩ := HM.out W hSw; go_simp; try with_reducible rfl)
                      try simp only [Act.put, List.setIfInBounds_toArray, List.set_cons_zero, List.set_cons_succ]
                      refine wpAnyH_ready (rs := [18]) (by kernel_rfl) (by simp) ?_
                      refine AllReadyH.cons rfl (fun K hK => ?_) AllReadyH.nil
                      obtain ⟨y6, f6⟩ := HB.out _ K6
                      go_simp
                      refine hK.out _ _ ((Only.of_keeps K6).trans (Only.cell _)) (fun hHeld => ?_)
                      clear hK K
                      try simp only [Act.put, List.setIfInBounds_toArray, List.set_cons_zero, List.set_cons_succ]
                      refine wpAnyH_done (by kernel_rfl) ?_ _
                      go_wp2_with fail
                      go_meet
                      exact UN.out.to (pt_grown K6 (pt_set _ _ _ _)) (ref_goods UN.out.ref K6 o6)
                    · go_simp
                      refine hK.out _ _ (Only.of_keeps (show Keeps w7 ((w7.drew).alloc (.cells #[.int .i64 m.o, .string m.s, .int .i64 m.q] tGd)) from Keeps.trans (ky_drew _) (ky_box _ _))) (fun hHeld => ?_)
                      clear hK K
                      try simp only [Act.put, List.setIfInBounds_toArray, List.set_cons_zero, List.set_cons_succ]
                      refine wpAnyH_ready (rs := [5]) (by kernel_rfl) (by simp) ?_
                      refine AllReadyH.cons rfl (fun K hK => ?_) AllReadyH.nil
                      refine stepAppOwnK gdK rfl _ _ rfl rfl w7.heap.size (show Keeps w7 ((w7.drew).alloc (.cells #[.int .i64 m.o, .string m.s, .int .i64 m.q] tGd)) from Keeps.trans (ky_drew _) (ky_box _ _)).size (.slice none 0 0) _ [] p.G nG N1.out rfl rfl (gdK.own_nil _ _) (RowK.Src.keeps gdK SG.out (show Keeps w7 ((w7.drew).alloc (.cells #[.int .i64 m.o, .string m.s, .int .i64 m.q] tGd)) from Keeps.trans (ky_drew _) (ky_box _ _))) L1.out ?_
                      intro p5 c5 W5 o5 g5
                      have K5 : Keeps w7 W5 := pt_mono (show Keeps w7 ((w7.drew).alloc (.cells #[.int .i64 m.o, .string m.s, .int .i64 m.q] tGd)) from Keeps.trans (ky_drew _) (ky_box _ _)) g5 (fun j hj => by cases hj)
                      refine hK.out _ _ (Only.of_keeps K5) (fun hHeld => ?_)
                      clear hK K
                      try simp only [Act.put, List.setIfInBounds_toArray, List.set_cons_zero, List.set_cons_succ]
                      refine wpAnyH_ready (rs := [15]) (by kernel_rfl) (by simp) ?_
                      refine AllReadyH.cons rfl (fun K hK => ?_) AllReadyH.nil
                      refine stepAppOwnK gdK rfl _ _ rfl rfl w7.heap.size (Keeps.trans K5 (Keeps.refl _)).size (.slice p5 nG c5) _ ([] ++ p.G) [⟨m.o, m.s, m.q⟩] (nG + 1) N2.out rfl rfl (o5) (RowK.Src.keeps gdK (row_src1 gdK w7.drew ⟨m.o, m.s, m.q⟩) (pt_mono (Keeps.refl _) g5 (fun j hj => by cases hj))) L2.out ?_
                      intro p6 c6 W6 o6 g6
                      have K6 : Keeps w7 W6 := pt_mono (Keeps.trans K5 (Keeps.refl _)) g6 (fun j hj => (gdK.own_lt o5 j hj).1)
                      refine hK.out _ _ (Only.of_keeps K6) (fun hHeld => ?_)
                      clear hK K
                      try simp only [Act.put, List.setIfInBounds_toArray, List.set_cons_zero, List.set_cons_succ]
                      refine takeH (i := 16) (d := some 105) (v := ?vc16) rfl rfl (by kernel_rfl) (by kernel_rfl) (by kernel_rfl) (fun _ _ _ h => h) (Or.inl ⟨by rfl, ?yc16⟩) (by assumption) ?rc16
                      case yc16 => (intro W hSw; obtain ⟨x1, x3, x4⟩ := HM.out W hSw; go_simp; try with_reducible rfl)
                      try simp only [Act.put, List.setIfInBounds_toArray, List.set_cons_zero, List.set_cons_succ]
                      refine takeH (i := 17) (d := some 106) (v := ?vc17) rfl rfl (by kernel_rfl) (by kernel_rfl) (by kernel_rfl) (fun _ _ _ h => h) (Or.inl ⟨by rfl, ?yc17⟩) (by assumption) ?rc17
                      case yc17 => (intro W hSw; obtain ⟨x1, x3, x4⟩ := HM.out W hSw; go_simp; try with_reducible rfl)
                      try simp only [Act.put, List.setIfInBounds_toArray, List.set_cons_zero, List.set_cons_succ]
                      refine wpAnyH_ready (rs := [18]) (by kernel_rfl) (by simp) ?_
                      refine AllReadyH.cons rfl (fun K hK => ?_) AllReadyH.nil
                      obtain ⟨y6, f6⟩ := HB.out _ K6
                      go_simp
                      refine hK.out _ _ ((Only.of_keeps K6).trans (Only.cell _)) (fun hHeld => ?_)
                      clear hK K
                      try simp only [Act.put, List.setIfInBounds_toArray, List.set_cons_zero, List.set_cons_succ]
                      refine wpAnyH_done (by kernel_rfl) ?_ _
                      go_wp2_with fail
                      go_meet
                      exact UN.out.to (pt_grown K6 (pt_set _ _ _ _)) (ref_goods UN.out.ref K6 o6)
                  · go_simp
                    refine hK.out _ _ (Only.of_keeps (show Keeps w7 ((w7.drew).alloc (.cells #[.int .i64 m.o, .string m.s, .int .i64 m.q] tGd)) from Keeps.trans (ky_drew _) (ky_box _ _))) (fun hHeld => ?_)
                    clear hK K
                    try simp only [Act.put, List.setIfInBounds_toArray, List.set_cons_zero, List.set_cons_succ]
                    refine wpAnyH_ready (rs := [4]) (by kernel_rfl) (by simp) ?_
                    refine AllReadyH.cons rfl (fun K hK => ?_) AllReadyH.nil
                    obtain ⟨y4, f4⟩ := HB.out _ (Keeps.refl _)
                    go_simp
                    refine hK.out _ _ (Only.of_keeps (show Keeps w7 ((w7.drew).alloc (.cells #[.int .i64 m.o, .string m.s, .int .i64 m.q] tGd)) from Keeps.trans (ky_drew _) (ky_box _ _))) (fun hHeld => ?_)
                    clear hK K
                    try simp only [Act.put, List.setIfInBounds_toArray, List.set_cons_zero, List.set_cons_succ]
                    clear y4 f4
                    refine wpAnyH_ready (rs := [5]) (by kernel_rfl) (by simp) ?_
                    refine AllReadyH.cons rfl (fun K hK => ?_) AllReadyH.nil
                    refine stepAppOwnK gdK rfl _ _ rfl rfl w7.heap.size (show Keeps w7 ((w7.drew).alloc (.cells #[.int .i64 m.o, .string m.s, .int .i64 m.q] tGd)) from Keeps.trans (ky_drew _) (ky_box _ _)).size (.slice none 0 0) _ [] p.G nG N1.out rfl rfl (gdK.own_nil _ _) (RowK.Src.keeps gdK SG.out (show Keeps w7 ((w7.drew).alloc (.cells #[.int .i64 m.o, .string m.s, .int .i64 m.q] tGd)) from Keeps.trans (ky_drew _) (ky_box _ _))) L1.out ?_
                    intro p5 c5 W5 o5 g5
                    have K5 : Keeps w7 W5 := pt_mono (show Keeps w7 ((w7.drew).alloc (.cells #[.int .i64 m.o, .string m.s, .int .i64 m.q] tGd)) from Keeps.trans (ky_drew _) (ky_box _ _)) g5 (fun j hj => by cases hj)
                    refine hK.out _ _ (Only.of_keeps K5) (fun hHeld => ?_)
                    clear hK K
                    try simp only [Act.put, List.setIfInBounds_toArray, List.set_cons_zero, List.set_cons_succ]
                    refine wpAnyH_ready (rs := [15]) (by kernel_rfl) (by simp) ?_
                    refine AllReadyH.cons rfl (fun K hK => ?_) AllReadyH.nil
                    refine stepAppOwnK gdK rfl _ _ rfl rfl w7.heap.size (Keeps.trans K5 (Keeps.refl _)).size (.slice p5 nG c5) _ ([] ++ p.G) [⟨m.o, m.s, m.q⟩] (nG + 1) N2.out rfl rfl (o5) (RowK.Src.keeps gdK (row_src1 gdK w7.drew ⟨m.o, m.s, m.q⟩) (pt_mono (Keeps.refl _) g5 (fun j hj => by cases hj))) L2.out ?_
                    intro p6 c6 W6 o6 g6
                    have K6 : Keeps w7 W6 := pt_mono (Keeps.trans K5 (Keeps.refl _)) g6 (fun j hj => (gdK.own_lt o5 j hj).1)
                    refine hK.out _ _ (Only.of_keeps K6) (fun hHeld => ?_)
                    clear hK K
                    try simp only [Act.put, List.setIfInBounds_toArray, List.set_cons_zero, List.set_cons_succ]
                    refine takeH (i := 16) (d := some 105) (v := ?vd16) rfl rfl (by kernel_rfl) (by kernel_rfl) (by kernel_rfl) (fun _ _ _ h => h) (Or.inl ⟨by rfl, ?yd16⟩) (by assumption) ?rd16
                    case yd16 => (intro W hSw; obtain ⟨x1, x3, x4⟩ := HM.out W hSw; go_simp; try with_reducible rfl)
                    try simp only [Act.put, List.setIfInBounds_toArray, List.set_cons_zero, List.set_cons_succ]
                    refine takeH (i := 17) (d := some 106) (v := ?vd17) rfl rfl (by kernel_rfl) (by kernel_rfl) (by kernel_rfl) (fun _ _ _ h => h) (Or.inl ⟨by rfl, ?yd17⟩) (by assumption) ?rd17
                    case yd17 => (intro W hSw; obtain ⟨x1, x3, x4⟩ := HM.out W hSw; go_simp; try with_reducible rfl)
                    try simp only [Act.put, List.setIfInBounds_toArray, List.set_cons_zero, List.set_cons_succ]
                    refine wpAnyH_ready (rs := [18]) (by kernel_rfl) (by simp) ?_
                    refine AllReadyH.cons rfl (fun K hK => ?_) AllReadyH.nil
                    obtain ⟨y6, f6⟩ := HB.out _ K6
                    go_simp
                    refine hK.out _ _ ((Only.of_keeps K6).trans (Only.cell _)) (fun hHeld => ?_)
                    clear hK K
                    try simp only [Act.put, List.setIfInBounds_toArray, List.set_cons_zero, List.set_cons_succ]
                    refine wpAnyH_done (by kernel_rfl) ?_ _
                    go_wp2_with fail
                    go_meet
                    exact UN.out.to (pt_grown K6 (pt_set _ _ _ _)) (ref_goods UN.out.ref K6 o6)
                  -- region 17 end
                case rest =>
                  rename World => wd
                  have U3 := Lib.hid hcut
                  clear hcut k0
                  obtain ⟨x0, x1, x2, x3, x4, x5, x6⟩ := pm_box_cells U3.out.b3
                  obtain ⟨⟨r0, r1, r2', r3, r4⟩, g0, g1, g2, g3, g4⟩ := rw_box_cells U3.out.b6
                  go_wp2_with fail
                  go_meet
                  exact U3.out.ask (by have := FEW.out; show p.L.length ≤ 400; omega) _ _ _ _ _ (by rw [RE.out, RD.out, if_pos HKD.out])
              · have hkb : (kd == 1) = false := by simpa using hk1
                obtain ⟨x0, x1, x2, x3, x4, x5, x6⟩ := pm_box_cells UN.out.b3
                obtain ⟨⟨r0, r1, r2', r3, r4⟩, g0, g1, g2, g3, g4⟩ := rw_box_cells UN.out.b6
                have GE : Hid (¬ p.kind = 1) := Lib.hid (fun e => hk1 (HKD.out.symm.trans e))
                clear hk1
                go_wp2_with fail
                go_meet
                exact UN.out.ask (by have := FEW.out; omega) _ _ _ _ _ (by rw [RE.out, RD.out, if_neg GE.out])
            | false =>
              have RD := Lib.hid (done_no H3.out DD.out)
              obtain ⟨x0, x1, x2, x3, x4, x5, x6⟩ := pm_box_cells UN.out.b3
              obtain ⟨⟨r0, r1, r2', r3, r4⟩, g0, g1, g2, g3, g4⟩ := rw_box_cells UN.out.b6
              go_wp2_with fail
              go_meet
              exact UN.out.ask (by have := FEW.out; omega) _ _ _ _ _ (by rw [RE.out, RD.out])
        case rest =>
          rename World => wc
          have AT := Lib.hid hcut
          clear hcut x0 x1 x2 x3 x4 x5 x6 v0 v1 v2 v3 v4 v5 v6 f0 f1 f2 f3 f4 f5 f6 g0 g1 g2 g3 g4 r0 r1 r2 r3 r4
          obtain ⟨p1, r1, hre, hl1, hb6, hAe⟩ := AT.out.ex
          have LE := Lib.hid hAe
          have BB6 := Lib.hid hb6
          have CW := Lib.hid (rp_write b p1 seq r1 wc hre hl1)
          obtain ⟨⟨r0, r1', r2, r3, r4⟩, _⟩ := rw_box_cells hb6
          unfold rwV at CW
          clear hre hl1 hb6 hAe
          go_wp2_with fail
          refine CW.out.mono ?_
          rintro e w9 ⟨rfl, q1, q2⟩
          have o : Only (fun i => i = b) wc w9 := Only.grown q2 rfl
          have l1 := AT.out.lt
          have l2 := AT.out.le
          have O9 := Lib.hid (AT.out.only.trans o)
          have Q1 := Lib.hid q1.ref
          have C3 := Lib.hid (box_off AT.out.b3 o (by omega))
          have C4 := Lib.hid (box_off AT.out.b4 o (by omega))
          have C6 := Lib.hid (box_off BB6.out o (by omega))
          have NB : Hid (w.heap.size + 1 ≠ b) := Lib.hid (by omega)
          clear q1 q2 o l1 l2 r0 r1' r2 r3 r4
          obtain ⟨x0, x1, x2, x3, x4, x5, x6⟩ := pm_box_cells C3.out
          obtain ⟨⟨v0, v1, v2, v3, v4, v5, v6⟩, f0, f1, f2, f3, f4, f5, f6⟩ := no_box_cells C4.out
          obtain ⟨⟨r0, r1', r2, r3, r4⟩, _⟩ := rw_box_cells C6.out
          go_wp2
          refine bodyPost_ret (v := .tuple #[.agg #[.int .i64 3, .int .i64 m.o, .int .i64 m.k, .string ⟨#[]⟩, .int .i64 0, .int .i64 0, .int .i64 r1.c], .bool true]) (by simp [results, Tryd.results14, go_sem, v0, v1, v2, v3, v4, v5, v6]) rfl ?_
          rw [LE.out]
          have g := Pp.seven_set w9 (w.heap.size + 1) (.int .i64 3) (.int .i64 m.o) (.int .i64 m.k) (.string ⟨#[]⟩) (.int .i64 0) (.int .i64 0) (.int .i64 r1.c)
          exact ⟨rfl, ref_one Q1.out C4.out no_tag NB.out g, Only.new O9.out g (by omega)⟩
end Pt
end Go.Proofs.YtkffpmeocfhcpaaDoor
