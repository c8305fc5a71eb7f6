
/- PartyBarred: the walk. -/
import Derived.Test.YtkffpmeocfhcpaaDoorPaBar
import Derived.Test.YtkffpmeocfhcpaaDoorHeldSteps
import Derived.Test.YtkffpmeocfhcpaaDoorPaTwo
set_option linter.unusedVariables false
namespace Go.Proofs.YtkffpmeocfhcpaaDoor
open Go.ChangeShapes Go.WideShapes Go.ChangeAt Go.RowKit Ky Rw Od
namespace Pa
open Pp
theorem om_cells {W : World} {n : Nat} {i q a : Int} {r s : ByteArray} (e : W.heap[n]? = some (odBox i r s q a)) : W.cell? ⟨n, 0, none⟩ = some (.int .i64 i) ∧ W.cell? ⟨n, 1, none⟩ = some (.string r) ∧ W.cell? ⟨n, 2, none⟩ = some (.string s) ∧ W.cell? ⟨n, 3, none⟩ = some (.int .i64 q) ∧ W.cell? ⟨n, 4, none⟩ = some (.int .i64 a) :=
  ⟨Joins.cell_of_block e 0, Joins.cell_of_block e 1, Joins.cell_of_block e 2, Joins.cell_of_block e 3, Joins.cell_of_block e 4⟩
theorem deed_any {kd i q a : Int} (hk : 0 ≤ kd ∧ kd ≤ 2) (hi : 1 ≤ i ∧ i ≤ 32) (hq : 1 ≤ q ∧ q ≤ 512) (ha : 1 ≤ a ∧ a ≤ 1073741824) :
    ∃ dd S Q A, Deed kd i q a dd S Q A ∧ (∀ w, (Instr.index t3i (.agg #[.int .i64 1, .int .i64 0, .int .i64 2]) (.int .i64 kd)).run Tryd.prog w = .ok (.int .i64 dd) w) := by
  obtain ⟨d0, d1, d2⟩ := deed_of hi hq ha
  rcases (show kd = 0 ∨ kd = 1 ∨ kd = 2 from by omega) with rfl | rfl | rfl
  · exact ⟨_, _, _, _, d0, deed_0⟩
  · exact ⟨_, _, _, _, d1, deed_1⟩
  · exact ⟨_, _, _, _, d2, deed_2⟩
set_option maxHeartbeats 16000000 in
set_option maxRecDepth 100000 in
theorem partyBarred_go (kind stock limit : Int) (i : Int) (r s : ByteArray) (q a : Int) (ahead : Bool) (w : World) (hp : HasP w) :
    Calls Tryd.prog 7 #[fmV kind stock limit, odV i r s q a, .bool ahead] w fun e w' => e = .returned (.bool true) ∧ Keeps w w' := by
  obtain ⟨i0, hi0⟩ : ∃ i0, bits .and .i64 i 31 = i0 := ⟨_, rfl⟩
  obtain ⟨q0, hq0⟩ : ∃ q0, bits .and .i64 q 511 = q0 := ⟨_, rfl⟩
  obtain ⟨a0, ha0⟩ : ∃ a0, bits .and .i64 a 1073741823 = a0 := ⟨_, rfl⟩
  have bi := paand i 5 31 (by decide) (by omega) (by decide)
  have bq := paand q 9 511 (by decide) (by omega) (by decide)
  have ba := paand a 30 1073741823 (by decide) (by omega) (by decide)
  rw [hi0] at bi
  rw [hq0] at bq
  rw [ha0] at ba
  obtain ⟨bi0, bi1⟩ := bi
  obtain ⟨bq0, bq1⟩ := bq
  obtain ⟨ba0, ba1⟩ := ba
  obtain ⟨wb, hwb⟩ : ∃ wb, (w.alloc (fmBox kind stock limit)).alloc (odBox (1 + i0) rS nut (1 + q0) (1 + a0)) = wb := ⟨_, rfl⟩
  have KW := Lib.hid (show Keeps w wb from hwb ▸ (ky_box w (fmBox kind stock limit)).trans (ky_box _ (odBox (1 + i0) rS nut (1 + q0) (1 + a0))))
  have BX := Lib.hid (show ∀ X, Keeps wb X → X.cell? ⟨w.heap.size, 0, none⟩ = some (.int .i64 kind) from fun X k => (fm_cells w kind stock limit X (Keeps.trans (hwb ▸ ky_box _ _) k)).1)
  have OX := Lib.hid (show ∀ X, Keeps wb X → X.cell? ⟨w.heap.size + 1, 0, none⟩ = some (.int .i64 (1 + i0)) ∧ X.cell? ⟨w.heap.size + 1, 1, none⟩ = some (.string ⟨#[114]⟩) ∧ X.cell? ⟨w.heap.size + 1, 2, none⟩ = some (.string ⟨#[110, 117, 116]⟩) ∧ X.cell? ⟨w.heap.size + 1, 3, none⟩ = some (.int .i64 (1 + q0)) ∧ X.cell? ⟨w.heap.size + 1, 4, none⟩ = some (.int .i64 (1 + a0)) from fun X k => by
    have e : wb.heap[w.heap.size + 1]? = some (odBox (1 + i0) rS nut (1 + q0) (1 + a0)) := hwb ▸ So.two_alloc w _ _
    have lt : w.heap.size + 1 < wb.heap.size := by rw [← hwb]; simp
    exact om_cells ((k.block _ lt).trans e))
  have HP : Hid (∀ X, Keeps wb X → HasP X) := Lib.hid fun X k => hp.keeps (KW.out.trans k)
  have AS : Hid (∀ X, Keeps wb X → Calls Tryd.prog 9 #[] X fun e w' => e = .returned (.bool true) ∧ Keeps X w') := Lib.hid fun X k => la_asked X (HP.out X k)
  have BI : Hid (1 ≤ 1 + i0 ∧ 1 + i0 ≤ 32) := Lib.hid ⟨by omega, by omega⟩
  have BQ : Hid (1 ≤ 1 + q0 ∧ 1 + q0 ≤ 512) := Lib.hid ⟨by omega, by omega⟩
  have BA : Hid (1 ≤ 1 + a0 ∧ 1 + a0 ≤ 1073741824) := Lib.hid ⟨by omega, by omega⟩
  have HW := Lib.hid hwb
  clear hwb
  unfold fmBox odBox at HW
  unfold rS nut at HW
  unfold fmV odV
  clear hp
  go_enter Tryd.func7, Tryd.ntmps7
  go_wp2_with fail
  rw [HW.out]
  clear HW hi0 hq0 ha0
  obtain ⟨i1, hi1⟩ : ∃ i1, 1 + i0 = i1 := ⟨_, rfl⟩
  obtain ⟨q1, hq1⟩ : ∃ q1, 1 + q0 = q1 := ⟨_, rfl⟩
  obtain ⟨a1, ha1⟩ : ∃ a1, 1 + a0 = a1 := ⟨_, rfl⟩
  rw [hi1] at OX BI ⊢
  rw [hq1] at OX BQ ⊢
  rw [ha1] at OX BA ⊢
  clear hi1 hq1 ha1 bi0 bi1 bq0 bq1 ba0 ba1
  by_cases hk : 0 ≤ kind ∧ kind ≤ 2
  · obtain ⟨dd, S, Q, A, D, IX⟩ := deed_any hk BI.out BQ.out BA.out
    have HD := Lib.hid D
    obtain ⟨lo, hi⟩ := (⟨D.lo, D.hi⟩ : 0 ≤ dd ∧ dd < 3)
    clear D
    refine (pp_new kind stock limit wb hk).mono ?_
    rintro e w0 hn
    obtain ⟨b, br, bs, bh, rfl, h, k0⟩ := own_new hn hk.1 hk.2
    have H0 := Lib.hid h
    have K0 := Lib.hid k0
    clear hn h k0
    obtain ⟨p0, hp0⟩ : ∃ p0, Pt.newP kind stock limit = p0 := ⟨_, rfl⟩
    obtain ⟨F, hF⟩ : ∃ F, leftV p0 nut = F := ⟨_, rfl⟩
    have HF := Lib.hid hF
    have BN : Hid (∃ pf, Bars kind i1 dd ⟨kind, i1, dd, S, Q, A, 0⟩ ⟨kind, i1, dd + 3, S, Q, A, 0⟩ F false p0 pf 2 0 0) := Lib.hid (by rw [← hF, ← hp0]; exact bars_no HD.out)
    have BY : Hid (∃ p1 pf c a q, (c = 1 ∨ c = 2) ∧ Pt.ask p0 ⟨kind, i1, dd, S, Q, A, 0⟩ = (p1, some c) ∧ Bars kind i1 dd ⟨kind, i1, dd, S, Q, A, 0⟩ ⟨kind, i1, dd + 3, S, Q, A, 0⟩ F true p1 pf c a q) := Lib.hid (by rw [← hF, ← hp0]; exact bars_yes HD.out)
    rw [hp0] at H0
    clear hF hp0
    have x0 := BX.out _ K0.out
    -- the calls
    have CM1 : Hid (∀ X, Keeps wb X → Calls Tryd.prog 24 #[.agg #[.int .i64 i1, .string ⟨#[114]⟩, .string ⟨#[110, 117, 116]⟩, .int .i64 q1, .int .i64 a1], .int .i64 dd] X fun e w' => e = .returned (pmV ⟨kind, i1, dd, S, Q, A, 0⟩) ∧ Keeps X w' ∧ Keeps wb w') := Lib.hid fun X k => Calls.mono (od_msg i1 rS nut q1 a1 dd X (HP.out X k) r_size nut_size) fun e w' h => by
      obtain ⟨t', o', k', S', Q', A', rfl, hm', k2⟩ := h
      obtain ⟨rfl, rfl, rfl, rfl, rfl, rfl⟩ := HD.out.m1.same hm'
      exact ⟨rfl, k2, k.trans k2⟩
    have CM2 : Hid (∀ X, Keeps wb X → Calls Tryd.prog 24 #[.agg #[.int .i64 i1, .string ⟨#[114]⟩, .string ⟨#[110, 117, 116]⟩, .int .i64 q1, .int .i64 a1], .int .i64 (dd + 3)] X fun e w' => e = .returned (pmV ⟨kind, i1, dd + 3, S, Q, A, 0⟩) ∧ Keeps X w' ∧ Keeps wb w') := Lib.hid fun X k => Calls.mono (od_msg i1 rS nut q1 a1 (dd + 3) X (HP.out X k) r_size nut_size) fun e w' h => by
      obtain ⟨t', o', k', S', Q', A', rfl, hm', k2⟩ := h
      obtain ⟨rfl, rfl, rfl, rfl, rfl, rfl⟩ := HD.out.m2.same hm'
      exact ⟨rfl, k2, k.trans k2⟩
    have CA : Hid (∀ (X : World) (c : Nat) (p p' : Pt.P) (d k : Int), Own wb.heap.size X b br bs bh c p 0 → Keeps wb X → c < 100000 → Pt.ask p ⟨kind, i1, d, S, Q, A, 0⟩ = (p', some k) →
        Calls Tryd.prog 13 #[.pointer (some ⟨b, 0, none⟩), pmV ⟨kind, i1, d, S, Q, A, 0⟩] X fun e w' => e = .returned (.tuple #[.agg #[.int .i64 3, .int .i64 i1, .int .i64 d, .string ⟨#[]⟩, .int .i64 0, .int .i64 0, .int .i64 k], .bool true]) ∧ Own wb.heap.size w' b br bs bh (c + 4) p' 0 ∧ Only (three br bs bh) X w' ∧ Keeps wb w') := Lib.hid fun X c p p' d k h kk hc he => by
      have := h.ask (HP.out X kk) hc ⟨kind, i1, d, S, Q, A, 0⟩ HD.out.sz
      rw [he] at this
      exact this.mono fun e w' ⟨h1, h2, h3⟩ => ⟨h1, h2, h3, h3.keeps kk h.three⟩
    have CL : Hid (∀ (X : World) (c : Nat) (p : Pt.P), Own wb.heap.size X b br bs bh c p 0 → Keeps wb X → leftV p nut = F →
        Calls Tryd.prog 20 #[.pointer (some ⟨b, 0, none⟩), .string ⟨#[110, 117, 116]⟩] X fun e w' => e = .returned (.int .i64 F) ∧ Own wb.heap.size w' b br bs bh c p 0 ∧ Keeps X w' ∧ Keeps wb w') := Lib.hid fun X c p h kk hn =>
      (pp_Left h.at_ (HP.out X kk) nut nut_size).mono fun e w' ⟨h1, h2⟩ => ⟨hn ▸ h1, h.keeps h2, h2, kk.trans h2⟩
    unfold pmV at CM1 CM2 CA
    clear HD HP
    go_wp2_with fail
    refine (CL.out _ _ _ H0.out K0.out HF.out).mono ?_
    rintro e w1 ⟨rfl, h, _, k⟩
    have H1 := Lib.hid h
    have K1 := Lib.hid k
    clear h k x0
    obtain ⟨o0, o1, o2, o3, o4⟩ := OX.out _ K1.out
    go_upto_if 51 with fail
    go_cut [10] (fun v10 wx => ∃ (n : Nat) (p1 pf : Pt.P) (c ra rq : Int), v10 = .int .i64 c ∧ n ≤ 4 ∧ Bars kind i1 dd ⟨kind, i1, dd, S, Q, A, 0⟩ ⟨kind, i1, dd + 3, S, Q, A, 0⟩ F ahead p1 pf c ra rq ∧ Own wb.heap.size wx b br bs bh n p1 0 ∧ Keeps wb wx)
    case first =>
      cases ahead with
      | false =>
        obtain ⟨pf, hb⟩ := BN.out
        go_wp2_with fail
        go_meet
        exact ⟨0, _, pf, 2, 0, 0, rfl, by omega, hb, H1.out, K1.out⟩
      | true =>
        obtain ⟨p1, pf, c, ra, rq, hc, he, hb⟩ := BY.out
        have HB := Lib.hid hb
        clear hb
        rcases hc with rfl | rfl
        all_goals
         go_wp2_with fail
         refine (CM1.out _ K1.out).mono ?_
         rintro e w2 ⟨rfl, kk, k⟩
         have K2 := Lib.hid k
         have H2 := Lib.hid (H1.out.keeps kk)
         clear k kk
         go_wp2_with fail
         refine (CA.out _ _ _ _ _ _ H2.out K2.out (by omega) he).mono ?_
         rintro e w3 ⟨rfl, h, g, k⟩
         have H3 := Lib.hid h
         have K3 := Lib.hid k
         clear h g k
         go_wp2_with fail
         go_meet
         exact ⟨4, p1, pf, _, ra, rq, rfl, by omega, HB.out, H3.out.keeps (ky_box _ _), Keeps.trans K3.out (ky_box _ _)⟩
    case rest =>
      rename World => wx
      obtain ⟨n, p1, pf, c, ra, rq, rfl, hn, hb, h, k⟩ := hcut
      have HB := Lib.hid hb
      have HX := Lib.hid h
      have KX := Lib.hid k
      clear hb h k o0 o1 o2 o3 o4 H0 H1 K0 K1 BN BY
      obtain ⟨o0, o1, o2, o3, o4⟩ := OX.out _ KX.out
      go_wp2_with fail
      refine (CM2.out _ KX.out).mono ?_
      rintro e w2 ⟨rfl, kk, k⟩
      have K2 := Lib.hid k
      have H2 := Lib.hid (HX.out.keeps kk)
      clear k kk o0 o1 o2 o3 o4
      go_wp2_with fail
      refine (CA.out _ _ _ _ _ _ H2.out K2.out (by omega) HB.out.two).mono ?_
      rintro e w3 ⟨rfl, h, g, k⟩
      obtain ⟨w4, hw4⟩ : ∃ w4, w3.alloc (.cells #[.int .i64 3, .int .i64 i1, .int .i64 (dd + 3), .string ⟨#[]⟩, .int .i64 0, .int .i64 0, .int .i64 1] tPm) = w4 := ⟨_, rfl⟩
      have K4 := Lib.hid (show Keeps wb w4 from hw4 ▸ Keeps.trans k (ky_box _ _))
      have H4 := Lib.hid (show Own wb.heap.size w4 b br bs bh (n + 4) pf 0 from hw4 ▸ h.keeps (ky_box _ _))
      have A4 := Lib.hid (show ∀ X, Only (three br bs bh) w4 X → X.cell? ⟨w3.heap.size, 6, none⟩ = some (.int .i64 1) from fun X kk => by
        have e : w4.heap[w3.heap.size]? = _ := hw4 ▸ heap_alloc_new w3 _
        have lt : w3.heap.size < w4.heap.size := by rw [← hw4]; simp
        obtain ⟨t1, t2, t3⟩ := h.at_.tabs.low
        exact Joins.cell_of_block ((kk.same _ lt (by unfold three; omega)).trans e) 6)
      have E4 := Lib.hid hw4
      clear h g k hw4
      have o := OX.out _ K4.out
      rw [← E4.out] at o
      obtain ⟨o0, o1, o2, o3, o4⟩ := o
      go_wp2_with fail
      rw [E4.out]
      refine (CM1.out _ K4.out).mono ?_
      rintro e w5 ⟨rfl, kk, k⟩
      have K5 := Lib.hid k
      have H5 := Lib.hid (H4.out.keeps kk)
      have G5 := Lib.hid (Only.of_keeps (F := three br bs bh) kk)
      clear k kk o0 o1 o2 o3 o4
      go_wp2_with fail
      refine (CA.out _ _ _ _ _ _ H5.out K5.out (by omega) HB.out.one).mono ?_
      rintro e w6 ⟨rfl, h, g, k⟩
      obtain ⟨w7, hw7⟩ : ∃ w7, w6.alloc (.cells #[.int .i64 3, .int .i64 i1, .int .i64 dd, .string ⟨#[]⟩, .int .i64 0, .int .i64 0, .int .i64 c] tPm) = w7 := ⟨_, rfl⟩
      have K7 := Lib.hid (show Keeps wb w7 from hw7 ▸ Keeps.trans k (ky_box _ _))
      have H7 := Lib.hid (show Own wb.heap.size w7 b br bs bh (n + 4 + 4) pf 0 from hw7 ▸ h.keeps (ky_box _ _))
      have A7 := Lib.hid (show ∀ X, Keeps w7 X → X.cell? ⟨w3.heap.size, 6, none⟩ = some (.int .i64 1) ∧ X.cell? ⟨w6.heap.size, 6, none⟩ = some (.int .i64 c) from fun X kk => by
        have e : w7.heap[w6.heap.size]? = _ := hw7 ▸ heap_alloc_new w6 _
        have lt : w6.heap.size < w7.heap.size := by rw [← hw7]; simp
        refine ⟨A4.out X ((G5.out.trans g).trans (Only.of_keeps (Keeps.trans (hw7 ▸ ky_box w6 _) kk))), Joins.cell_of_block ((kk.block _ lt).trans e) 6⟩)
      have E7 := Lib.hid hw7
      clear h g k hw7 A4 G5
      go_wp2_with fail
      rw [E7.out]
      refine (pp_rows H7.out.at_ H7.out.inv (by omega)).mono ?_
      rintro e w8 ⟨v, rfl, hv, k8⟩
      obtain ⟨pv, cv, rfl⟩ := rowK.own_shape hv
      rw [HB.out.rows] at hv
      obtain ⟨gg, rfl⟩ := pa_ptr hv (Nat.succ_le_succ (Nat.zero_le 1))
      have hl : pf.L.length = 2 := by rw [HB.out.rows]; rfl
      rw [hl]
      have hv : rowK.Own w7.heap.size w8 (.slice (some ⟨gg, 0, none⟩) 2 cv) [⟨i1, dd, c, ra, rq⟩, ⟨i1, dd + 3, 1, ra, rq⟩] := hv
      obtain ⟨a1', a2'⟩ := A7.out w8 k8
      have K8 := Lib.hid (K7.out.trans k8)
      have H8 := Lib.hid (H7.out.keeps k8)
      have HV := Lib.hid hv
      clear hv k8 hl
      go_wp2_with fail
      refine (CL.out _ _ _ H8.out K8.out HB.out.free).mono ?_
      rintro e w9 ⟨rfl, _, kk, k⟩
      have K9 := Lib.hid k
      have h5 := rowK.own_keeps HV.out kk
      obtain ⟨⟨x0, x1, x2, x3, x4⟩, _⟩ := pa_at5 (i := 0) h5 (x := ⟨i1, dd, c, ra, rq⟩) rfl
      obtain ⟨⟨y0, y1, y2, y3, y4⟩, _⟩ := pa_at5 (i := 1) h5 (x := ⟨i1, dd + 3, 1, ra, rq⟩) rfl
      simp only [Nat.zero_mul, Nat.one_mul, Nat.zero_add, Nat.reduceAdd] at x0 x1 x2 x3 x4 y0 y1 y2 y3 y4
      have AN := Lib.hid (fun e : ahead = false => HB.out.none e)
      clear h5 kk k HV CL CA CM1 CM2 OX BX HB H8 A7 a1' a2' x0 x1 y0 y1 K8 H7 K7 H4 H2 H5 HX K2 K4 K5 KX
      go_upto_region 19 with fail
      have CS : Hid (∀ W, Keeps w9 W → W.cell? ⟨gg, 2, none⟩ = some (.int .i64 c) ∧ W.cell? ⟨gg, 3, none⟩ = some (.int .i64 ra) ∧ W.cell? ⟨gg, 4, none⟩ = some (.int .i64 rq) ∧ W.cell? ⟨gg, 7, none⟩ = some (.int .i64 1) ∧ W.cell? ⟨gg, 8, none⟩ = some (.int .i64 ra) ∧ W.cell? ⟨gg, 9, none⟩ = some (.int .i64 rq)) := Lib.hid fun W k =>
        ⟨cell_keeps k x2, cell_keeps k x3, cell_keeps k x4, cell_keeps k y2, cell_keeps k y3, cell_keeps k y4⟩
      clear hv IX E4 E7 BI BQ BA HF x2 x3 x4 y2 y3 y4
      -- region 19
      cases ahead with
      | true =>
        clear AN
        refine wp_region_held_drew (S := fun W => Keeps w9 W) (by kernel_rfl) (ky_drew _) (fun hHeld => ?_)
        refine takeH (i := 0) (d := some 121) (v := ?av0) rfl rfl (by kernel_rfl) (by kernel_rfl) (by kernel_rfl) (fun _ _ _ h => h) (Or.inl ⟨by rfl, ?ay0⟩) (by assumption) ?ar0
        case ay0 => (intro W hSw; obtain ⟨x2, x3, x4, y2, y3, y4⟩ := CS.out W hSw; go_simp; try with_reducible rfl)
        try simp only [Act.put, List.setIfInBounds_toArray, List.set_cons_zero, List.set_cons_succ]
        refine takeH (i := 1) (d := some 122) (v := ?av1) rfl rfl (by kernel_rfl) (by kernel_rfl) (by kernel_rfl) (fun _ _ _ h => h) (Or.inl ⟨by rfl, ?ay1⟩) (by assumption) ?ar1
        case ay1 => (intro W hSw; obtain ⟨x2, x3, x4, y2, y3, y4⟩ := CS.out W hSw; go_simp; try with_reducible rfl)
        try simp only [Act.put, List.setIfInBounds_toArray, List.set_cons_zero, List.set_cons_succ]
        refine takeH (i := 2) (d := some 123) (v := ?av2) rfl rfl (by kernel_rfl) (by kernel_rfl) (by kernel_rfl) (fun _ _ _ h => h) (Or.inl ⟨by rfl, ?ay2⟩) (by assumption) ?ar2
        case ay2 => (intro W hSw; obtain ⟨x2, x3, x4, y2, y3, y4⟩ := CS.out W hSw; go_simp; try with_reducible rfl)
        try simp only [Act.put, List.setIfInBounds_toArray, List.set_cons_zero, List.set_cons_succ]
        refine takeH (i := 3) (d := some 124) (v := ?av3) rfl rfl (by kernel_rfl) (by kernel_rfl) (by kernel_rfl) (fun _ _ _ h => h) (Or.inl ⟨by rfl, ?ay3⟩) (by assumption) ?ar3
        case ay3 => (intro W hSw; obtain ⟨x2, x3, x4, y2, y3, y4⟩ := CS.out W hSw; go_simp; try with_reducible rfl)
        try simp only [Act.put, List.setIfInBounds_toArray, List.set_cons_zero, List.set_cons_succ]
        refine takeH (i := 4) (d := some 125) (v := ?av4) rfl rfl (by kernel_rfl) (by kernel_rfl) (by kernel_rfl) (fun _ _ _ h => h) (Or.inl ⟨by rfl, ?ay4⟩) (by assumption) ?ar4
        case ay4 => (intro W hSw; obtain ⟨x2, x3, x4, y2, y3, y4⟩ := CS.out W hSw; go_simp; try with_reducible rfl)
        try simp only [Act.put, List.setIfInBounds_toArray, List.set_cons_zero, List.set_cons_succ]
        refine takeH (i := 5) (d := some 126) (v := ?av5) rfl rfl (by kernel_rfl) (by kernel_rfl) (by kernel_rfl) (fun _ _ _ h => h) (Or.inl ⟨by rfl, ?ay5⟩) (by assumption) ?ar5
        case ay5 => (intro W hSw; obtain ⟨x2, x3, x4, y2, y3, y4⟩ := CS.out W hSw; go_simp; try with_reducible rfl)
        try simp only [Act.put, List.setIfInBounds_toArray, List.set_cons_zero, List.set_cons_succ]
        refine takeH (i := 6) (d := some 127) (v := ?av6) rfl rfl (by kernel_rfl) (by kernel_rfl) (by kernel_rfl) (fun _ _ _ h => h) (Or.inl ⟨by rfl, ?ay6⟩) (by assumption) ?ar6
        case ay6 => (intro W hSw; obtain ⟨x2, x3, x4, y2, y3, y4⟩ := CS.out W hSw; go_simp; try with_reducible rfl)
        try simp only [Act.put, List.setIfInBounds_toArray, List.set_cons_zero, List.set_cons_succ]
        refine takeH (i := 7) (d := some 128) (v := ?av7) rfl rfl (by kernel_rfl) (by kernel_rfl) (by kernel_rfl) (fun _ _ _ h => h) (Or.inl ⟨by rfl, ?ay7⟩) (by assumption) ?ar7
        case ay7 => (intro W hSw; obtain ⟨x2, x3, x4, y2, y3, y4⟩ := CS.out W hSw; go_simp; try with_reducible rfl)
        try simp only [Act.put, List.setIfInBounds_toArray, List.set_cons_zero, List.set_cons_succ]
        refine takeH (i := 8) (d := some 129) (v := ?av8) rfl rfl (by kernel_rfl) (by kernel_rfl) (by kernel_rfl) (fun _ _ _ h => h) (Or.inl ⟨by rfl, ?ay8⟩) (by assumption) ?ar8
        case ay8 => (intro W hSw; obtain ⟨x2, x3, x4, y2, y3, y4⟩ := CS.out W hSw; go_simp; try with_reducible rfl)
        try simp only [Act.put, List.setIfInBounds_toArray, List.set_cons_zero, List.set_cons_succ]
        refine takeH (i := 9) (d := some 130) (v := ?av9) rfl rfl (by kernel_rfl) (by kernel_rfl) (by kernel_rfl) (fun _ _ _ h => h) (Or.inl ⟨by rfl, ?ay9⟩) (by assumption) ?ar9
        case ay9 => (intro W hSw; obtain ⟨x2, x3, x4, y2, y3, y4⟩ := CS.out W hSw; go_simp; try with_reducible rfl)
        try simp only [Act.put, List.setIfInBounds_toArray, List.set_cons_zero, List.set_cons_succ]
        refine takeH (i := 10) (d := some 131) (v := ?av10) rfl rfl (by kernel_rfl) (by kernel_rfl) (by kernel_rfl) (fun _ _ _ h => h) (Or.inl ⟨by rfl, ?ay10⟩) (by assumption) ?ar10
        case ay10 => (intro W hSw; obtain ⟨x2, x3, x4, y2, y3, y4⟩ := CS.out W hSw; go_simp; try with_reducible rfl)
        try simp only [Act.put, List.setIfInBounds_toArray, List.set_cons_zero, List.set_cons_succ]
        refine takeH (i := 11) (d := some 132) (v := ?av11) rfl rfl (by kernel_rfl) (by kernel_rfl) (by kernel_rfl) (fun _ _ _ h => h) (Or.inl ⟨by rfl, ?ay11⟩) (by assumption) ?ar11
        case ay11 => (intro W hSw; obtain ⟨x2, x3, x4, y2, y3, y4⟩ := CS.out W hSw; go_simp; try with_reducible rfl)
        try simp only [Act.put, List.setIfInBounds_toArray, List.set_cons_zero, List.set_cons_succ]
        refine takeH (i := 12) (d := some 133) (v := ?av12) rfl rfl (by kernel_rfl) (by kernel_rfl) (by kernel_rfl) (fun _ _ _ h => h) (Or.inl ⟨by rfl, ?ay12⟩) (by assumption) ?ar12
        case ay12 => (intro W hSw; obtain ⟨x2, x3, x4, y2, y3, y4⟩ := CS.out W hSw; go_simp; try with_reducible rfl)
        try simp only [Act.put, List.setIfInBounds_toArray, List.set_cons_zero, List.set_cons_succ]
        refine takeH (i := 13) (d := some 134) (v := ?av13) rfl rfl (by kernel_rfl) (by kernel_rfl) (by kernel_rfl) (fun _ _ _ h => h) (Or.inl ⟨by rfl, ?ay13⟩) (by assumption) ?ar13
        case ay13 => (intro W hSw; obtain ⟨x2, x3, x4, y2, y3, y4⟩ := CS.out W hSw; go_simp; try with_reducible rfl)
        try simp only [Act.put, List.setIfInBounds_toArray, List.set_cons_zero, List.set_cons_succ]
        refine takeH (i := 14) (d := some 135) (v := ?av14) rfl rfl (by kernel_rfl) (by kernel_rfl) (by kernel_rfl) (fun _ _ _ h => h) (Or.inl ⟨by rfl, ?ay14⟩) (by assumption) ?ar14
        case ay14 => (intro W hSw; obtain ⟨x2, x3, x4, y2, y3, y4⟩ := CS.out W hSw; go_simp; try with_reducible rfl)
        try simp only [Act.put, List.setIfInBounds_toArray, List.set_cons_zero, List.set_cons_succ]
        refine takeH (i := 15) (d := some 136) (v := ?av15) rfl rfl (by kernel_rfl) (by kernel_rfl) (by kernel_rfl) (fun _ _ _ h => h) (Or.inl ⟨by rfl, ?ay15⟩) (by assumption) ?ar15
        case ay15 => (intro W hSw; obtain ⟨x2, x3, x4, y2, y3, y4⟩ := CS.out W hSw; go_simp; try with_reducible rfl)
        try simp only [Act.put, List.setIfInBounds_toArray, List.set_cons_zero, List.set_cons_succ]
        refine takeH (i := 16) (d := some 137) (v := ?av16) rfl rfl (by kernel_rfl) (by kernel_rfl) (by kernel_rfl) (fun _ _ _ h => h) (Or.inl ⟨by rfl, ?ay16⟩) (by assumption) ?ar16
        case ay16 => (intro W hSw; obtain ⟨x2, x3, x4, y2, y3, y4⟩ := CS.out W hSw; go_simp; try with_reducible rfl)
        try simp only [Act.put, List.setIfInBounds_toArray, List.set_cons_zero, List.set_cons_succ]
        refine takeH (i := 17) (d := some 138) (v := ?av17) rfl rfl (by kernel_rfl) (by kernel_rfl) (by kernel_rfl) (fun _ _ _ h => h) (Or.inl ⟨by rfl, ?ay17⟩) (by assumption) ?ar17
        case ay17 => (intro W hSw; obtain ⟨x2, x3, x4, y2, y3, y4⟩ := CS.out W hSw; go_simp; try with_reducible rfl)
        try simp only [Act.put, List.setIfInBounds_toArray, List.set_cons_zero, List.set_cons_succ]
        refine takeH (i := 18) (d := some 139) (v := ?av18) rfl rfl (by kernel_rfl) (by kernel_rfl) (by kernel_rfl) (fun _ _ _ h => h) (Or.inl ⟨by rfl, ?ay18⟩) (by assumption) ?ar18
        case ay18 => (intro W hSw; obtain ⟨x2, x3, x4, y2, y3, y4⟩ := CS.out W hSw; go_simp; try with_reducible rfl)
        try simp only [Act.put, List.setIfInBounds_toArray, List.set_cons_zero, List.set_cons_succ]
        refine takeH (i := 19) (d := some 140) (v := ?av19) rfl rfl (by kernel_rfl) (by kernel_rfl) (by kernel_rfl) (fun _ _ _ h => h) (Or.inl ⟨by rfl, ?ay19⟩) (by assumption) ?ar19
        case ay19 => (intro W hSw; obtain ⟨x2, x3, x4, y2, y3, y4⟩ := CS.out W hSw; go_simp; try with_reducible rfl)
        try simp only [Act.put, List.setIfInBounds_toArray, List.set_cons_zero, List.set_cons_succ]
        refine takeH (i := 20) (d := some 141) (v := ?av20) rfl rfl (by kernel_rfl) (by kernel_rfl) (by kernel_rfl) (fun _ _ _ h => h) (Or.inl ⟨by rfl, ?ay20⟩) (by assumption) ?ar20
        case ay20 => (intro W hSw; obtain ⟨x2, x3, x4, y2, y3, y4⟩ := CS.out W hSw; go_simp; try with_reducible rfl)
        try simp only [Act.put, List.setIfInBounds_toArray, List.set_cons_zero, List.set_cons_succ]
        refine takeH (i := 21) (d := some 142) (v := ?av21) rfl rfl (by kernel_rfl) (by kernel_rfl) (by kernel_rfl) (fun _ _ _ h => h) (Or.inl ⟨by rfl, ?ay21⟩) (by assumption) ?ar21
        case ay21 => (intro W hSw; obtain ⟨x2, x3, x4, y2, y3, y4⟩ := CS.out W hSw; go_simp; try with_reducible rfl)
        try simp only [Act.put, List.setIfInBounds_toArray, List.set_cons_zero, List.set_cons_succ]
        refine takeH (i := 22) (d := some 143) (v := ?av22) rfl rfl (by kernel_rfl) (by kernel_rfl) (by kernel_rfl) (fun _ _ _ h => h) (Or.inl ⟨by rfl, ?ay22⟩) (by assumption) ?ar22
        case ay22 => (intro W hSw; obtain ⟨x2, x3, x4, y2, y3, y4⟩ := CS.out W hSw; go_simp; try with_reducible rfl)
        try simp only [Act.put, List.setIfInBounds_toArray, List.set_cons_zero, List.set_cons_succ]
        refine takeH (i := 23) (d := some 144) (v := ?av23) rfl rfl (by kernel_rfl) (by kernel_rfl) (by kernel_rfl) (fun _ _ _ h => h) (Or.inl ⟨by rfl, ?ay23⟩) (by assumption) ?ar23
        case ay23 => (intro W hSw; obtain ⟨x2, x3, x4, y2, y3, y4⟩ := CS.out W hSw; go_simp; try with_reducible rfl)
        try simp only [Act.put, List.setIfInBounds_toArray, List.set_cons_zero, List.set_cons_succ]
        refine takeH (i := 24) (d := some 145) (v := ?av24) rfl rfl (by kernel_rfl) (by kernel_rfl) (by kernel_rfl) (fun _ _ _ h => h) (Or.inl ⟨by rfl, ?ay24⟩) (by assumption) ?ar24
        case ay24 => (intro W hSw; obtain ⟨x2, x3, x4, y2, y3, y4⟩ := CS.out W hSw; go_simp; try with_reducible rfl)
        try simp only [Act.put, List.setIfInBounds_toArray, List.set_cons_zero, List.set_cons_succ]
        refine takeH (i := 25) (d := some 146) (v := ?av25) rfl rfl (by kernel_rfl) (by kernel_rfl) (by kernel_rfl) (fun _ _ _ h => h) (Or.inl ⟨by rfl, ?ay25⟩) (by assumption) ?ar25
        case ay25 => (intro W hSw; obtain ⟨x2, x3, x4, y2, y3, y4⟩ := CS.out W hSw; go_simp; try with_reducible rfl)
        try simp only [Act.put, List.setIfInBounds_toArray, List.set_cons_zero, List.set_cons_succ]
        refine takeH (i := 26) (d := some 147) (v := ?av26) rfl rfl (by kernel_rfl) (by kernel_rfl) (by kernel_rfl) (fun _ _ _ h => h) (Or.inl ⟨by rfl, ?ay26⟩) (by assumption) ?ar26
        case ay26 => (intro W hSw; obtain ⟨x2, x3, x4, y2, y3, y4⟩ := CS.out W hSw; go_simp; try with_reducible rfl)
        try simp only [Act.put, List.setIfInBounds_toArray, List.set_cons_zero, List.set_cons_succ]
        refine takeH (i := 27) (d := some 148) (v := ?av27) rfl rfl (by kernel_rfl) (by kernel_rfl) (by kernel_rfl) (fun _ _ _ h => h) (Or.inl ⟨by rfl, ?ay27⟩) (by assumption) ?ar27
        case ay27 => (intro W hSw; obtain ⟨x2, x3, x4, y2, y3, y4⟩ := CS.out W hSw; go_simp; try with_reducible rfl)
        try simp only [Act.put, List.setIfInBounds_toArray, List.set_cons_zero, List.set_cons_succ]
        refine takeH (i := 28) (d := some 149) (v := ?av28) rfl rfl (by kernel_rfl) (by kernel_rfl) (by kernel_rfl) (fun _ _ _ h => h) (Or.inl ⟨by rfl, ?ay28⟩) (by assumption) ?ar28
        case ay28 => (intro W hSw; obtain ⟨x2, x3, x4, y2, y3, y4⟩ := CS.out W hSw; go_simp; try with_reducible rfl)
        try simp only [Act.put, List.setIfInBounds_toArray, List.set_cons_zero, List.set_cons_succ]
        refine takeH (i := 29) (d := some 150) (v := ?av29) rfl rfl (by kernel_rfl) (by kernel_rfl) (by kernel_rfl) (fun _ _ _ h => h) (Or.inl ⟨by rfl, ?ay29⟩) (by assumption) ?ar29
        case ay29 => (intro W hSw; obtain ⟨x2, x3, x4, y2, y3, y4⟩ := CS.out W hSw; go_simp; try with_reducible rfl)
        try simp only [Act.put, List.setIfInBounds_toArray, List.set_cons_zero, List.set_cons_succ]
        refine takeH (i := 30) (d := some 151) (v := ?av30) rfl rfl (by kernel_rfl) (by kernel_rfl) (by kernel_rfl) (fun _ _ _ h => h) (Or.inl ⟨by rfl, ?ay30⟩) (by assumption) ?ar30
        case ay30 => (intro W hSw; obtain ⟨x2, x3, x4, y2, y3, y4⟩ := CS.out W hSw; go_simp; try with_reducible rfl)
        try simp only [Act.put, List.setIfInBounds_toArray, List.set_cons_zero, List.set_cons_succ]
        refine takeH (i := 31) (d := some 152) (v := ?av31) rfl rfl (by kernel_rfl) (by kernel_rfl) (by kernel_rfl) (fun _ _ _ h => h) (Or.inl ⟨by rfl, ?ay31⟩) (by assumption) ?ar31
        case ay31 => (intro W hSw; obtain ⟨x2, x3, x4, y2, y3, y4⟩ := CS.out W hSw; go_simp; try with_reducible rfl)
        try simp only [Act.put, List.setIfInBounds_toArray, List.set_cons_zero, List.set_cons_succ]
        refine takeH (i := 32) (d := some 153) (v := ?av32) rfl rfl (by kernel_rfl) (by kernel_rfl) (by kernel_rfl) (fun _ _ _ h => h) (Or.inl ⟨by rfl, ?ay32⟩) (by assumption) ?ar32
        case ay32 => (intro W hSw; obtain ⟨x2, x3, x4, y2, y3, y4⟩ := CS.out W hSw; go_simp; try with_reducible rfl)
        try simp only [Act.put, List.setIfInBounds_toArray, List.set_cons_zero, List.set_cons_succ]
        refine takeH (i := 33) (d := some 154) (v := ?av33) rfl rfl (by kernel_rfl) (by kernel_rfl) (by kernel_rfl) (fun _ _ _ h => h) (Or.inl ⟨by rfl, ?ay33⟩) (by assumption) ?ar33
        case ay33 => (intro W hSw; obtain ⟨x2, x3, x4, y2, y3, y4⟩ := CS.out W hSw; go_simp; try with_reducible rfl)
        try simp only [Act.put, List.setIfInBounds_toArray, List.set_cons_zero, List.set_cons_succ]
        refine takeH (i := 34) (d := some 155) (v := ?av34) rfl rfl (by kernel_rfl) (by kernel_rfl) (by kernel_rfl) (fun _ _ _ h => h) (Or.inl ⟨by rfl, ?ay34⟩) (by assumption) ?ar34
        case ay34 => (intro W hSw; obtain ⟨x2, x3, x4, y2, y3, y4⟩ := CS.out W hSw; go_simp; try with_reducible rfl)
        try simp only [Act.put, List.setIfInBounds_toArray, List.set_cons_zero, List.set_cons_succ]
        refine takeH (i := 35) (d := some 156) (v := ?av35) rfl rfl (by kernel_rfl) (by kernel_rfl) (by kernel_rfl) (fun _ _ _ h => h) (Or.inl ⟨by rfl, ?ay35⟩) (by assumption) ?ar35
        case ay35 => (intro W hSw; obtain ⟨x2, x3, x4, y2, y3, y4⟩ := CS.out W hSw; go_simp; try with_reducible rfl)
        try simp only [Act.put, List.setIfInBounds_toArray, List.set_cons_zero, List.set_cons_succ]
        refine takeH (i := 36) (d := some 157) (v := ?av36) rfl rfl (by kernel_rfl) (by kernel_rfl) (by kernel_rfl) (fun _ _ _ h => h) (Or.inl ⟨by rfl, ?ay36⟩) (by assumption) ?ar36
        case ay36 => (intro W hSw; obtain ⟨x2, x3, x4, y2, y3, y4⟩ := CS.out W hSw; go_simp; try with_reducible rfl)
        try simp only [Act.put, List.setIfInBounds_toArray, List.set_cons_zero, List.set_cons_succ]
        refine takeH (i := 37) (d := some 158) (v := ?av37) rfl rfl (by kernel_rfl) (by kernel_rfl) (by kernel_rfl) (fun _ _ _ h => h) (Or.inl ⟨by rfl, ?ay37⟩) (by assumption) ?ar37
        case ay37 => (intro W hSw; obtain ⟨x2, x3, x4, y2, y3, y4⟩ := CS.out W hSw; go_simp; try with_reducible rfl)
        try simp only [Act.put, List.setIfInBounds_toArray, List.set_cons_zero, List.set_cons_succ]
        refine skipH (i := 38) (d := some 159) rfl rfl (by kernel_rfl) (by kernel_rfl) (by kernel_rfl) (fun _ _ _ h => h) (by rfl) (by assumption) ?_
        try simp only [Act.put, List.setIfInBounds_toArray, List.set_cons_zero, List.set_cons_succ]
        refine skipH (i := 39) (d := some 160) rfl rfl (by kernel_rfl) (by kernel_rfl) (by kernel_rfl) (fun _ _ _ h => h) (by rfl) (by assumption) ?_
        try simp only [Act.put, List.setIfInBounds_toArray, List.set_cons_zero, List.set_cons_succ]
        refine skipH (i := 40) (d := some 161) rfl rfl (by kernel_rfl) (by kernel_rfl) (by kernel_rfl) (fun _ _ _ h => h) (by rfl) (by assumption) ?_
        try simp only [Act.put, List.setIfInBounds_toArray, List.set_cons_zero, List.set_cons_succ]
        refine skipH (i := 41) (d := some 162) rfl rfl (by kernel_rfl) (by kernel_rfl) (by kernel_rfl) (fun _ _ _ h => h) (by rfl) (by assumption) ?_
        try simp only [Act.put, List.setIfInBounds_toArray, List.set_cons_zero, List.set_cons_succ]
        refine skipH (i := 42) (d := some 163) rfl rfl (by kernel_rfl) (by kernel_rfl) (by kernel_rfl) (fun _ _ _ h => h) (by rfl) (by assumption) ?_
        try simp only [Act.put, List.setIfInBounds_toArray, List.set_cons_zero, List.set_cons_succ]
        refine skipH (i := 43) (d := some 164) rfl rfl (by kernel_rfl) (by kernel_rfl) (by kernel_rfl) (fun _ _ _ h => h) (by rfl) (by assumption) ?_
        try simp only [Act.put, List.setIfInBounds_toArray, List.set_cons_zero, List.set_cons_succ]
        refine skipH (i := 44) (d := some 165) rfl rfl (by kernel_rfl) (by kernel_rfl) (by kernel_rfl) (fun _ _ _ h => h) (by rfl) (by assumption) ?_
        try simp only [Act.put, List.setIfInBounds_toArray, List.set_cons_zero, List.set_cons_succ]
        refine skipH (i := 45) (d := some 166) rfl rfl (by kernel_rfl) (by kernel_rfl) (by kernel_rfl) (fun _ _ _ h => h) (by rfl) (by assumption) ?_
        try simp only [Act.put, List.setIfInBounds_toArray, List.set_cons_zero, List.set_cons_succ]
        refine skipH (i := 46) (d := some 167) rfl rfl (by kernel_rfl) (by kernel_rfl) (by kernel_rfl) (fun _ _ _ h => h) (by rfl) (by assumption) ?_
        try simp only [Act.put, List.setIfInBounds_toArray, List.set_cons_zero, List.set_cons_succ]
        refine skipH (i := 47) (d := some 168) rfl rfl (by kernel_rfl) (by kernel_rfl) (by kernel_rfl) (fun _ _ _ h => h) (by rfl) (by assumption) ?_
        try simp only [Act.put, List.setIfInBounds_toArray, List.set_cons_zero, List.set_cons_succ]
        refine skipH (i := 48) (d := some 169) rfl rfl (by kernel_rfl) (by kernel_rfl) (by kernel_rfl) (fun _ _ _ h => h) (by rfl) (by assumption) ?_
        try simp only [Act.put, List.setIfInBounds_toArray, List.set_cons_zero, List.set_cons_succ]
        refine skipH (i := 49) (d := some 170) rfl rfl (by kernel_rfl) (by kernel_rfl) (by kernel_rfl) (fun _ _ _ h => h) (by rfl) (by assumption) ?_
        try simp only [Act.put, List.setIfInBounds_toArray, List.set_cons_zero, List.set_cons_succ]
        refine takeH (i := 50) (d := some 171) (v := ?av50) rfl rfl (by kernel_rfl) (by kernel_rfl) (by kernel_rfl) (fun _ _ _ h => h) (Or.inl ⟨by rfl, ?ay50⟩) (by assumption) ?ar50
        case ay50 => (intro W hSw; obtain ⟨x2, x3, x4, y2, y3, y4⟩ := CS.out W hSw; go_simp; try with_reducible rfl)
        try simp only [Act.put, List.setIfInBounds_toArray, List.set_cons_zero, List.set_cons_succ]
        refine takeH (i := 51) (d := some 172) (v := ?av51) rfl rfl (by kernel_rfl) (by kernel_rfl) (by kernel_rfl) (fun _ _ _ h => h) (Or.inl ⟨by rfl, ?ay51⟩) (by assumption) ?ar51
        case ay51 => (intro W hSw; obtain ⟨x2, x3, x4, y2, y3, y4⟩ := CS.out W hSw; go_simp; try with_reducible rfl)
        try simp only [Act.put, List.setIfInBounds_toArray, List.set_cons_zero, List.set_cons_succ]
        refine takeH (i := 52) (d := some 173) (v := ?av52) rfl rfl (by kernel_rfl) (by kernel_rfl) (by kernel_rfl) (fun _ _ _ h => h) (Or.inl ⟨by rfl, ?ay52⟩) (by assumption) ?ar52
        case ay52 => (intro W hSw; obtain ⟨x2, x3, x4, y2, y3, y4⟩ := CS.out W hSw; go_simp; try with_reducible rfl)
        try simp only [Act.put, List.setIfInBounds_toArray, List.set_cons_zero, List.set_cons_succ]
        refine wpAnyH_ready (rs := [53]) (by kernel_rfl) (by simp) ?_
        refine AllReadyH.cons rfl (fun K hK => ?_) AllReadyH.nil
        go_simp
        refine (AS.out _ (Keeps.trans K9.out hHeld)).mono ?_
        rintro e wv ⟨rfl, ka⟩
        have hv := Keeps.trans hHeld ka
        first | done | skip
        refine hK.out _ _ hv (fun hHeld => ?_)
        clear hK K hv
        try simp only [Act.put, List.setIfInBounds_toArray, List.set_cons_zero, List.set_cons_succ]
        refine takeH (i := 54) (d := some 175) (v := ?av54) rfl rfl (by kernel_rfl) (by kernel_rfl) (by kernel_rfl) (fun _ _ _ h => h) (Or.inl ⟨by rfl, ?ay54⟩) (by assumption) ?ar54
        case ay54 => (intro W hSw; obtain ⟨x2, x3, x4, y2, y3, y4⟩ := CS.out W hSw; go_simp; try with_reducible rfl)
        try simp only [Act.put, List.setIfInBounds_toArray, List.set_cons_zero, List.set_cons_succ]
        refine takeH (i := 55) (d := some 6) (v := ?av55) rfl rfl (by kernel_rfl) (by kernel_rfl) (by kernel_rfl) (fun _ _ _ h => h) (Or.inl ⟨by rfl, ?ay55⟩) (by assumption) ?ar55
        case ay55 => (intro W hSw; obtain ⟨x2, x3, x4, y2, y3, y4⟩ := CS.out W hSw; go_simp; try with_reducible rfl)
        try simp only [Act.put, List.setIfInBounds_toArray, List.set_cons_zero, List.set_cons_succ]
        refine wpAnyH_done (by kernel_rfl) ?_ _
        go_wp2
        go_ret
        exact ⟨rfl, Keeps.trans KW.out (Keeps.trans K9.out hHeld)⟩
      | false =>
        obtain ⟨rfl, rfl⟩ := AN.out rfl
        clear AN
        refine wp_region_held_drew (S := fun W => Keeps w9 W) (by kernel_rfl) (ky_drew _) (fun hHeld => ?_)
        refine takeH (i := 0) (d := some 121) (v := ?bv0) rfl rfl (by kernel_rfl) (by kernel_rfl) (by kernel_rfl) (fun _ _ _ h => h) (Or.inl ⟨by rfl, ?by0⟩) (by assumption) ?br0
        case by0 => (intro W hSw; obtain ⟨x2, x3, x4, y2, y3, y4⟩ := CS.out W hSw; go_simp; try with_reducible rfl)
        try simp only [Act.put, List.setIfInBounds_toArray, List.set_cons_zero, List.set_cons_succ]
        refine takeH (i := 1) (d := some 122) (v := ?bv1) rfl rfl (by kernel_rfl) (by kernel_rfl) (by kernel_rfl) (fun _ _ _ h => h) (Or.inl ⟨by rfl, ?by1⟩) (by assumption) ?br1
        case by1 => (intro W hSw; obtain ⟨x2, x3, x4, y2, y3, y4⟩ := CS.out W hSw; go_simp; try with_reducible rfl)
        try simp only [Act.put, List.setIfInBounds_toArray, List.set_cons_zero, List.set_cons_succ]
        refine takeH (i := 2) (d := some 123) (v := ?bv2) rfl rfl (by kernel_rfl) (by kernel_rfl) (by kernel_rfl) (fun _ _ _ h => h) (Or.inl ⟨by rfl, ?by2⟩) (by assumption) ?br2
        case by2 => (intro W hSw; obtain ⟨x2, x3, x4, y2, y3, y4⟩ := CS.out W hSw; go_simp; try with_reducible rfl)
        try simp only [Act.put, List.setIfInBounds_toArray, List.set_cons_zero, List.set_cons_succ]
        refine takeH (i := 3) (d := some 124) (v := ?bv3) rfl rfl (by kernel_rfl) (by kernel_rfl) (by kernel_rfl) (fun _ _ _ h => h) (Or.inl ⟨by rfl, ?by3⟩) (by assumption) ?br3
        case by3 => (intro W hSw; obtain ⟨x2, x3, x4, y2, y3, y4⟩ := CS.out W hSw; go_simp; try with_reducible rfl)
        try simp only [Act.put, List.setIfInBounds_toArray, List.set_cons_zero, List.set_cons_succ]
        refine takeH (i := 4) (d := some 125) (v := ?bv4) rfl rfl (by kernel_rfl) (by kernel_rfl) (by kernel_rfl) (fun _ _ _ h => h) (Or.inl ⟨by rfl, ?by4⟩) (by assumption) ?br4
        case by4 => (intro W hSw; obtain ⟨x2, x3, x4, y2, y3, y4⟩ := CS.out W hSw; go_simp; try with_reducible rfl)
        try simp only [Act.put, List.setIfInBounds_toArray, List.set_cons_zero, List.set_cons_succ]
        refine takeH (i := 5) (d := some 126) (v := ?bv5) rfl rfl (by kernel_rfl) (by kernel_rfl) (by kernel_rfl) (fun _ _ _ h => h) (Or.inl ⟨by rfl, ?by5⟩) (by assumption) ?br5
        case by5 => (intro W hSw; obtain ⟨x2, x3, x4, y2, y3, y4⟩ := CS.out W hSw; go_simp; try with_reducible rfl)
        try simp only [Act.put, List.setIfInBounds_toArray, List.set_cons_zero, List.set_cons_succ]
        refine takeH (i := 6) (d := some 127) (v := ?bv6) rfl rfl (by kernel_rfl) (by kernel_rfl) (by kernel_rfl) (fun _ _ _ h => h) (Or.inl ⟨by rfl, ?by6⟩) (by assumption) ?br6
        case by6 => (intro W hSw; obtain ⟨x2, x3, x4, y2, y3, y4⟩ := CS.out W hSw; go_simp; try with_reducible rfl)
        try simp only [Act.put, List.setIfInBounds_toArray, List.set_cons_zero, List.set_cons_succ]
        refine takeH (i := 7) (d := some 128) (v := ?bv7) rfl rfl (by kernel_rfl) (by kernel_rfl) (by kernel_rfl) (fun _ _ _ h => h) (Or.inl ⟨by rfl, ?by7⟩) (by assumption) ?br7
        case by7 => (intro W hSw; obtain ⟨x2, x3, x4, y2, y3, y4⟩ := CS.out W hSw; go_simp; try with_reducible rfl)
        try simp only [Act.put, List.setIfInBounds_toArray, List.set_cons_zero, List.set_cons_succ]
        refine takeH (i := 8) (d := some 129) (v := ?bv8) rfl rfl (by kernel_rfl) (by kernel_rfl) (by kernel_rfl) (fun _ _ _ h => h) (Or.inl ⟨by rfl, ?by8⟩) (by assumption) ?br8
        case by8 => (intro W hSw; obtain ⟨x2, x3, x4, y2, y3, y4⟩ := CS.out W hSw; go_simp; try with_reducible rfl)
        try simp only [Act.put, List.setIfInBounds_toArray, List.set_cons_zero, List.set_cons_succ]
        refine takeH (i := 9) (d := some 130) (v := ?bv9) rfl rfl (by kernel_rfl) (by kernel_rfl) (by kernel_rfl) (fun _ _ _ h => h) (Or.inl ⟨by rfl, ?by9⟩) (by assumption) ?br9
        case by9 => (intro W hSw; obtain ⟨x2, x3, x4, y2, y3, y4⟩ := CS.out W hSw; go_simp; try with_reducible rfl)
        try simp only [Act.put, List.setIfInBounds_toArray, List.set_cons_zero, List.set_cons_succ]
        refine takeH (i := 10) (d := some 131) (v := ?bv10) rfl rfl (by kernel_rfl) (by kernel_rfl) (by kernel_rfl) (fun _ _ _ h => h) (Or.inl ⟨by rfl, ?by10⟩) (by assumption) ?br10
        case by10 => (intro W hSw; obtain ⟨x2, x3, x4, y2, y3, y4⟩ := CS.out W hSw; go_simp; try with_reducible rfl)
        try simp only [Act.put, List.setIfInBounds_toArray, List.set_cons_zero, List.set_cons_succ]
        refine takeH (i := 11) (d := some 132) (v := ?bv11) rfl rfl (by kernel_rfl) (by kernel_rfl) (by kernel_rfl) (fun _ _ _ h => h) (Or.inl ⟨by rfl, ?by11⟩) (by assumption) ?br11
        case by11 => (intro W hSw; obtain ⟨x2, x3, x4, y2, y3, y4⟩ := CS.out W hSw; go_simp; try with_reducible rfl)
        try simp only [Act.put, List.setIfInBounds_toArray, List.set_cons_zero, List.set_cons_succ]
        refine takeH (i := 12) (d := some 133) (v := ?bv12) rfl rfl (by kernel_rfl) (by kernel_rfl) (by kernel_rfl) (fun _ _ _ h => h) (Or.inl ⟨by rfl, ?by12⟩) (by assumption) ?br12
        case by12 => (intro W hSw; obtain ⟨x2, x3, x4, y2, y3, y4⟩ := CS.out W hSw; go_simp; try with_reducible rfl)
        try simp only [Act.put, List.setIfInBounds_toArray, List.set_cons_zero, List.set_cons_succ]
        refine takeH (i := 13) (d := some 134) (v := ?bv13) rfl rfl (by kernel_rfl) (by kernel_rfl) (by kernel_rfl) (fun _ _ _ h => h) (Or.inl ⟨by rfl, ?by13⟩) (by assumption) ?br13
        case by13 => (intro W hSw; obtain ⟨x2, x3, x4, y2, y3, y4⟩ := CS.out W hSw; go_simp; try with_reducible rfl)
        try simp only [Act.put, List.setIfInBounds_toArray, List.set_cons_zero, List.set_cons_succ]
        refine takeH (i := 14) (d := some 135) (v := ?bv14) rfl rfl (by kernel_rfl) (by kernel_rfl) (by kernel_rfl) (fun _ _ _ h => h) (Or.inl ⟨by rfl, ?by14⟩) (by assumption) ?br14
        case by14 => (intro W hSw; obtain ⟨x2, x3, x4, y2, y3, y4⟩ := CS.out W hSw; go_simp; try with_reducible rfl)
        try simp only [Act.put, List.setIfInBounds_toArray, List.set_cons_zero, List.set_cons_succ]
        refine takeH (i := 15) (d := some 136) (v := ?bv15) rfl rfl (by kernel_rfl) (by kernel_rfl) (by kernel_rfl) (fun _ _ _ h => h) (Or.inl ⟨by rfl, ?by15⟩) (by assumption) ?br15
        case by15 => (intro W hSw; obtain ⟨x2, x3, x4, y2, y3, y4⟩ := CS.out W hSw; go_simp; try with_reducible rfl)
        try simp only [Act.put, List.setIfInBounds_toArray, List.set_cons_zero, List.set_cons_succ]
        refine takeH (i := 16) (d := some 137) (v := ?bv16) rfl rfl (by kernel_rfl) (by kernel_rfl) (by kernel_rfl) (fun _ _ _ h => h) (Or.inl ⟨by rfl, ?by16⟩) (by assumption) ?br16
        case by16 => (intro W hSw; obtain ⟨x2, x3, x4, y2, y3, y4⟩ := CS.out W hSw; go_simp; try with_reducible rfl)
        try simp only [Act.put, List.setIfInBounds_toArray, List.set_cons_zero, List.set_cons_succ]
        refine takeH (i := 17) (d := some 138) (v := ?bv17) rfl rfl (by kernel_rfl) (by kernel_rfl) (by kernel_rfl) (fun _ _ _ h => h) (Or.inl ⟨by rfl, ?by17⟩) (by assumption) ?br17
        case by17 => (intro W hSw; obtain ⟨x2, x3, x4, y2, y3, y4⟩ := CS.out W hSw; go_simp; try with_reducible rfl)
        try simp only [Act.put, List.setIfInBounds_toArray, List.set_cons_zero, List.set_cons_succ]
        refine takeH (i := 18) (d := some 139) (v := ?bv18) rfl rfl (by kernel_rfl) (by kernel_rfl) (by kernel_rfl) (fun _ _ _ h => h) (Or.inl ⟨by rfl, ?by18⟩) (by assumption) ?br18
        case by18 => (intro W hSw; obtain ⟨x2, x3, x4, y2, y3, y4⟩ := CS.out W hSw; go_simp; try with_reducible rfl)
        try simp only [Act.put, List.setIfInBounds_toArray, List.set_cons_zero, List.set_cons_succ]
        refine takeH (i := 19) (d := some 140) (v := ?bv19) rfl rfl (by kernel_rfl) (by kernel_rfl) (by kernel_rfl) (fun _ _ _ h => h) (Or.inl ⟨by rfl, ?by19⟩) (by assumption) ?br19
        case by19 => (intro W hSw; obtain ⟨x2, x3, x4, y2, y3, y4⟩ := CS.out W hSw; go_simp; try with_reducible rfl)
        try simp only [Act.put, List.setIfInBounds_toArray, List.set_cons_zero, List.set_cons_succ]
        refine takeH (i := 20) (d := some 141) (v := ?bv20) rfl rfl (by kernel_rfl) (by kernel_rfl) (by kernel_rfl) (fun _ _ _ h => h) (Or.inl ⟨by rfl, ?by20⟩) (by assumption) ?br20
        case by20 => (intro W hSw; obtain ⟨x2, x3, x4, y2, y3, y4⟩ := CS.out W hSw; go_simp; try with_reducible rfl)
        try simp only [Act.put, List.setIfInBounds_toArray, List.set_cons_zero, List.set_cons_succ]
        refine takeH (i := 21) (d := some 142) (v := ?bv21) rfl rfl (by kernel_rfl) (by kernel_rfl) (by kernel_rfl) (fun _ _ _ h => h) (Or.inl ⟨by rfl, ?by21⟩) (by assumption) ?br21
        case by21 => (intro W hSw; obtain ⟨x2, x3, x4, y2, y3, y4⟩ := CS.out W hSw; go_simp; try with_reducible rfl)
        try simp only [Act.put, List.setIfInBounds_toArray, List.set_cons_zero, List.set_cons_succ]
        refine takeH (i := 22) (d := some 143) (v := ?bv22) rfl rfl (by kernel_rfl) (by kernel_rfl) (by kernel_rfl) (fun _ _ _ h => h) (Or.inl ⟨by rfl, ?by22⟩) (by assumption) ?br22
        case by22 => (intro W hSw; obtain ⟨x2, x3, x4, y2, y3, y4⟩ := CS.out W hSw; go_simp; try with_reducible rfl)
        try simp only [Act.put, List.setIfInBounds_toArray, List.set_cons_zero, List.set_cons_succ]
        refine takeH (i := 23) (d := some 144) (v := ?bv23) rfl rfl (by kernel_rfl) (by kernel_rfl) (by kernel_rfl) (fun _ _ _ h => h) (Or.inl ⟨by rfl, ?by23⟩) (by assumption) ?br23
        case by23 => (intro W hSw; obtain ⟨x2, x3, x4, y2, y3, y4⟩ := CS.out W hSw; go_simp; try with_reducible rfl)
        try simp only [Act.put, List.setIfInBounds_toArray, List.set_cons_zero, List.set_cons_succ]
        refine takeH (i := 24) (d := some 145) (v := ?bv24) rfl rfl (by kernel_rfl) (by kernel_rfl) (by kernel_rfl) (fun _ _ _ h => h) (Or.inl ⟨by rfl, ?by24⟩) (by assumption) ?br24
        case by24 => (intro W hSw; obtain ⟨x2, x3, x4, y2, y3, y4⟩ := CS.out W hSw; go_simp; try with_reducible rfl)
        try simp only [Act.put, List.setIfInBounds_toArray, List.set_cons_zero, List.set_cons_succ]
        refine takeH (i := 25) (d := some 146) (v := ?bv25) rfl rfl (by kernel_rfl) (by kernel_rfl) (by kernel_rfl) (fun _ _ _ h => h) (Or.inl ⟨by rfl, ?by25⟩) (by assumption) ?br25
        case by25 => (intro W hSw; obtain ⟨x2, x3, x4, y2, y3, y4⟩ := CS.out W hSw; go_simp; try with_reducible rfl)
        try simp only [Act.put, List.setIfInBounds_toArray, List.set_cons_zero, List.set_cons_succ]
        refine takeH (i := 26) (d := some 147) (v := ?bv26) rfl rfl (by kernel_rfl) (by kernel_rfl) (by kernel_rfl) (fun _ _ _ h => h) (Or.inl ⟨by rfl, ?by26⟩) (by assumption) ?br26
        case by26 => (intro W hSw; obtain ⟨x2, x3, x4, y2, y3, y4⟩ := CS.out W hSw; go_simp; try with_reducible rfl)
        try simp only [Act.put, List.setIfInBounds_toArray, List.set_cons_zero, List.set_cons_succ]
        refine takeH (i := 27) (d := some 148) (v := ?bv27) rfl rfl (by kernel_rfl) (by kernel_rfl) (by kernel_rfl) (fun _ _ _ h => h) (Or.inl ⟨by rfl, ?by27⟩) (by assumption) ?br27
        case by27 => (intro W hSw; obtain ⟨x2, x3, x4, y2, y3, y4⟩ := CS.out W hSw; go_simp; try with_reducible rfl)
        try simp only [Act.put, List.setIfInBounds_toArray, List.set_cons_zero, List.set_cons_succ]
        refine takeH (i := 28) (d := some 149) (v := ?bv28) rfl rfl (by kernel_rfl) (by kernel_rfl) (by kernel_rfl) (fun _ _ _ h => h) (Or.inl ⟨by rfl, ?by28⟩) (by assumption) ?br28
        case by28 => (intro W hSw; obtain ⟨x2, x3, x4, y2, y3, y4⟩ := CS.out W hSw; go_simp; try with_reducible rfl)
        try simp only [Act.put, List.setIfInBounds_toArray, List.set_cons_zero, List.set_cons_succ]
        refine takeH (i := 29) (d := some 150) (v := ?bv29) rfl rfl (by kernel_rfl) (by kernel_rfl) (by kernel_rfl) (fun _ _ _ h => h) (Or.inl ⟨by rfl, ?by29⟩) (by assumption) ?br29
        case by29 => (intro W hSw; obtain ⟨x2, x3, x4, y2, y3, y4⟩ := CS.out W hSw; go_simp; try with_reducible rfl)
        try simp only [Act.put, List.setIfInBounds_toArray, List.set_cons_zero, List.set_cons_succ]
        refine takeH (i := 30) (d := some 151) (v := ?bv30) rfl rfl (by kernel_rfl) (by kernel_rfl) (by kernel_rfl) (fun _ _ _ h => h) (Or.inl ⟨by rfl, ?by30⟩) (by assumption) ?br30
        case by30 => (intro W hSw; obtain ⟨x2, x3, x4, y2, y3, y4⟩ := CS.out W hSw; go_simp; try with_reducible rfl)
        try simp only [Act.put, List.setIfInBounds_toArray, List.set_cons_zero, List.set_cons_succ]
        refine takeH (i := 31) (d := some 152) (v := ?bv31) rfl rfl (by kernel_rfl) (by kernel_rfl) (by kernel_rfl) (fun _ _ _ h => h) (Or.inl ⟨by rfl, ?by31⟩) (by assumption) ?br31
        case by31 => (intro W hSw; obtain ⟨x2, x3, x4, y2, y3, y4⟩ := CS.out W hSw; go_simp; try with_reducible rfl)
        try simp only [Act.put, List.setIfInBounds_toArray, List.set_cons_zero, List.set_cons_succ]
        refine takeH (i := 32) (d := some 153) (v := ?bv32) rfl rfl (by kernel_rfl) (by kernel_rfl) (by kernel_rfl) (fun _ _ _ h => h) (Or.inl ⟨by rfl, ?by32⟩) (by assumption) ?br32
        case by32 => (intro W hSw; obtain ⟨x2, x3, x4, y2, y3, y4⟩ := CS.out W hSw; go_simp; try with_reducible rfl)
        try simp only [Act.put, List.setIfInBounds_toArray, List.set_cons_zero, List.set_cons_succ]
        refine takeH (i := 33) (d := some 154) (v := ?bv33) rfl rfl (by kernel_rfl) (by kernel_rfl) (by kernel_rfl) (fun _ _ _ h => h) (Or.inl ⟨by rfl, ?by33⟩) (by assumption) ?br33
        case by33 => (intro W hSw; obtain ⟨x2, x3, x4, y2, y3, y4⟩ := CS.out W hSw; go_simp; try with_reducible rfl)
        try simp only [Act.put, List.setIfInBounds_toArray, List.set_cons_zero, List.set_cons_succ]
        refine takeH (i := 34) (d := some 155) (v := ?bv34) rfl rfl (by kernel_rfl) (by kernel_rfl) (by kernel_rfl) (fun _ _ _ h => h) (Or.inl ⟨by rfl, ?by34⟩) (by assumption) ?br34
        case by34 => (intro W hSw; obtain ⟨x2, x3, x4, y2, y3, y4⟩ := CS.out W hSw; go_simp; try with_reducible rfl)
        try simp only [Act.put, List.setIfInBounds_toArray, List.set_cons_zero, List.set_cons_succ]
        refine takeH (i := 35) (d := some 156) (v := ?bv35) rfl rfl (by kernel_rfl) (by kernel_rfl) (by kernel_rfl) (fun _ _ _ h => h) (Or.inl ⟨by rfl, ?by35⟩) (by assumption) ?br35
        case by35 => (intro W hSw; obtain ⟨x2, x3, x4, y2, y3, y4⟩ := CS.out W hSw; go_simp; try with_reducible rfl)
        try simp only [Act.put, List.setIfInBounds_toArray, List.set_cons_zero, List.set_cons_succ]
        refine takeH (i := 36) (d := some 157) (v := ?bv36) rfl rfl (by kernel_rfl) (by kernel_rfl) (by kernel_rfl) (fun _ _ _ h => h) (Or.inl ⟨by rfl, ?by36⟩) (by assumption) ?br36
        case by36 => (intro W hSw; obtain ⟨x2, x3, x4, y2, y3, y4⟩ := CS.out W hSw; go_simp; try with_reducible rfl)
        try simp only [Act.put, List.setIfInBounds_toArray, List.set_cons_zero, List.set_cons_succ]
        refine takeH (i := 37) (d := some 158) (v := ?bv37) rfl rfl (by kernel_rfl) (by kernel_rfl) (by kernel_rfl) (fun _ _ _ h => h) (Or.inl ⟨by rfl, ?by37⟩) (by assumption) ?br37
        case by37 => (intro W hSw; obtain ⟨x2, x3, x4, y2, y3, y4⟩ := CS.out W hSw; go_simp; try with_reducible rfl)
        try simp only [Act.put, List.setIfInBounds_toArray, List.set_cons_zero, List.set_cons_succ]
        refine takeH (i := 38) (d := some 159) (v := ?bv38) rfl rfl (by kernel_rfl) (by kernel_rfl) (by kernel_rfl) (fun _ _ _ h => h) (Or.inl ⟨by rfl, ?by38⟩) (by assumption) ?br38
        case by38 => (intro W hSw; obtain ⟨x2, x3, x4, y2, y3, y4⟩ := CS.out W hSw; go_simp; try with_reducible rfl)
        try simp only [Act.put, List.setIfInBounds_toArray, List.set_cons_zero, List.set_cons_succ]
        refine takeH (i := 39) (d := some 160) (v := ?bv39) rfl rfl (by kernel_rfl) (by kernel_rfl) (by kernel_rfl) (fun _ _ _ h => h) (Or.inl ⟨by rfl, ?by39⟩) (by assumption) ?br39
        case by39 => (intro W hSw; obtain ⟨x2, x3, x4, y2, y3, y4⟩ := CS.out W hSw; go_simp; try with_reducible rfl)
        try simp only [Act.put, List.setIfInBounds_toArray, List.set_cons_zero, List.set_cons_succ]
        refine takeH (i := 40) (d := some 161) (v := ?bv40) rfl rfl (by kernel_rfl) (by kernel_rfl) (by kernel_rfl) (fun _ _ _ h => h) (Or.inl ⟨by rfl, ?by40⟩) (by assumption) ?br40
        case by40 => (intro W hSw; obtain ⟨x2, x3, x4, y2, y3, y4⟩ := CS.out W hSw; go_simp; try with_reducible rfl)
        try simp only [Act.put, List.setIfInBounds_toArray, List.set_cons_zero, List.set_cons_succ]
        refine takeH (i := 41) (d := some 162) (v := ?bv41) rfl rfl (by kernel_rfl) (by kernel_rfl) (by kernel_rfl) (fun _ _ _ h => h) (Or.inl ⟨by rfl, ?by41⟩) (by assumption) ?br41
        case by41 => (intro W hSw; obtain ⟨x2, x3, x4, y2, y3, y4⟩ := CS.out W hSw; go_simp; try with_reducible rfl)
        try simp only [Act.put, List.setIfInBounds_toArray, List.set_cons_zero, List.set_cons_succ]
        refine takeH (i := 42) (d := some 163) (v := ?bv42) rfl rfl (by kernel_rfl) (by kernel_rfl) (by kernel_rfl) (fun _ _ _ h => h) (Or.inl ⟨by rfl, ?by42⟩) (by assumption) ?br42
        case by42 => (intro W hSw; obtain ⟨x2, x3, x4, y2, y3, y4⟩ := CS.out W hSw; go_simp; try with_reducible rfl)
        try simp only [Act.put, List.setIfInBounds_toArray, List.set_cons_zero, List.set_cons_succ]
        refine takeH (i := 43) (d := some 164) (v := ?bv43) rfl rfl (by kernel_rfl) (by kernel_rfl) (by kernel_rfl) (fun _ _ _ h => h) (Or.inl ⟨by rfl, ?by43⟩) (by assumption) ?br43
        case by43 => (intro W hSw; obtain ⟨x2, x3, x4, y2, y3, y4⟩ := CS.out W hSw; go_simp; try with_reducible rfl)
        try simp only [Act.put, List.setIfInBounds_toArray, List.set_cons_zero, List.set_cons_succ]
        refine takeH (i := 44) (d := some 165) (v := ?bv44) rfl rfl (by kernel_rfl) (by kernel_rfl) (by kernel_rfl) (fun _ _ _ h => h) (Or.inl ⟨by rfl, ?by44⟩) (by assumption) ?br44
        case by44 => (intro W hSw; obtain ⟨x2, x3, x4, y2, y3, y4⟩ := CS.out W hSw; go_simp; try with_reducible rfl)
        try simp only [Act.put, List.setIfInBounds_toArray, List.set_cons_zero, List.set_cons_succ]
        refine takeH (i := 45) (d := some 166) (v := ?bv45) rfl rfl (by kernel_rfl) (by kernel_rfl) (by kernel_rfl) (fun _ _ _ h => h) (Or.inl ⟨by rfl, ?by45⟩) (by assumption) ?br45
        case by45 => (intro W hSw; obtain ⟨x2, x3, x4, y2, y3, y4⟩ := CS.out W hSw; go_simp; try with_reducible rfl)
        try simp only [Act.put, List.setIfInBounds_toArray, List.set_cons_zero, List.set_cons_succ]
        refine takeH (i := 46) (d := some 167) (v := ?bv46) rfl rfl (by kernel_rfl) (by kernel_rfl) (by kernel_rfl) (fun _ _ _ h => h) (Or.inl ⟨by rfl, ?by46⟩) (by assumption) ?br46
        case by46 => (intro W hSw; obtain ⟨x2, x3, x4, y2, y3, y4⟩ := CS.out W hSw; go_simp; try with_reducible rfl)
        try simp only [Act.put, List.setIfInBounds_toArray, List.set_cons_zero, List.set_cons_succ]
        refine takeH (i := 47) (d := some 168) (v := ?bv47) rfl rfl (by kernel_rfl) (by kernel_rfl) (by kernel_rfl) (fun _ _ _ h => h) (Or.inl ⟨by rfl, ?by47⟩) (by assumption) ?br47
        case by47 => (intro W hSw; obtain ⟨x2, x3, x4, y2, y3, y4⟩ := CS.out W hSw; go_simp; try with_reducible rfl)
        try simp only [Act.put, List.setIfInBounds_toArray, List.set_cons_zero, List.set_cons_succ]
        refine takeH (i := 48) (d := some 169) (v := ?bv48) rfl rfl (by kernel_rfl) (by kernel_rfl) (by kernel_rfl) (fun _ _ _ h => h) (Or.inl ⟨by rfl, ?by48⟩) (by assumption) ?br48
        case by48 => (intro W hSw; obtain ⟨x2, x3, x4, y2, y3, y4⟩ := CS.out W hSw; go_simp; try with_reducible rfl)
        try simp only [Act.put, List.setIfInBounds_toArray, List.set_cons_zero, List.set_cons_succ]
        refine takeH (i := 49) (d := some 170) (v := ?bv49) rfl rfl (by kernel_rfl) (by kernel_rfl) (by kernel_rfl) (fun _ _ _ h => h) (Or.inl ⟨by rfl, ?by49⟩) (by assumption) ?br49
        case by49 => (intro W hSw; obtain ⟨x2, x3, x4, y2, y3, y4⟩ := CS.out W hSw; go_simp; try with_reducible rfl)
        try simp only [Act.put, List.setIfInBounds_toArray, List.set_cons_zero, List.set_cons_succ]
        refine takeH (i := 50) (d := some 171) (v := ?bv50) rfl rfl (by kernel_rfl) (by kernel_rfl) (by kernel_rfl) (fun _ _ _ h => h) (Or.inl ⟨by rfl, ?by50⟩) (by assumption) ?br50
        case by50 => (intro W hSw; obtain ⟨x2, x3, x4, y2, y3, y4⟩ := CS.out W hSw; go_simp; try with_reducible rfl)
        try simp only [Act.put, List.setIfInBounds_toArray, List.set_cons_zero, List.set_cons_succ]
        refine takeH (i := 51) (d := some 172) (v := ?bv51) rfl rfl (by kernel_rfl) (by kernel_rfl) (by kernel_rfl) (fun _ _ _ h => h) (Or.inl ⟨by rfl, ?by51⟩) (by assumption) ?br51
        case by51 => (intro W hSw; obtain ⟨x2, x3, x4, y2, y3, y4⟩ := CS.out W hSw; go_simp; try with_reducible rfl)
        try simp only [Act.put, List.setIfInBounds_toArray, List.set_cons_zero, List.set_cons_succ]
        refine takeH (i := 52) (d := some 173) (v := ?bv52) rfl rfl (by kernel_rfl) (by kernel_rfl) (by kernel_rfl) (fun _ _ _ h => h) (Or.inl ⟨by rfl, ?by52⟩) (by assumption) ?br52
        case by52 => (intro W hSw; obtain ⟨x2, x3, x4, y2, y3, y4⟩ := CS.out W hSw; go_simp; try with_reducible rfl)
        try simp only [Act.put, List.setIfInBounds_toArray, List.set_cons_zero, List.set_cons_succ]
        refine wpAnyH_ready (rs := [53]) (by kernel_rfl) (by simp) ?_
        refine AllReadyH.cons rfl (fun K hK => ?_) AllReadyH.nil
        go_simp
        refine (AS.out _ (Keeps.trans K9.out hHeld)).mono ?_
        rintro e wv ⟨rfl, ka⟩
        have hv := Keeps.trans hHeld ka
        first | done | skip
        refine hK.out _ _ hv (fun hHeld => ?_)
        clear hK K hv
        try simp only [Act.put, List.setIfInBounds_toArray, List.set_cons_zero, List.set_cons_succ]
        refine takeH (i := 54) (d := some 175) (v := ?bv54) rfl rfl (by kernel_rfl) (by kernel_rfl) (by kernel_rfl) (fun _ _ _ h => h) (Or.inl ⟨by rfl, ?by54⟩) (by assumption) ?br54
        case by54 => (intro W hSw; obtain ⟨x2, x3, x4, y2, y3, y4⟩ := CS.out W hSw; go_simp; try with_reducible rfl)
        try simp only [Act.put, List.setIfInBounds_toArray, List.set_cons_zero, List.set_cons_succ]
        refine takeH (i := 55) (d := some 6) (v := ?bv55) rfl rfl (by kernel_rfl) (by kernel_rfl) (by kernel_rfl) (fun _ _ _ h => h) (Or.inl ⟨by rfl, ?by55⟩) (by assumption) ?br55
        case by55 => (intro W hSw; obtain ⟨x2, x3, x4, y2, y3, y4⟩ := CS.out W hSw; go_simp; try with_reducible rfl)
        try simp only [Act.put, List.setIfInBounds_toArray, List.set_cons_zero, List.set_cons_succ]
        refine wpAnyH_done (by kernel_rfl) ?_ _
        go_wp2
        go_ret
        exact ⟨rfl, Keeps.trans KW.out (Keeps.trans K9.out hHeld)⟩
      -- region 19 end
  · refine (pp_new_no kind stock limit wb hk).mono ?_
    rintro e w1 ⟨rfl, rfl⟩
    go_wp2_with fail
    refine (AS.out _ (Keeps.refl _)).mono ?_
    rintro e w2 ⟨rfl, k2⟩
    have K2 := Lib.hid k2
    clear k2
    go_wp2
    go_ret
    exact ⟨rfl, Keeps.trans KW.out K2.out⟩
end Pa
end Go.Proofs.YtkffpmeocfhcpaaDoor
