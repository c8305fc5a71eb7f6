
/- PartyBook: the walk. -/
import Derived.Test.YtkffpmeocfhcpaaDoorPaTwo
import Derived.Test.YtkffpmeocfhcpaaDoorRwCP
import Derived.Deep.QuietTactic
import Derived.Deep.RegionHeld3
import Derived.Deep.Cut
set_option linter.unusedVariables false
namespace Go.Proofs.YtkffpmeocfhcpaaDoor
open Go.ChangeShapes Go.WideShapes Go.ChangeAt Go.RowKit Ky Rw Od
namespace Pa
open Pp
theorem sub_same {x : R} {A B : List R} (h : (x :: A).Sublist (x :: B)) : A.Sublist B := List.cons_sublist_cons.1 h
theorem sub_other {x y : R} {A B : List R} (h : (x :: A).Sublist (y :: B)) (hne : x ≠ y) : (x :: A).Sublist B := by
  cases h with
  | cons _ h => exact h
  | cons_cons _ h => exact absurd rfl hne
theorem drop_at {L : List R} {k : Nat} {x : R} (h : L[k]? = some x) : L.drop k = x :: L.drop (k + 1) := by
  obtain ⟨hk, e⟩ := List.getElem?_eq_some_iff.1 h
  rw [List.drop_eq_getElem_cons hk, e]
set_option maxHeartbeats 16000000 in
set_option maxRecDepth 100000 in
theorem partyBook_go (kind stock limit : Int) (v : Value) (L : List Pt.M) (w : World) (hp : HasP w) (hv : MsgsAt w v L) :
    Calls Tryd.prog 6 #[fmV kind stock limit, v] w fun e w' => e = .returned (.bool true) ∧ Keeps w w' := by
  obtain ⟨wb, hwb⟩ : ∃ wb, w.alloc (fmBox kind stock limit) = wb := ⟨_, rfl⟩
  have KW := Lib.hid (show Keeps w wb from hwb ▸ ky_box w (fmBox kind stock limit))
  have BX := Lib.hid (show ∀ X, Keeps wb X → X.cell? ⟨w.heap.size, 0, none⟩ = some (.int .i64 kind) ∧ X.cell? ⟨w.heap.size, 1, none⟩ = some (.int .i64 stock) ∧ X.cell? ⟨w.heap.size, 2, none⟩ = some (.int .i64 limit) from fun X k => fm_cells w kind stock limit X (hwb ▸ k))
  have HP : Hid (∀ X, Keeps wb X → HasP X) := Lib.hid fun X k => hp.keeps (KW.out.trans k)
  have AS : Hid (∀ X, Keeps wb X → Calls Tryd.prog 9 #[] X fun e w' => e = .returned (.bool true) ∧ Keeps wb w') := Lib.hid fun X k => (la_asked X (HP.out X k)).mono fun e w' h => ⟨h.1, k.trans h.2⟩
  have HV : Hid (∀ X, Keeps wb X → MsgsAt X v L) := Lib.hid fun X k => hv.keeps (KW.out.trans k)
  have GR := Lib.hid (la_great v L 60 wb (HV.out wb (Keeps.refl _)))
  obtain ⟨gb, hgb⟩ : ∃ gb, greatP L 60 = gb := ⟨_, rfl⟩
  rw [hgb] at GR
  obtain ⟨pl, cl, rfl, hmx, _⟩ := hv
  obtain ⟨N, hN⟩ : ∃ N, L.length = N := ⟨_, rfl⟩
  rw [hN] at GR HV ⊢
  have HN := Lib.hid hN
  have HW := Lib.hid hwb
  clear hmx hN hwb hp
  unfold fmBox at HW
  unfold fmV
  go_enter Tryd.func6, Tryd.ntmps6
  go_wp2_with fail
  rw [HW.out]
  clear HW
  refine GR.out.mono ?_
  rintro e wg ⟨rfl, kg⟩
  have KG := Lib.hid kg
  clear kg GR
  cases gb with
  | true =>
    go_wp2_with fail
    refine (AS.out _ KG.out).mono ?_
    rintro e w2 ⟨rfl, k2⟩
    have K2 := Lib.hid k2
    clear k2
    go_wp2
    go_ret
    exact ⟨rfl, Keeps.trans KW.out K2.out⟩
  | false =>
    have NG := Lib.hid (great_no hgb)
    have hN60 : N ≤ 60 := by have := NG.out.2; rw [HN.out] at this; omega
    clear hgb
    obtain ⟨x0, x1, x2⟩ := BX.out _ KG.out
    by_cases hk : 0 ≤ kind ∧ kind ≤ 2
    · go_wp2_with fail
      refine (pp_new kind stock limit wg hk).mono ?_
      rintro e w0 hn
      obtain ⟨b, br, bs, bh, rfl, h, k0⟩ := own_new hn hk.1 hk.2
      obtain ⟨B, hB⟩ : ∃ B, wg.heap.size = B := ⟨_, rfl⟩
      have lB : Hid (wb.heap.size ≤ B) := Lib.hid (hB ▸ KG.out.size)
      rw [hB] at h
      have H0 := Lib.hid h
      have K0 := Lib.hid (Keeps.trans KG.out k0)
      clear hn h k0 hB x0 x1 x2
      obtain ⟨p0, hp0⟩ : ∃ p0, Pt.newP kind stock limit = p0 := ⟨_, rfl⟩
      have PK : Hid (p0.kind = kind ∧ p0.stock = min (max stock 0) 1000000000) := Lib.hid (by
        subst hp0
        refine ⟨rfl, ?_⟩
        show (if stock < 0 then 0 else min stock 1000000000) = _
        split <;> omega)
      rw [hp0] at H0
      clear hp0
      go_wp2_with fail
      go_loopw [6] (fun v6 wr => ∃ k : Nat, k ≤ N ∧ v6 = .int .i64 (k : Int) ∧ Own B wr b br bs bh (4 * k) (Pt.askL p0 (L.take k)) 0 ∧ Keeps wb wr) (fun v6 _ => N - (intOf v6).toNat)
      case atStart => exact ⟨0, by omega, rfl, H0.out, K0.out⟩
      case round =>
        obtain ⟨k, hk1, rfl, ho, hkr⟩ := hrel
        clear H0 K0
        obtain ⟨p, hpe⟩ : ∃ p, Pt.askL p0 (L.take k) = p := ⟨_, rfl⟩
        have PQ : Hid (p.kind = kind ∧ p.stock = min (max stock 0) 1000000000) := Lib.hid (by
          obtain ⟨e1, e2, e3⟩ := Pt.askL_kind p0 (L.take k)
          rw [hpe] at e1 e2
          exact ⟨e1.trans PK.out.1, e2.trans PK.out.2⟩)
        rw [hpe] at ho
        have HO := Lib.hid ho
        have HKR := Lib.hid hkr
        clear ho hkr
        by_cases hlt : k < N
        · obtain ⟨x, hx⟩ : ∃ x, L[k]? = some x := ⟨_, List.getElem?_eq_getElem (by have := HN.out; omega)⟩
          have xs50 := NG.out.1 x (List.mem_of_getElem? hx)
          have hxs : x.s.size ≤ maxLen := by unfold maxLen; omega
          obtain ⟨p', hp'⟩ : ∃ p', (Pt.ask p x).1 = p' := ⟨_, rfl⟩
          have EP : Hid (p' = Pt.askL p0 (L.take (k + 1))) := Lib.hid (by rw [← hp', ← hpe]; exact askL_next hx)
          obtain ⟨_, sb, ln⟩ := Pt.ask_rows p x
          rw [hp'] at sb ln
          have SB := Lib.hid sb
          have hi1 : (k : Int) < (N : Int) := by omega
          have hi0 : (0 : Int) ≤ (k : Int) := by omega
          have KD : Hid (p'.kind = kind ∧ Pt.Inv p') := Lib.hid (by
            rw [← hp']
            exact ⟨(Pt.ask_kind p x).1.trans PQ.out.1, Pt.ask_inv HO.out.inv x⟩)
          have G0 : Hid (∀ X, Keeps wb X → MsgAt X ((pl.getD default).add (k * 7)) x ∧ pl = some (pl.getD default)) := Lib.hid fun X kX => by
            obtain ⟨p1, c1, e1, _, hc⟩ := HV.out X kX
            rw [HN.out] at e1
            simp only [Value.slice.injEq] at e1
            obtain ⟨rfl, _, rfl⟩ := e1
            obtain ⟨_, ad, rfl, q⟩ := hc k x hx
            exact ⟨q, rfl⟩
          obtain ⟨ad, rfl⟩ : ∃ ad, pl = some ad := ⟨_, (G0.out wb (Keeps.refl _)).2⟩
          have GM : Hid (∀ X, Keeps wb X → MsgAt X (ad.add (k * 7)) x) := Lib.hid fun X kX => (G0.out X kX).1
          have EPP := Lib.hid hp'
          have GD : Hid (goodB kind p'.L = true) := Lib.hid (by rw [← KD.out.1]; exact good_iff.2 KD.out.2.good)
          have FW : Hid (p'.L.length ≤ 120) := Lib.hid KD.out.2.few
          have FA : Hid (p.L.length ≤ 120) := Lib.hid HO.out.inv.few
          clear G0 sb hx hp'
          go_wp2_with fail
          refine (pp_rows HO.out.at_ HO.out.inv (by omega)).mono ?_
          rintro e w1 ⟨v1, rfl, h1, k1⟩
          obtain ⟨pA, cA, rfl⟩ := rowK.own_shape h1
          have V1 := Lib.hid h1
          have K1 := Lib.hid (HKR.out.trans k1)
          have HO1 := Lib.hid (HO.out.keeps k1)
          clear h1 k1
          have LA : Hid (∀ i, three br bs bh i → i < wr.heap.size) := Lib.hid fun i hi => by
            obtain ⟨t1, t2, t3⟩ := HO.out.at_.tabs.low
            rcases hi with rfl | rfl | rfl <;> assumption
          obtain ⟨q0, q1, q2, q3, q4, q5, q6⟩ := GM.out _ K1.out
          go_wp2_with fail
          refine (HO1.out.ask (HP.out _ K1.out) (by omega) x hxs).mono ?_
          rintro e w2 ⟨rfl, h2, g2⟩
          rw [EPP.out] at h2
          have V2 := Lib.hid (own_only V1.out g2 LA.out)
          have K2 := Lib.hid (g2.keeps K1.out (fun i hi => Nat.le_trans lB.out (h2.three i hi)))
          have HO2 := Lib.hid h2
          clear h2 g2 q0 q1 q2 q3 q4 q5 q6
          go_wp2_with fail
          refine (pp_rows HO2.out.at_ HO2.out.inv (by omega)).mono ?_
          rintro e w3 ⟨v3, rfl, h3, k3⟩
          obtain ⟨pB, cB, rfl⟩ := rowK.own_shape h3
          have R3 := Lib.hid (own_rows h3 (by have := FW.out; omega))
          have A3 := Lib.hid (own_rows (rowK.own_keeps V2.out k3) (by have := FA.out; omega))
          have K3 := Lib.hid (K2.out.trans k3)
          have HO3 := Lib.hid (HO2.out.keeps k3)
          obtain ⟨x0, x1, x2⟩ := BX.out _ K3.out
          have CK := Lib.hid (pw_check _ p'.L kind w3 (HP.out _ K3.out) R3.out)
          rw [GD.out] at CK
          clear h3 k3 V1 V2 HO1 HO2
          obtain ⟨nA, hnA⟩ : ∃ n, p.L.length = n := ⟨_, rfl⟩
          obtain ⟨nB, hnB⟩ : ∃ n, p'.L.length = n := ⟨_, rfl⟩
          rw [hnA] at A3 FA ln ⊢
          rw [hnB] at R3 FW CK ln ⊢
          have NA := Lib.hid hnA
          have NB := Lib.hid hnB
          have fa := FA.out
          have fb := FW.out
          have ln1 : (nB : Int) ≤ (nA : Int) + 2 := by omega
          clear hnA hnB
          go_wp2_with fail
          refine CK.out.mono ?_
          rintro e w4 ⟨rfl, k4⟩
          have R4 := Lib.hid (R3.out.keeps k4)
          have A4 := Lib.hid (A3.out.keeps k4)
          have K4 := Lib.hid (K3.out.trans k4)
          have HO4 := Lib.hid (HO3.out.keeps k4)
          have q3 := (GM.out _ K4.out).2.2.2.1
          clear k4 x0 x1 x2 R3 A3 HO3 CK
          go_wp2_with fail
          refine (pp_Left HO4.out.at_ (HP.out _ K4.out) x.s hxs).mono ?_
          rintro e w5 ⟨rfl, k5⟩
          have lp := (left_pos HO4.out.inv x.s).1
          obtain ⟨lv, hlv⟩ : ∃ lv, leftV p' x.s = lv := ⟨_, rfl⟩
          rw [hlv] at lp ⊢
          have R5 := Lib.hid (R4.out.keeps k5)
          have A5 := Lib.hid (A4.out.keeps k5)
          have K5 := Lib.hid (K4.out.trans k5)
          have HO5 := Lib.hid (HO4.out.keeps k5)
          clear k5 R4 A4 HO4 q3 hlv
          go_wp2_with fail
          go_loopw [9, 10] (fun v9 v10 wi => ∃ kk nn : Nat, v9 = .int .i64 (kk : Int) ∧ v10 = .int .i64 (nn : Int) ∧ kk ≤ nA ∧ nn ≤ nB ∧ (p.L.drop kk).Sublist (p'.L.drop nn) ∧ Keeps w5 wi) (fun _ v10 _ => nB - (intOf v10).toNat)
          case atStart => exact ⟨0, 0, rfl, rfl, by omega, by omega, by simpa using SB.out, Keeps.refl _⟩
          case round =>
            rename World => wi
            obtain ⟨kk, nn, rfl, rfl, hkk, hnn, hsub, hki⟩ := hrel
            have HS := Lib.hid hsub
            have KI := Lib.hid hki
            clear hsub hki
            have OUT : Hid (∀ X, Keeps wi X → Own B X b br bs bh (4 * (k + 1)) (Pt.askL p0 (L.take (k + 1))) 0 ∧ Keeps wb X) := Lib.hid fun X kX => by
              rw [← EP.out]
              exact ⟨HO5.out.keeps (Keeps.trans KI.out kX), Keeps.trans K5.out (Keeps.trans KI.out kX)⟩
            by_cases h1 : nn < nB
            · by_cases h2 : kk < nA
              · obtain ⟨X, hX⟩ : ∃ X, p'.L[nn]? = some X := ⟨_, List.getElem?_eq_getElem (by have := NB.out; omega)⟩
                obtain ⟨Y, hY⟩ : ∃ Y, p.L[kk]? = some Y := ⟨_, List.getElem?_eq_getElem (by have := NA.out; omega)⟩
                have S2 := Lib.hid HS.out
                rw [drop_at hX, drop_at hY] at S2
                obtain ⟨pb1, c1, e1, _, _, hc1⟩ := R5.out.keeps KI.out
                obtain ⟨pa1, c2, e2, _, _, hc2⟩ := A5.out.keeps KI.out
                rw [NB.out] at e1
                rw [NA.out] at e2
                simp only [Value.slice.injEq] at e1 e2
                obtain ⟨rfl, _, rfl⟩ := e1
                obtain ⟨rfl, _, rfl⟩ := e2
                obtain ⟨ab, rfl, r⟩ := hc1 nn X hX
                obtain ⟨aa, rfl, t⟩ := hc2 kk Y hY
                obtain ⟨r0, r1, r2, r3, r4⟩ := r
                obtain ⟨t0, t1, t2, t3, t4⟩ := t
                have hn1 : (nn : Int) < (nB : Int) := by omega
                have hn0 : (0 : Int) ≤ (nn : Int) := by omega
                have ha1 : (kk : Int) < (nA : Int) := by omega
                have ha0 : (0 : Int) ≤ (kk : Int) := by omega
                have DY := Lib.hid (drop_at hY)
                clear hc1 hc2 hX hY
                go_upto_region 18 with (fail)
                obtain ⟨xo, xd, xc, xa, xq⟩ := X
                obtain ⟨yo, yd, yc, ya, yq⟩ := Y
                dsimp only at r0 r1 r2 r3 r4 t0 t1 t2 t3 t4
                by_cases hxy : xo = yo ∧ xd = yd ∧ xc = yc ∧ xa = ya ∧ xq = yq
                · obtain ⟨rfl, rfl, rfl, rfl, rfl⟩ := hxy
                  have S3 := Lib.hid (sub_same S2.out)
                  go_quiet (fail)
                  go_wp2_with fail
                  exact ⟨⟨kk + 1, nn + 1, by go_num, by go_num, by omega, by omega, S3.out, keeps_drewN KI.out _⟩, by simp [intOf]; omega⟩
                · have S3 : Hid ((p.L.drop kk).Sublist (p'.L.drop (nn + 1))) := Lib.hid (by
                    rw [DY.out]
                    exact sub_other S2.out fun e => hxy (by
                      simp only [R.mk.injEq] at e
                      obtain ⟨e1, e2, e3, e4, e5⟩ := e
                      exact ⟨e1.symm, e2.symm, e3.symm, e4.symm, e5.symm⟩))
                  rcases (show xo ≠ yo ∨ (xo = yo ∧ xd ≠ yd) ∨ (xo = yo ∧ xd = yd ∧ xc ≠ yc) ∨ (xo = yo ∧ xd = yd ∧ xc = yc ∧ xa ≠ ya) ∨ (xo = yo ∧ xd = yd ∧ xc = yc ∧ xa = ya ∧ xq ≠ yq) from by omega) with e | ⟨rfl, e⟩ | ⟨rfl, rfl, e⟩ | ⟨rfl, rfl, rfl, e⟩ | ⟨rfl, rfl, rfl, rfl, e⟩
                  all_goals
                    have e4 := beq_eq_false_iff_ne.2 e
                    clear e hxy
                    go_quiet (fail)
                    go_wp2_with fail
                    exact ⟨⟨kk, nn + 1, rfl, by go_num, by omega, by omega, S3.out, keeps_drewN KI.out _⟩, by simp [intOf]; omega⟩
              · obtain rfl : kk = nA := by omega
                have hn1 : (nn : Int) < (nB : Int) := by omega
                have ha1 : ¬ ((kk : Int) < (kk : Int)) := by omega
                go_wp2_with fail
                obtain ⟨o1, o2⟩ := OUT.out _ (Keeps.refl _)
                exact ⟨⟨k + 1, by omega, by go_num, o1, o2⟩, by simp [intOf]; omega⟩
            · obtain rfl : nn = nB := by omega
              have hn1 : ¬ ((nn : Int) < (nn : Int)) := by omega
              have hkn : kk = nA := by
                have e := HS.out
                rw [show p'.L.drop nn = [] from List.drop_eq_nil_of_le (by have := NB.out; omega)] at e
                have e2 := List.eq_nil_of_sublist_nil e
                have e3 := List.drop_eq_nil_iff.1 e2
                have := NA.out
                omega
              subst hkn
              have ha1 : ¬ ((kk : Int) < (kk : Int)) := by omega
              go_wp2_with fail
              obtain ⟨o1, o2⟩ := OUT.out _ (Keeps.refl _)
              exact ⟨⟨k + 1, by omega, by go_num, o1, o2⟩, by simp [intOf]; omega⟩
        · obtain rfl : k = N := by omega
          have hz : ¬ ((k : Int) < (k : Int)) := by omega
          obtain ⟨x0, x1, x2⟩ := BX.out _ HKR.out
          by_cases hk1 : kind = 1
          · subst hk1
            have KR := Lib.hid (Keeps.refl wr)
            go_wp2_with fail
            clear x0 x1 x2 hpe hz hlt
            go_loopw [11] (fun v11 wi => ∃ j : Nat, j ≤ k ∧ v11 = .int .i64 (j : Int) ∧ Keeps wr wi) (fun v11 _ => k - (intOf v11).toNat)
            case atStart => exact ⟨0, by omega, rfl, KR.out⟩
            case round =>
              rename World => wi
              obtain ⟨j, hj, rfl, kj⟩ := hrel
              have KJ := Lib.hid kj
              have KJ2 := Lib.hid (Keeps.trans HKR.out kj)
              clear kj
              by_cases hlt : j < k
              · obtain ⟨x, hx⟩ : ∃ x, L[j]? = some x := ⟨_, List.getElem?_eq_getElem (by have := HN.out; omega)⟩
                have xs50 := NG.out.1 x (List.mem_of_getElem? hx)
                have hxs : x.s.size ≤ maxLen := by unfold maxLen; omega
                have hi1 : (j : Int) < (k : Int) := by omega
                have hi0 : (0 : Int) ≤ (j : Int) := by omega
                have G0 : Hid (∀ X, Keeps wb X → MsgAt X ((pl.getD default).add (j * 7)) x ∧ pl = some (pl.getD default)) := Lib.hid fun X kX => by
                  obtain ⟨p1, c1, e1, _, hc⟩ := HV.out X kX
                  rw [HN.out] at e1
                  simp only [Value.slice.injEq] at e1
                  obtain ⟨rfl, _, rfl⟩ := e1
                  obtain ⟨_, ad, rfl, q⟩ := hc j x hx
                  exact ⟨q, rfl⟩
                obtain ⟨ad, rfl⟩ : ∃ ad, pl = some ad := ⟨_, (G0.out wb (Keeps.refl _)).2⟩
                have GM : Hid (∀ X, Keeps wb X → MsgAt X (ad.add (j * 7)) x) := Lib.hid fun X kX => (G0.out X kX).1
                obtain ⟨q0, q1, q2, q3, q4, q5, q6⟩ := GM.out _ KJ2.out
                have CM := Lib.hid (od_may x.t x.o x.k x.s x.q x.a x.c wi (HP.out _ KJ2.out) hxs)
                obtain ⟨mb, hmb⟩ : ∃ mb, mayM x.t x.o x.k x.s x.q x.a x.c = mb := ⟨_, rfl⟩
                rw [hmb] at CM
                unfold msV at CM
                clear G0 hx hmb
                go_wp2_with fail
                refine CM.out.mono ?_
                rintro e w2 ⟨rfl, k2⟩
                have K2 := Lib.hid (Keeps.trans KJ.out k2)
                have K3 := Lib.hid (Keeps.trans KJ2.out k2)
                clear k2 q0 q1 q2 q3 q4 q5 q6
                cases mb with
                | false =>
                  go_wp2_with fail
                  exact ⟨⟨j + 1, by omega, by go_num, K2.out⟩, by simp [intOf]; omega⟩
                | true =>
                  have q3 := (GM.out _ K3.out).2.2.2.1
                  have x1 := (BX.out _ K3.out).2.1
                  have CL : Hid (∀ X, Keeps w2 X → Calls Tryd.prog 20 #[.pointer (some ⟨b, 0, none⟩), .string x.s] X fun e w' => e = .returned (.int .i64 (leftV p x.s)) ∧ Keeps X w') := Lib.hid fun X kX => pp_Left (HO.out.keeps (Keeps.trans K2.out kX)).at_ (HP.out _ (Keeps.trans K3.out kX)) x.s hxs
                  obtain ⟨lv, hlv⟩ : ∃ lv, leftV p x.s = lv := ⟨_, rfl⟩
                  have lp : lv ≤ min (max stock 0) 1000000000 := by
                    rw [← hlv, ← PQ.out.2]
                    exact (left_pos HO.out.inv x.s).2
                  rw [hlv] at CL
                  clear hlv
                  obtain ⟨S1, hS1⟩ : ∃ S1, max stock 0 = S1 := ⟨_, rfl⟩
                  rw [hS1] at lp
                  obtain ⟨S2, hS2⟩ : ∃ S2, min S1 1000000000 = S2 := ⟨_, rfl⟩
                  rw [hS2] at lp
                  go_wp2_with fail
                  go_region_held3 (fun X => X.cell? ⟨(ad.add (j * 7)).block, (ad.add (j * 7)).off + 3, none⟩ = some (.string x.s) ∧ X.cell? ⟨w.heap.size, 1, none⟩ = some (.int .i64 stock))
                    (first | assumption | go_keep) ((go_at_call 20; refine (CL.out _ (ky_drew _)).mono ?_; rintro e wv ⟨rfl, kv⟩; have KV := Lib.hid (Keeps.trans (ky_drew w2) kv); have y3 := cell_keeps KV.out q3; have y1 := cell_keeps KV.out x1; clear kv))
                  all_goals go_wp2_with fail
                  all_goals exact ⟨⟨j + 1, by omega, by go_num, Keeps.trans K2.out KV.out⟩, by simp [intOf]; omega⟩
              · obtain rfl : j = k := by omega
                have hz : ¬ ((j : Int) < (j : Int)) := by omega
                go_wp2_with fail
                refine (AS.out _ KJ2.out).mono ?_
                rintro e w2 ⟨rfl, k2⟩
                have K2 := Lib.hid k2
                clear k2
                go_wp2
                go_ret
                exact ⟨rfl, Keeps.trans KW.out K2.out⟩
          · have hkb : (kind != 1) = true := by simpa using hk1
            go_wp2_with fail
            refine (AS.out _ HKR.out).mono ?_
            rintro e w2 ⟨rfl, k2⟩
            have K2 := Lib.hid k2
            clear k2
            go_wp2
            go_ret
            exact ⟨rfl, Keeps.trans KW.out K2.out⟩
    · go_wp2_with fail
      refine (pp_new_no kind stock limit wg hk).mono ?_
      rintro e w1 ⟨rfl, rfl⟩
      go_wp2_with fail
      refine (AS.out _ KG.out).mono ?_
      rintro e w2 ⟨rfl, k2⟩
      have K2 := Lib.hid k2
      clear k2
      go_wp2
      go_ret
      exact ⟨rfl, Keeps.trans KW.out K2.out⟩
end Pa
end Go.Proofs.YtkffpmeocfhcpaaDoor
