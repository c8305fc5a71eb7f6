
/- WaitsAlone: the walk. -/
import Derived.Test.YtbemkcnikoiecaaWtTries
import Derived.Deep.CutBlock
set_option linter.unusedVariables false
set_option linter.unusedSimpArgs false
namespace Go.Proofs.Ytbemkcnikoiecaa
open Go.ChangeShapes Go.WideShapes Go.ChangeAt Go.RowKit Csv Ky Ob
namespace Wt
/-- What waits of one deed. -/
def ofK (l : List W5) (o d : Int) : List W5 := l.filter fun x => sameK x o d
def isK (o d : Int) (p : Int × Int) : Bool := decide (p.1 = o) && decide (p.2 = d)
theorem stop_of {l : List W5} {a c o d : Int} (h : ¬ (a = o ∧ c = d)) : ofK (stopL l a c) o d = ofK l o d := by
  unfold ofK stopL
  rw [List.filter_filter]
  congr 1
  funext x
  cases h1 : sameK x o d with
  | false => rfl
  | true =>
    have h2 : sameK x a c = false := by
      cases h3 : sameK x a c with
      | false => rfl
      | true =>
        have e1 := same_iff.1 h1
        have e2 := same_iff.1 h3
        exact absurd ⟨e2.1.symm.trans e1.1, e2.2.symm.trans e1.2⟩ h
    rw [h2]; rfl
theorem ins_of {l : List W5} {y : W5} {o d : Int} (h : ¬ (y.o = o ∧ y.d = d)) : ofK (insL l y) o d = ofK l o d := by
  have hy : sameK y o d = false := by
    cases h3 : sameK y o d with
    | false => rfl
    | true => exact absurd (same_iff.1 h3) h
  have e : l.takeWhile (ahead y) ++ l.dropWhile (ahead y) = l := List.takeWhile_append_dropWhile
  unfold ofK insL
  rw [List.filter_append, List.filter_cons, hy]
  simp only [Bool.false_eq_true, if_false]
  rw [← List.filter_append, e]
theorem put_of {l : List W5} {y : W5} {o d : Int} (h : ¬ (y.o = o ∧ y.d = d)) : ofK (putL l y) o d = ofK l o d := by
  unfold putL
  split
  · rw [ins_of h, stop_of h]
  · rfl
theorem start_of {l : List W5} {a c n o d : Int} (h : ¬ (a = o ∧ c = d)) : ofK (startL l a c n) o d = ofK l o d := put_of h
theorem again_of {l : List W5} {a c n o d : Int} (h : ¬ (a = o ∧ c = d)) : ofK (againL l a c n) o d = ofK l o d := by
  unfold againL
  split
  · exact start_of h
  · rfl
theorem tick_of (l : List W5) (n o d : Int) : ofK (tickL l n) o d = tickL (ofK l o d) n := by
  unfold ofK tickL
  rw [List.filter_map]
  congr 2
  funext x
  have k := tick1_key (near n) x
  show sameK (tick1 (near n) x) o d = sameK x o d
  unfold sameK
  rw [k.1, k.2]
theorem told_of (l : List W5) (n o d : Int) : (toldL l n).any (isK o d) = (ofK l o d).any (toldB (near n)) := by
  unfold toldL ofK
  rw [List.any_map, List.any_filter, List.any_filter]
  congr 1
  funext x
  show (toldB (near n) x && isK o d (x.o, x.d)) = (sameK x o d && toldB (near n) x)
  unfold isK sameK
  rw [Bool.and_comm]
theorem told_alone {l : List W5} {z : W5} {n o d : Int} (h : ofK l o d = [z]) : (toldL l n).any (isK o d) = decide ((toldL [z] n).length = 1) := by
  rw [told_of, h, told_one]
  cases hb : toldB (near n) z with
  | true => simp [hb]
  | false => simp [hb]
theorem any_take {l : List (Int × Int)} {q : Int × Int → Bool} {k : Nat} {x : Int × Int} (hx : l[k]? = some x) : (l.take (k + 1)).any q = ((l.take k).any q || q x) := by
  rw [List.take_add_one, hx, Option.toList_some, List.any_append]
  simp
theorem ufit9 {u : Nat} (h : u < 256) : Int.tmod (u : Int) 9 = ((u % 9 : Nat) : Int) ∧ Int.tdiv (u : Int) 9 = ((u / 9 : Nat) : Int) := by
  rw [Int.tmod_eq_emod_of_nonneg (by omega), Int.tdiv_eq_ediv_of_nonneg (by omega)]
  omega
theorem ufit4 {u : Nat} : Int.tmod (u : Int) 4 = ((u % 4 : Nat) : Int) := by
  rw [Int.tmod_eq_emod_of_nonneg (by omega)]
  omega
set_option maxHeartbeats 16000000 in
set_option maxRecDepth 100000 in
theorem waitsAlone_go (P : WtP) (a c o d : Int) (v : Value) (U : Csv.Bs) (W : World) (hp : ∀ Y, Keeps W Y → P.Has Y) (ha : I64 a) (hc : I64 c) (ho : I64 o) (hd : I64 d) (hU : U8sAt W v U) :
    Calls Try.prog 7 #[kyV a c, kyV o d, v] W fun e w' => e = .returned (.bool true) ∧ Keeps W w' := by
  obtain ⟨w0, hw0⟩ : ∃ w0, W.alloc (keBox a c) = w0 := ⟨_, rfl⟩
  obtain ⟨w1, hw1⟩ : ∃ w1, w0.alloc (keBox o d) = w1 := ⟨_, rfl⟩
  have K0 : Hid (Keeps W w0) := Lib.hid (hw0 ▸ wbox _ _)
  have K01 : Hid (Keeps w0 w1) := Lib.hid (hw1 ▸ wbox _ _)
  have K1 : Hid (Keeps W w1) := Lib.hid (K0.out.trans K01.out)
  have SZ : Hid (w0.heap.size = W.heap.size + 1) := Lib.hid (by rw [← hw0]; simp)
  have B0 : Hid (∀ X, Keeps w1 X → X.cell? ⟨W.heap.size, 0, none⟩ = some (.int .i64 a) ∧ X.cell? ⟨W.heap.size, 1, none⟩ = some (.int .i64 c)) := Lib.hid fun X k => ke_box_cells (wbox_keep (hw0 ▸ heap_alloc_new _ _) (K01.out.trans k))
  have B1 : Hid (∀ X, Keeps w1 X → X.cell? ⟨W.heap.size + 1, 0, none⟩ = some (.int .i64 o) ∧ X.cell? ⟨W.heap.size + 1, 1, none⟩ = some (.int .i64 d)) := Lib.hid fun X k => SZ.out ▸ ke_box_cells (wbox_keep (hw1 ▸ heap_alloc_new _ _) k)
  have AS : Hid (∀ X, Keeps w1 X → Calls Try.prog 8 #[] X fun e w' => e = .returned (.bool true) ∧ Keeps w1 w') := Lib.hid fun X k => (la_waited (P := P) X (fun Y kY => hp Y ((K1.out.trans k).trans kY))).mono fun e w' ⟨h1, h2⟩ => ⟨h1, k.trans h2⟩
  have HP : Hid (∀ Y, Keeps w1 Y → P.Has Y) := Lib.hid fun Y k => hp Y (K1.out.trans k)
  have CKA : Hid (∀ X, Keeps w1 X → Calls Try.prog 26 #[kyV a c] X fun e w' => e = .returned (.bool (checkK a c)) ∧ Keeps w1 w') := Lib.hid fun X k => (pk_check a c X).mono fun e w' ⟨h1, h2⟩ => ⟨h1, k.trans h2⟩
  have CKB : Hid (∀ X, Keeps w1 X → Calls Try.prog 26 #[kyV o d] X fun e w' => e = .returned (.bool (checkK o d)) ∧ Keeps w1 w') := Lib.hid fun X k => (pk_check o d X).mono fun e w' ⟨h1, h2⟩ => ⟨h1, k.trans h2⟩
  have HU : Hid (∀ X, Keeps w1 X → U8sAt X v U) := Lib.hid fun X k => hU.keeps (K1.out.trans k)
  obtain ⟨pu, cu, rfl, hmx, _⟩ := hU
  obtain ⟨N, hN⟩ : ∃ N : Nat, U.length = N := ⟨_, rfl⟩
  rw [hN] at HU hmx ⊢
  have HN := Lib.hid hN
  have HMX : Hid (N ≤ 9223372036854775807) := Lib.hid (by unfold maxLen at hmx; omega)
  have HA := Lib.hid ha
  have HC := Lib.hid hc
  have HO := Lib.hid ho
  have HD := Lib.hid hd
  have EW0 := Lib.hid hw0
  have EW1 := Lib.hid hw1
  obtain ⟨z0, z1⟩ := B1.out _ (Keeps.refl _)
  obtain ⟨y0, y1⟩ := B0.out _ (Keeps.refl _)
  clear hN hmx hp ha hc ho hd hw0 hw1
  unfold keBox at EW0 EW1
  unfold kyV at *
  go_enter Try.func7, Try.ntmps7
  go_upto_region 1 with (fail)
  rw [EW0.out, EW1.out]
  clear EW0 EW1
  by_cases hbig : (60 : Int) < (N : Int)
  · go_wp2_with fail
    refine (AS.out _ (Keeps.refl _)).mono ?_
    rintro e w2 ⟨rfl, k2⟩
    have K2 := Lib.hid k2
    clear k2
    go_wp2
    go_ret
    exact ⟨rfl, K1.out.trans K2.out⟩
  · have n60 : Hid (N ≤ 60) := Lib.hid (by omega)
    obtain ⟨A, hA⟩ : ∃ B, checkK a c = B := ⟨_, rfl⟩
    obtain ⟨B, hB⟩ : ∃ B, checkK o d = B := ⟨_, rfl⟩
    have HB := Lib.hid hB
    rw [hA] at CKA
    rw [hB] at CKB
    clear hA hB
    go_wp2_with fail
    refine (CKA.out _ (Keeps.refl _)).mono ?_
    rintro e w2 ⟨rfl, k2⟩
    have K2 := Lib.hid k2
    clear k2 z0 z1 y0 y1 CKA hbig
    obtain ⟨z0, z1⟩ := B1.out _ K2.out
    obtain ⟨y0, y1⟩ := B0.out _ K2.out
    cases A with
    | false =>
      go_wp2_with fail
      refine (AS.out _ K2.out).mono ?_
      rintro e w3 ⟨rfl, k3⟩
      have K3 := Lib.hid k3
      clear k3
      go_wp2
      go_ret
      exact ⟨rfl, K1.out.trans K3.out⟩
    | true =>
      go_wp2_with fail
      refine (CKB.out _ K2.out).mono ?_
      rintro e w3 ⟨rfl, k3⟩
      have K3 := Lib.hid k3
      clear k3 z0 z1 y0 y1 CKB
      obtain ⟨z0, z1⟩ := B1.out _ K3.out
      obtain ⟨y0, y1⟩ := B0.out _ K3.out
      cases B with
      | false =>
        go_wp2_with fail
        refine (AS.out _ K3.out).mono ?_
        rintro e w4 ⟨rfl, k4⟩
        have K4 := Lib.hid k4
        clear k4
        go_wp2
        go_ret
        exact ⟨rfl, K1.out.trans K4.out⟩
      | true =>
        have CHK := Lib.hid (check_iff.1 HB.out)
        have ST := Lib.hid (start_one CHK.out).1
        by_cases hab : a = o ∧ c = d
        · obtain ⟨rfl, rfl⟩ := hab
          go_wp2_with fail
          refine (AS.out _ K3.out).mono ?_
          rintro e w4 ⟨rfl, k4⟩
          have K4 := Lib.hid k4
          clear k4
          go_wp2
          go_ret
          exact ⟨rfl, K1.out.trans K4.out⟩
        · have NE := Lib.hid hab
          have hac : ((a == o) = false) ∨ ((a == o) = true ∧ (c == d) = false) := by
            by_cases h1 : a = o
            · have h2 : c ≠ d := fun e => hab ⟨h1, e⟩
              exact Or.inr ⟨by rw [h1]; simp, by rw [beq_eq_false_iff_ne]; exact h2⟩
            · exact Or.inl (by rw [beq_eq_false_iff_ne]; exact h1)
          clear hab
          rcases hac with h1 | ⟨h1, h2⟩
          all_goals
            go_wp2_with fail
            refine (mi_new (P := P) (wb := w1) (E := E0) (HP.out _ K3.out) K3.out (e0 _)).mono ?_
            rintro e w4 ⟨b, rfl, m4⟩
            have M4 := Lib.hid m4
            clear m4
            go_wp2_with fail
            refine (P.new w4 (HP.out _ M4.out.k)).mono ?_
            intro e w5 hnew
            obtain ⟨b', F5, G5, rfl, h5⟩ := two_new P.lies M4.out hnew
            have T5 := Lib.hid h5
            clear h5 hnew z0 z1 y0 y1
            obtain ⟨z0, z1⟩ := B1.out _ T5.out.k
            go_wp2_with fail
            refine (tw_first T5.out (P.start o d 0 HO.out HD.out (small (by omega) (by omega)) (HP.out _ T5.out.k) T5.out.one)).mono ?_
            rintro e w6 ⟨rfl, F6, h6⟩
            have T6 := Lib.hid h6
            clear h6 z0 z1
            obtain ⟨z0, z1⟩ := B1.out _ T6.out.k
            go_wp2_with fail
            refine (tw_second T6.out (P.start o d 0 HO.out HD.out (small (by omega) (by omega)) (HP.out _ T6.out.k) T6.out.two)).mono ?_
            rintro e w7 ⟨rfl, G7, h7⟩
            rw [ST.out] at h7
            have T7 := Lib.hid h7
            have O7 : Hid (ofK [(⟨o, d, 1, 1, false⟩ : W5)] o d = [⟨o, d, 1, 1, false⟩]) := Lib.hid (by unfold ofK; simp [sameK])
            clear h7 z0 z1
            go_wp2_with fail
            go_loopg [9, 10] N (fun g v9 v10 X => ∃ (k : Nat) (T : Int) (lb : List W5) (z : W5) (F G : Nat → Prop), k + g = N ∧ v9 = .int .i64 T ∧ v10 = .int .i64 (k : Int) ∧ (0 ≤ T ∧ T ≤ 8 * k) ∧ ofK lb o d = [z] ∧ Two P.At w1 X b F lb b' G [z])
            case atStart => exact ⟨0, 0, _, _, F6, G7, by omega, rfl, rfl, by omega, O7.out, T7.out⟩
            case round =>
              obtain ⟨k, T, lb, z, F0, G0, hk, rfl, rfl, hT, hz, htw⟩ := hrel
              have HI := Lib.hid hk
              have HT := Lib.hid hT
              have OZ := Lib.hid hz
              have TW := Lib.hid htw
              obtain ⟨z0, z1⟩ := B1.out _ htw.k
              obtain ⟨y0, y1⟩ := B0.out _ htw.k
              clear hk hT hz htw
              cases gk with
              | zero =>
                obtain rfl : k = N := by have := HI.out; omega
                have hz : ¬ ((k : Int) < (k : Int)) := by omega
                go_wp2_with fail
                refine (AS.out _ TW.out.k).mono ?_
                rintro e wa ⟨rfl, ka⟩
                have KA := Lib.hid ka
                clear ka
                go_wp2
                go_ret
                exact ⟨rfl, K1.out.trans KA.out⟩
              | succ g =>
                have hlt : k < N := by have := HI.out; omega
                obtain ⟨ad, rfl, u, hu, _, hcu⟩ := u8_here HU.out HN.out hlt
                have qz := hcu _ TW.out.k
                have hk1 : (k : Int) < (N : Int) := by omega
                have hk0 : (0 : Int) ≤ (k : Int) := by omega
                have wi : Hid (wrap64 ((k : Int) + 1) = (k : Int) + 1) := Lib.hid (i64w (by unfold top; omega) (by have := n60.out; unfold top; omega))
                obtain ⟨U9, UD⟩ := ufit9 hu
                obtain ⟨r, hr⟩ : ∃ r, u % 9 = r := ⟨_, rfl⟩
                obtain ⟨q, hq⟩ : ∃ q, u / 9 = q := ⟨_, rfl⟩
                rw [hr] at U9
                rw [hq] at UD
                obtain ⟨m4, hm4⟩ : ∃ m, q % 4 = m := ⟨_, rfl⟩
                have U4 : Hid ((q : Int) % 256 % 4 = (m4 : Int)) := Lib.hid (by omega)
                have hm : m4 < 4 := by omega
                obtain ⟨T1, hT1⟩ : ∃ T1, T + (r : Int) = T1 := ⟨_, rfl⟩
                have wT : Hid (wrap64 (T + wrap64 (r : Int)) = T1) := Lib.hid (by
                  rw [show wrap64 (r : Int) = (r : Int) from i64w (by unfold top; omega) (by unfold top; omega)]
                  exact (i64w (by have := HT.out; unfold top; omega) (by have := HT.out; have := n60.out; unfold top; omega)).trans hT1)
                have HT1 : Hid (0 ≤ T1 ∧ T1 ≤ 8 * ((k + 1 : Nat) : Int) ∧ T1 ≤ 480) := Lib.hid (by have := HT.out; have := n60.out; omega)
                have IT1 : Hid (I64 T1) := Lib.hid (by have := HT1.out; unfold I64 top; omega)
                clear hlt hcu hT1 hr hq hm4
                go_upto_block 2 with (fail)
                rw [wT.out, U4.out]
                clear wT U9 UD U4 qz
                go_cut [9] from 62 to 78 (fun v9 X => v9 = .int .i64 T1 ∧ ∃ (F2 : Nat → Prop) (l2 : List W5), ofK l2 o d = [z] ∧ Two P.At w1 X b F2 l2 b' G0 [z])
                case first =>
                  rcases (show m4 = 0 ∨ m4 = 1 ∨ m4 = 2 ∨ m4 = 3 from by omega) with hc | hc | hc | hc
                  · have c0 : ((m4 : Int) == 0) = true := by rw [hc]; rfl
                    clear hm hc
                    go_wp2_with fail
                    refine (tw_first TW.out (P.start a c T1 HA.out HC.out IT1.out (HP.out _ TW.out.k) TW.out.one)).mono ?_
                    rintro e w8 ⟨rfl, F8, h8⟩
                    have T8 : Hid (∃ (F2 : Nat → Prop) (l2 : List W5), ofK l2 o d = [z] ∧ Two P.At w1 w8 b F2 l2 b' G0 [z]) := Lib.hid ⟨_, _, (start_of NE.out).trans OZ.out, h8⟩
                    clear h8
                    go_wp2_with fail
                    go_meet
                    case rel => exact ⟨rfl, T8.out⟩
                  · have c0 : ((m4 : Int) == 0) = false := by rw [hc]; rfl
                    have c1 : ((m4 : Int) == 1) = true := by rw [hc]; rfl
                    clear hm hc
                    go_wp2_with fail
                    refine (tw_first TW.out (P.stop a c HA.out HC.out (HP.out _ TW.out.k) TW.out.one)).mono ?_
                    rintro e w8 ⟨rfl, F8, h8⟩
                    have T8 : Hid (∃ (F2 : Nat → Prop) (l2 : List W5), ofK l2 o d = [z] ∧ Two P.At w1 w8 b F2 l2 b' G0 [z]) := Lib.hid ⟨_, _, (stop_of NE.out).trans OZ.out, h8⟩
                    clear h8
                    go_wp2_with fail
                    go_meet
                    case rel => exact ⟨rfl, T8.out⟩
                  · have c0 : ((m4 : Int) == 0) = false := by rw [hc]; rfl
                    have c1 : ((m4 : Int) == 1) = false := by rw [hc]; rfl
                    have c2 : ((m4 : Int) == 2) = true := by rw [hc]; rfl
                    clear hm hc
                    go_wp2_with fail
                    refine (tw_first TW.out (P.again a c T1 HA.out HC.out IT1.out (HP.out _ TW.out.k) TW.out.one)).mono ?_
                    rintro e w8 ⟨rfl, F8, h8⟩
                    have T8 : Hid (∃ (F2 : Nat → Prop) (l2 : List W5), ofK l2 o d = [z] ∧ Two P.At w1 w8 b F2 l2 b' G0 [z]) := Lib.hid ⟨_, _, (again_of NE.out).trans OZ.out, h8⟩
                    clear h8
                    go_wp2_with fail
                    go_meet
                    case rel => exact ⟨rfl, T8.out⟩
                  · have c0 : ((m4 : Int) == 0) = false := by rw [hc]; rfl
                    have c1 : ((m4 : Int) == 1) = false := by rw [hc]; rfl
                    have c2 : ((m4 : Int) == 2) = false := by rw [hc]; rfl
                    clear hm hc
                    have T8 : Hid (∃ (F2 : Nat → Prop) (l2 : List W5), ofK l2 o d = [z] ∧ Two P.At w1 wr b F2 l2 b' G0 [z]) := Lib.hid ⟨_, _, OZ.out, TW.out⟩
                    go_wp2_with fail
                    go_meet
                    case rel => exact ⟨rfl, T8.out⟩
                case rest =>
                obtain ⟨rfl, F2, l2, hz2, h2⟩ := hcut
                have T2 := Lib.hid h2
                have OZ2 := Lib.hid hz2
                clear h2 hz2 hm z0 z1 y0 y1
                go_wp2_with fail
                have GLT : Hid (∀ i, G0 i → i < wc.heap.size) := Lib.hid fun i hi => P.lies.lt T2.out.two hi
                have NS := Lib.hid (near_self HT1.out.1 (by have := HT1.out; omega))
                have TKZ : Hid (tickL [z] T1 = [tick1 T1 z]) := Lib.hid (by unfold tickL; rw [NS.out]; rfl)
                have OZ3 : Hid (ofK (tickL l2 T1) o d = [tick1 T1 z]) := Lib.hid (by rw [tick_of, OZ2.out, TKZ.out])
                have TAN := Lib.hid (told_alone (n := T1) OZ2.out)
                have ONE := Lib.hid (told_one z T1)
                have ML : Hid ((toldL l2 T1).length ≤ 1000) := Lib.hid (by
                  have h1 := (P.inv T2.out.one).len
                  have h2 : (toldL l2 T1).length ≤ l2.length := by unfold toldL; rw [List.length_map]; exact List.length_filter_le _ _
                  omega)
                refine (tw_tick1 T2.out (HP.out _ T2.out.k) T1 IT1.out).mono ?_
                rintro e wx ⟨ux, rfl, ox, Fx, hx⟩
                have Tx := Lib.hid hx
                have OX := Lib.hid ox
                obtain ⟨px, cx, rfl⟩ := src_slice keK (keK.own_src ox)
                obtain ⟨M, hM⟩ : ∃ M, toldL l2 T1 = M := ⟨_, rfl⟩
                rw [hM] at OX TAN ML ⊢
                obtain ⟨nM, hnM⟩ : ∃ n, M.length = n := ⟨_, rfl⟩
                rw [hnM] at OX ML ⊢
                have HNM := Lib.hid hnM
                clear ox hx hM hnM
                go_wp2_with fail
                refine (tw_tick2 Tx.out (HP.out _ Tx.out.k) T1 IT1.out).mono ?_
                rintro e wy ⟨uy, rfl, oy, ⟨Gy, hy⟩, hs⟩
                have Ty : Hid (Two P.At w1 wy b Fx (tickL l2 T1) b' Gy [tick1 T1 z]) := Lib.hid (by rw [← TKZ.out]; exact hy)
                obtain ⟨py, cy, rfl⟩ := src_slice keK (keK.own_src oy)
                have XS : Hid (∀ Y, Keeps wy Y → keK.Src Y (.slice px nM cx) M) := Lib.hid fun Y kY => RowK.Src.keeps keK (keK.own_src (keK.own_local OX.out fun j hj => hs j (keK.own_lt OX.out j hj).2 (fun q => by have := GLT.out j q; have := (keK.own_lt OX.out j hj).1; omega))) kY
                obtain ⟨ny, hny⟩ : ∃ n, (toldL [z] T1).length = n := ⟨_, rfl⟩
                rw [hny] at TAN ONE ⊢
                have hny01 : ny = 0 ∨ ny = 1 := by have := ONE.out; split at this <;> omega
                have N01 := Lib.hid hny01
                clear oy hy hs hny hny01
                go_wp2_with fail
                go_loopg [13, 14] nM (fun h v13 v14 X => ∃ j : Nat, j + h = nM ∧ v13 = .bool ((M.take j).any (isK o d)) ∧ v14 = .int .i64 (j : Int) ∧ Keeps wy X)
                case atStart => exact ⟨0, by omega, by simp, rfl, Keeps.refl _⟩
                case round =>
                  obtain ⟨j, hj, rfl, rfl, hw⟩ := hrel
                  have HJ := Lib.hid hj
                  have HW := Lib.hid hw
                  obtain ⟨bt, hbt⟩ : ∃ B, (M.take j).any (isK o d) = B := ⟨_, rfl⟩
                  have HBT := Lib.hid hbt
                  rw [hbt]
                  clear hj hw hbt
                  cases gk with
                  | zero =>
                    obtain rfl : j = nM := by have := HJ.out; omega
                    have hz : ¬ ((j : Int) < (j : Int)) := by omega
                    have TB : Hid (bt = decide (ny = 1)) := Lib.hid (by
                      have h1 := HBT.out
                      rw [List.take_of_length_le (by rw [HNM.out]; exact Nat.le_refl _), TAN.out] at h1
                      exact h1.symm)
                    have TZ := Lib.hid (Ty.out.keeps P.lies HW.out)
                    rcases N01.out with h0 | h0
                    · obtain rfl : bt = false := by rw [TB.out, h0]; rfl
                      have e0 : ((ny : Int) == 1) = false := by rw [h0]; rfl
                      clear h0
                      go_wp2_with fail
                      go_roundg g
                      case measure => omega
                      case rel => exact ⟨k + 1, T1, tickL l2 T1, tick1 T1 z, Fx, Gy, by have := HI.out; omega, rfl, by first | (rw [wi.out]; rfl) | rfl | go_num, ⟨HT1.out.1, HT1.out.2.1⟩, OZ3.out, TZ.out⟩
                    · obtain rfl : bt = true := by rw [TB.out, h0]; rfl
                      have e0 : ((ny : Int) == 1) = true := by rw [h0]; rfl
                      clear h0
                      go_wp2_with fail
                      go_roundg g
                      case measure => omega
                      case rel => exact ⟨k + 1, T1, tickL l2 T1, tick1 T1 z, Fx, Gy, by have := HI.out; omega, rfl, by first | (rw [wi.out]; rfl) | rfl | go_num, ⟨HT1.out.1, HT1.out.2.1⟩, OZ3.out, TZ.out⟩
                  | succ h =>
                    have hlj : j < nM := by have := HJ.out; omega
                    obtain ⟨x, hx⟩ : ∃ x, M[j]? = some x := ⟨_, List.getElem?_eq_getElem (by rw [HNM.out]; exact hlj)⟩
                    have AT := Lib.hid (any_take (q := isK o d) hx)
                    obtain ⟨ax, rfl⟩ := src_some keK (XS.out _ (Keeps.refl _)) hx
                    obtain ⟨r0, r1⟩ := src_ke (XS.out _ HW.out) hx
                    obtain ⟨z0, z1⟩ := B1.out _ (Ty.out.k.trans HW.out)
                    have hj1 : (j : Int) < (nM : Int) := by omega
                    have hj0 : (0 : Int) ≤ (j : Int) := by omega
                    have wj : Hid (wrap64 ((j : Int) + 1) = (j : Int) + 1) := Lib.hid (i64w (by unfold top; omega) (by have := ML.out; unfold top; omega))
                    obtain ⟨xo, xd⟩ := x
                    dsimp only at r0 r1
                    clear hx hlj
                    go_upto_region 23 with (fail)
                    cases bt with
                    | true =>
                      have NB : Hid ((M.take (j + 1)).any (isK o d) = true) := Lib.hid (by rw [AT.out, HBT.out]; rfl)
                      go_quiet (fail)
                      have KQ := Lib.hid (wdrewN HW.out nq)
                      go_wp2_with fail
                      go_roundg h
                      case measure => omega
                      case rel => exact ⟨j + 1, by have := HJ.out; omega, by rw [NB.out], by first | (rw [wj.out]; rfl) | rfl | go_num, KQ.out⟩
                    | false =>
                      by_cases he : xo = o ∧ xd = d
                      · have NB : Hid ((M.take (j + 1)).any (isK o d) = true) := Lib.hid (by rw [AT.out, HBT.out]; unfold isK; simp [he.1, he.2])
                        obtain ⟨rfl, rfl⟩ := he
                        go_quiet (fail)
                        have KQ := Lib.hid (wdrewN HW.out nq)
                        go_wp2_with fail
                        go_roundg h
                        case measure => omega
                        case rel => exact ⟨j + 1, by have := HJ.out; omega, by rw [NB.out], by first | (rw [wj.out]; rfl) | rfl | go_num, KQ.out⟩
                      · have NB : Hid ((M.take (j + 1)).any (isK o d) = false) := Lib.hid (by
                          rw [AT.out, HBT.out]
                          unfold isK
                          cases h3 : decide (xo = o) with
                          | false => simp [h3]
                          | true =>
                            have h4 : ¬ xd = d := fun e => he ⟨by simpa using h3, e⟩
                            simp [h4])
                        rcases (show xo ≠ o ∨ (xo = o ∧ xd ≠ d) from by omega) with g1 | ⟨g1, g2⟩
                        · have t1 : (xo == o) = false := by rw [beq_eq_false_iff_ne]; exact g1
                          clear he g1
                          go_quiet (fail)
                          have KQ := Lib.hid (wdrewN HW.out nq)
                          go_wp2_with fail
                          go_roundg h
                          case measure => omega
                          case rel => exact ⟨j + 1, by have := HJ.out; omega, by rw [NB.out], by first | (rw [wj.out]; rfl) | rfl | go_num, KQ.out⟩
                        · have t0 : (xo == o) = true := by rw [g1]; simp
                          have t1 : (xd == d) = false := by rw [beq_eq_false_iff_ne]; exact g2
                          clear he g1 g2
                          go_quiet (fail)
                          have KQ := Lib.hid (wdrewN HW.out nq)
                          go_wp2_with fail
                          go_roundg h
                          case measure => omega
                          case rel => exact ⟨j + 1, by have := HJ.out; omega, by rw [NB.out], by first | (rw [wj.out]; rfl) | rfl | go_num, KQ.out⟩
end Wt
end Go.Proofs.Ytbemkcnikoiecaa
