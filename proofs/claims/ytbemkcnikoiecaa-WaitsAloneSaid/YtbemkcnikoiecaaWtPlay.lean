
/- WaitsPlay: the walk (made by tools/gen_waits_play.py). -/
import Derived.Test.YtbemkcnikoiecaaWtActs
set_option linter.unusedVariables false
set_option linter.unusedSimpArgs false
namespace Go.Proofs.Ytbemkcnikoiecaa
open Go.ChangeShapes Go.WideShapes Go.ChangeAt Go.RowKit Csv Ky Ob Go.Deep
namespace Wt
theorem wfit_u8 {k : Nat} (h : k < 256) : Int.tmod (k : Int) 9 = ((k % 9 : Nat) : Int) := by
  rw [Int.tmod_eq_emod_of_nonneg (by omega)]; omega
theorem told_len (l : List W5) (now : Int) : (toldL l now).length ≤ l.length := by
  unfold toldL
  rw [List.length_map]
  exact List.length_filter_le _ _
theorem again_yes {l : List W5} {o d n : Int} (h : hasB l o d = true) : againL l o d n = startL l o d n := by unfold againL; rw [if_pos h]
theorem again_no {l : List W5} {o d n : Int} (h : hasB l o d = false) : againL l o d n = l := by unfold againL; rw [if_neg (by rw [h]; exact Bool.false_ne_true)]
theorem put_of_own {w w' : World} {v v' : Value} {l l' : List W5} (h : rwK.Own w.heap.size w' v' l') (k : Keeps w w') : PutOut w w' v v' l l' := ⟨rwK.own_src h, Or.inr h, k⟩
set_option maxHeartbeats 16000000 in
set_option maxRecDepth 100000 in
theorem waitsPlay_go (P : WtP) (v : Value) (L : List Ac) (wb : World) (hp : ∀ Y, Keeps wb Y → P.Has Y) (hv : AcsAt wb v L) :
    Calls Try.prog 3 #[v] wb fun e w' => e = .returned (.bool true) ∧ Keeps wb w' := by
  have HP := Lib.hid hp
  have AS : Hid (∀ X, Keeps wb X → Calls Try.prog 8 #[] X fun e w' => e = .returned (.bool true) ∧ Keeps wb w') := Lib.hid fun X k => (la_waited (P := P) X (fun Y kY => hp Y (k.trans kY))).mono fun e w' ⟨h1, h2⟩ => ⟨h1, k.trans h2⟩
  have CN : Hid (Calls Try.prog 9 #[] wb fun e w' => ∃ c, e = .returned (.pointer (some ⟨c, 0, none⟩)) ∧ Mine P.At wb E0 w' c []) := Lib.hid (mi_new (hp _ (Keeps.refl _)) (Keeps.refl _) (e0 _))
  have HVV : Hid (∀ X, Keeps wb X → AcsAt X v L) := Lib.hid fun X k => hv.keeps k
  obtain ⟨pl, cl, rfl, hmx, _⟩ := hv
  obtain ⟨N, hN⟩ : ∃ N, L.length = N := ⟨_, rfl⟩
  rw [hN] at HVV hmx ⊢
  have HN := Lib.hid hN
  have HMX : Hid (N ≤ 9223372036854775807) := Lib.hid (by unfold maxLen at hmx; omega)
  clear hN hmx hp
  go_enter Try.func3, Try.ntmps3
  by_cases hbig : (150 : Int) < (N : Int)
  · go_wp2_with fail
    refine (AS.out _ (Keeps.refl _)).mono ?_
    rintro e w2 ⟨rfl, k2⟩
    have K2 := Lib.hid k2
    clear k2
    go_wp2
    go_ret
    exact ⟨rfl, K2.out⟩
  · have n150 : Hid (N ≤ 150) := Lib.hid (by omega)
    go_wp2_with fail
    refine CN.out.mono ?_
    rintro e w1 ⟨b, rfl, hm⟩
    have P1 : Hid (Pair P wb w1 b (.slice none ([] : List W5).length 0) [] []) := Lib.hid (by
      obtain ⟨⟨F, h1, h2⟩, h3, _⟩ := hm
      exact ⟨⟨F, h1, fun i hi => ⟨(h2 i hi).1, fun e => by cases e⟩⟩, rwK.own_nil _ _, h3⟩)
    clear hm CN hbig
    go_wp2_with fail
    go_loopg [4, 5] N (fun g v4 v5 X => ∃ (k : Nat) (pr : Option Addr) (cr : Nat) (l : List W5), k + g = N ∧ v4 = .slice pr l.length cr ∧ v5 = .int .i64 (k : Int) ∧ Pair P wb X b (.slice pr l.length cr) l l)
    case atStart => exact ⟨0, none, 0, [], by omega, rfl, rfl, P1.out⟩
    case round =>
      obtain ⟨k, pr, cr, l, hk, rfl, rfl, hpr⟩ := hrel
      have HI := Lib.hid hk
      have PR := Lib.hid hpr
      have hll := hpr.inv.len
      have LL : Hid (l.length ≤ 1000) := Lib.hid (by omega)
      have LI := Lib.hid hpr.inv
      obtain ⟨nl, hnl⟩ : ∃ nl, l.length = nl := ⟨_, rfl⟩
      have HNL := Lib.hid hnl
      rw [hnl] at PR ⊢
      clear hk hpr hll hnl
      cases gk with
      | zero =>
        obtain rfl : k = N := by have := HI.out; omega
        have hz : ¬ ((k : Int) < (k : Int)) := by omega
        go_wp2_with fail
        refine (AS.out _ PR.out.k).mono ?_
        rintro e w2 ⟨rfl, k2⟩
        have K2 := Lib.hid k2
        clear k2
        go_wp2
        go_ret
        exact ⟨rfl, K2.out⟩
      | succ g =>
        have hlt : k < N := by have := HI.out; omega
        obtain ⟨x, hx⟩ : ∃ x, L[k]? = some x := ⟨_, List.getElem?_eq_getElem (by rw [HN.out]; exact hlt)⟩
        obtain ⟨hok, ad, rfl, hat⟩ := acs_here HVV.out HN.out hx
        have OK := Lib.hid hok
        have HX := Lib.hid hat
        obtain ⟨q0, q1, q2, q3⟩ := HX.out wr PR.out.k
        have hk1 : (k : Int) < (N : Int) := by omega
        have hk0 : (0 : Int) ≤ (k : Int) := by omega
        have wi : Hid (wrap64 ((k : Int) + 1) = (k : Int) + 1) := Lib.hid (i64w (by unfold top; omega) (by have := n150.out; unfold top; omega))
        have U9 := wfit_u8 OK.out.u8
        obtain ⟨m9, hm9⟩ : ∃ m, x.kind % 9 = m := ⟨_, rfl⟩
        rw [hm9] at U9
        have hm : m9 < 9 := by omega
        obtain ⟨w3, hw3⟩ : ∃ w3, wr.alloc (acBox x) = w3 := ⟨_, rfl⟩
        have K3 : Hid (Keeps wr w3) := Lib.hid (hw3 ▸ wbox _ _)
        have B3 : Hid (w3.heap[wr.heap.size]? = some (acBox x)) := Lib.hid (hw3 ▸ heap_alloc_new _ _)
        have P3 := Lib.hid (PR.out.keeps K3.out)
        have KB := Lib.hid PR.out.k
        have SZ : Hid (wr.heap.size < w3.heap.size) := Lib.hid (wbox_lt B3.out)
        have EW3 := Lib.hid hw3
        clear hx hat hok hlt hw3 hm9
        unfold acBox at EW3
        go_upto_region 9 with (fail)
        rw [EW3.out]
        clear EW3 q0 q1 q2 q3 hk1 hk0
        obtain ⟨x0, x1, x2, x3⟩ := ac_box_cells B3.out
        by_cases h2 : m9 = 2
        · subst h2
          go_wp2_with fail
          refine (pr_any PR.out K3.out (fun F hF => P.due x.o x.d x.n OK.out.o OK.out.d OK.out.n (HP.out _ (KB.out.trans K3.out)) hF)).mono ?_
          rintro e w4 ⟨rfl, h4, p4⟩
          have P4 := Lib.hid p4
          have B4 : Hid (w4.heap[wr.heap.size]? = some (acBox x)) := Lib.hid ((h4 _ (Nat.le_refl _) SZ.out).trans B3.out)
          clear h4 p4 x0 x1 x2 x3
          obtain ⟨x0, x1, x2, x3⟩ := ac_box_cells B4.out
          go_wp2_with fail
          refine (wr_due _ l x.o x.d x.n w4 P4.out.src LL.out).mono ?_
          rintro e w5 ⟨v5, rfl, po⟩
          have P5 := Lib.hid (pair_row P4.out po)
          obtain ⟨p5, c5, rfl⟩ := src_slice rwK po.src
          clear po
          have NLQ := P5.out
          clear x0 x1 x2 x3
          go_wp2_with fail
          refine (la_same P5.out (HP.out _ P5.out.k)).mono ?_
          rintro e wz ⟨rfl, kz⟩
          have PZ := Lib.hid (P5.out.keeps kz)
          clear kz NLQ
          go_wp2_with fail
          go_roundg g
          case measure => omega
          case rel => exact ⟨k + 1, p5, c5, dueL l x.o x.d x.n, by have := HI.out; omega, rfl, by first | (rw [wi.out]; rfl) | rfl | go_num, PZ.out⟩
        ·
          by_cases h3 : m9 = 3
          · subst h3
            go_wp2_with fail
            refine (pr_any PR.out K3.out (fun F hF => P.stop x.o x.d OK.out.o OK.out.d (HP.out _ (KB.out.trans K3.out)) hF)).mono ?_
            rintro e w4 ⟨rfl, h4, p4⟩
            have P4 := Lib.hid p4
            have B4 : Hid (w4.heap[wr.heap.size]? = some (acBox x)) := Lib.hid ((h4 _ (Nat.le_refl _) SZ.out).trans B3.out)
            clear h4 p4 x0 x1 x2 x3
            obtain ⟨x0, x1, x2, x3⟩ := ac_box_cells B4.out
            go_wp2_with fail
            refine (wr_stop _ l x.o x.d w4 P4.out.src LL.out).mono ?_
            rintro e w5 ⟨p5, c5, rfl, po, k5⟩
            have P5 := Lib.hid (pair_row P4.out (put_of_own po k5))
            clear po k5
            have NLQ := P5.out
            clear x0 x1 x2 x3
            go_wp2_with fail
            refine (la_same P5.out (HP.out _ P5.out.k)).mono ?_
            rintro e wz ⟨rfl, kz⟩
            have PZ := Lib.hid (P5.out.keeps kz)
            clear kz NLQ
            go_wp2_with fail
            go_roundg g
            case measure => omega
            case rel => exact ⟨k + 1, p5, c5, stopL l x.o x.d, by have := HI.out; omega, rfl, by first | (rw [wi.out]; rfl) | rfl | go_num, PZ.out⟩
          ·
            by_cases h4 : m9 = 4
            · subst h4
              obtain ⟨B, hB⟩ : ∃ B, hasB l x.o x.d = B := ⟨_, rfl⟩
              have HBB := Lib.hid hB
              have CH := Lib.hid (wr_has _ l x.o x.d w3 P3.out.src LL.out)
              have CA : Hid (∀ X, Keeps w3 X → Calls Try.prog 15 #[.pointer (some ⟨b, 0, none⟩), kyV x.o x.d, .int .i64 x.n] X fun e w' => e = .returned (.bool B) ∧ Late wr X w' ∧ Pair P wb w' b (.slice pr nl cr) (againL l x.o x.d x.n) l) := Lib.hid fun X kX => pr_any PR.out (K3.out.trans kX) (fun F hF => hB ▸ P.again x.o x.d x.n OK.out.o OK.out.d OK.out.n (HP.out _ ((KB.out.trans K3.out).trans kX)) hF)
              rw [hB] at CH
              clear hB
              go_wp2_with fail
              refine CH.out.mono ?_
              rintro e w4 ⟨rfl, k4⟩
              have K4 := Lib.hid k4
              have B4 := Lib.hid (wbox_keep B3.out k4)
              clear k4 x0 x1 x2 x3
              obtain ⟨x0, x1, x2, x3⟩ := ac_box_cells B4.out
              go_wp2_with fail
              refine (CA.out _ K4.out).mono ?_
              rintro e w5 ⟨rfl, h5, p5⟩
              have P5 := Lib.hid p5
              have B5 : Hid (w5.heap[wr.heap.size]? = some (acBox x)) := Lib.hid ((h5 _ (Nat.le_refl _) (Nat.lt_of_lt_of_le SZ.out K4.out.size)).trans B4.out)
              clear h5 p5 x0 x1 x2 x3 CH CA
              obtain ⟨x0, x1, x2, x3⟩ := ac_box_cells B5.out
              have hbb : (B != B) = false := by simp
              cases B with
              | true =>
                have P6 : Hid (Pair P wb w5 b (.slice pr nl cr) (startL l x.o x.d x.n) l) := Lib.hid (by have := P5.out; rwa [again_yes HBB.out] at this)
                clear hbb
                go_wp2_with fail
                refine (wr_start _ l x.o x.d x.n w5 P6.out.src LL.out).mono ?_
                rintro e w7 ⟨v7, rfl, po⟩
                have P7 := Lib.hid (pair_row P6.out po)
                obtain ⟨p7, c7, rfl⟩ := src_slice rwK po.src
                clear po
                have NLQ := P7.out
                clear x0 x1 x2 x3
                go_wp2_with fail
                refine (la_same P7.out (HP.out _ P7.out.k)).mono ?_
                rintro e wz ⟨rfl, kz⟩
                have PZ := Lib.hid (P7.out.keeps kz)
                clear kz NLQ
                go_wp2_with fail
                go_roundg g
                case measure => omega
                case rel => exact ⟨k + 1, p7, c7, startL l x.o x.d x.n, by have := HI.out; omega, rfl, by first | (rw [wi.out]; rfl) | rfl | go_num, PZ.out⟩
              | false =>
                have P6 : Hid (Pair P wb w5 b (.slice pr l.length cr) l l) := Lib.hid (by have := P5.out; rw [again_no HBB.out] at this; rw [HNL.out]; exact this)
                clear hbb
                have HQ := HNL.out
                subst HQ
                have NLQ := P6.out
                clear x0 x1 x2 x3
                go_wp2_with fail
                refine (la_same P6.out (HP.out _ P6.out.k)).mono ?_
                rintro e wz ⟨rfl, kz⟩
                have PZ := Lib.hid (P6.out.keeps kz)
                clear kz NLQ
                go_wp2_with fail
                go_roundg g
                case measure => omega
                case rel => exact ⟨k + 1, pr, cr, l, by have := HI.out; omega, rfl, by first | (rw [wi.out]; rfl) | rfl | go_num, PZ.out⟩
            ·
              by_cases h5 : m9 = 5
              · subst h5
                go_wp2_with fail
                refine (wr_tick _ l x.n w3 P3.out.src LI.out).mono ?_
                rintro e w4 ⟨v4, u4, rfl, tko⟩
                have TO := Lib.hid tko
                obtain ⟨p4, c4, rfl⟩ := src_slice rwK (rwK.own_src tko.rows)
                obtain ⟨q4, d4, rfl⟩ := src_slice keK (keK.own_src tko.told)
                have B4 := Lib.hid (wbox_keep B3.out tko.keeps)
                have K4 := Lib.hid (K3.out.trans tko.keeps)
                clear tko x0 x1 x2 x3
                obtain ⟨x0, x1, x2, x3⟩ := ac_box_cells B4.out
                go_wp2_with fail
                refine (pr_tick PR.out K4.out (HP.out _ (KB.out.trans K4.out)) x.n OK.out.n).mono ?_
                rintro e w5 ⟨u5, rfl, ho, hlate, _, hall⟩
                have PA := Lib.hid (hall _ _ (rwK.own_base TO.out.rows fun j hj => Nat.le_trans K3.out.size (rwK.own_lt TO.out.rows j hj).1))
                have KS : Hid (keK.Src w5 (.slice q4 (toldL l x.n).length d4) (toldL l x.n)) := Lib.hid (keK.own_src (keK.own_local TO.out.told fun j hj => hlate j (Nat.le_trans K3.out.size (keK.own_lt TO.out.told j hj).1) (keK.own_lt TO.out.told j hj).2))
                have KU := Lib.hid (keK.own_src ho)
                obtain ⟨p5, c5, rfl⟩ := src_slice keK (keK.own_src ho)
                clear ho hlate hall x0 x1 x2 x3
                go_wp2_with fail
                refine (la_keys _ _ _ w5 KU.out KS.out (Nat.le_trans (told_len l x.n) LL.out)).mono ?_
                rintro e w6 ⟨rfl, k6⟩
                have P6 := Lib.hid (PA.out.keeps k6)
                have B6 : x.kind = x.kind := rfl
                clear k6
                go_wp2_with fail
                refine (la_same P6.out (HP.out _ P6.out.k)).mono ?_
                rintro e wz ⟨rfl, kz⟩
                have PZ := Lib.hid (P6.out.keeps kz)
                clear kz
                go_wp2_with fail
                go_roundg g
                case measure => omega
                case rel => exact ⟨k + 1, p4, c4, tickL l x.n, by have := HI.out; omega, rfl, by first | (rw [wi.out]; rfl) | rfl | go_num, PZ.out⟩
              ·
                by_cases h6 : m9 = 6
                · subst h6
                  go_wp2_with fail
                  refine (wr_tick _ l x.n w3 P3.out.src LI.out).mono ?_
                  rintro e w4 ⟨v4, u4, rfl, tko⟩
                  have TO := Lib.hid tko
                  obtain ⟨p4, c4, rfl⟩ := src_slice rwK (rwK.own_src tko.rows)
                  obtain ⟨q4, d4, rfl⟩ := src_slice keK (keK.own_src tko.told)
                  have B4 := Lib.hid (wbox_keep B3.out tko.keeps)
                  have K4 := Lib.hid (K3.out.trans tko.keeps)
                  clear tko x0 x1 x2 x3
                  obtain ⟨x0, x1, x2, x3⟩ := ac_box_cells B4.out
                  go_wp2_with fail
                  refine (pr_tick PR.out K4.out (HP.out _ (KB.out.trans K4.out)) x.n OK.out.n).mono ?_
                  rintro e w5 ⟨u5, rfl, ho, hlate, _, hall⟩
                  have PA := Lib.hid (hall _ _ (rwK.own_base TO.out.rows fun j hj => Nat.le_trans K3.out.size (rwK.own_lt TO.out.rows j hj).1))
                  have KS : Hid (keK.Src w5 (.slice q4 (toldL l x.n).length d4) (toldL l x.n)) := Lib.hid (keK.own_src (keK.own_local TO.out.told fun j hj => hlate j (Nat.le_trans K3.out.size (keK.own_lt TO.out.told j hj).1) (keK.own_lt TO.out.told j hj).2))
                  have KU := Lib.hid (keK.own_src ho)
                  obtain ⟨p5, c5, rfl⟩ := src_slice keK (keK.own_src ho)
                  clear ho hlate hall x0 x1 x2 x3
                  go_wp2_with fail
                  refine (la_keys _ _ _ w5 KU.out KS.out (Nat.le_trans (told_len l x.n) LL.out)).mono ?_
                  rintro e w6 ⟨rfl, k6⟩
                  have P6 := Lib.hid (PA.out.keeps k6)
                  have B6 : x.kind = x.kind := rfl
                  clear k6
                  go_wp2_with fail
                  refine (la_same P6.out (HP.out _ P6.out.k)).mono ?_
                  rintro e wz ⟨rfl, kz⟩
                  have PZ := Lib.hid (P6.out.keeps kz)
                  clear kz
                  go_wp2_with fail
                  go_roundg g
                  case measure => omega
                  case rel => exact ⟨k + 1, p4, c4, tickL l x.n, by have := HI.out; omega, rfl, by first | (rw [wi.out]; rfl) | rfl | go_num, PZ.out⟩
                ·
                  by_cases h7 : m9 = 7
                  · subst h7
                    go_wp2_with fail
                    refine (wr_tick _ l x.n w3 P3.out.src LI.out).mono ?_
                    rintro e w4 ⟨v4, u4, rfl, tko⟩
                    have TO := Lib.hid tko
                    obtain ⟨p4, c4, rfl⟩ := src_slice rwK (rwK.own_src tko.rows)
                    obtain ⟨q4, d4, rfl⟩ := src_slice keK (keK.own_src tko.told)
                    have B4 := Lib.hid (wbox_keep B3.out tko.keeps)
                    have K4 := Lib.hid (K3.out.trans tko.keeps)
                    clear tko x0 x1 x2 x3
                    obtain ⟨x0, x1, x2, x3⟩ := ac_box_cells B4.out
                    go_wp2_with fail
                    refine (pr_tick PR.out K4.out (HP.out _ (KB.out.trans K4.out)) x.n OK.out.n).mono ?_
                    rintro e w5 ⟨u5, rfl, ho, hlate, _, hall⟩
                    have PA := Lib.hid (hall _ _ (rwK.own_base TO.out.rows fun j hj => Nat.le_trans K3.out.size (rwK.own_lt TO.out.rows j hj).1))
                    have KS : Hid (keK.Src w5 (.slice q4 (toldL l x.n).length d4) (toldL l x.n)) := Lib.hid (keK.own_src (keK.own_local TO.out.told fun j hj => hlate j (Nat.le_trans K3.out.size (keK.own_lt TO.out.told j hj).1) (keK.own_lt TO.out.told j hj).2))
                    have KU := Lib.hid (keK.own_src ho)
                    obtain ⟨p5, c5, rfl⟩ := src_slice keK (keK.own_src ho)
                    clear ho hlate hall x0 x1 x2 x3
                    go_wp2_with fail
                    refine (la_keys _ _ _ w5 KU.out KS.out (Nat.le_trans (told_len l x.n) LL.out)).mono ?_
                    rintro e w6 ⟨rfl, k6⟩
                    have P6 := Lib.hid (PA.out.keeps k6)
                    have B6 : x.kind = x.kind := rfl
                    clear k6
                    go_wp2_with fail
                    refine (la_same P6.out (HP.out _ P6.out.k)).mono ?_
                    rintro e wz ⟨rfl, kz⟩
                    have PZ := Lib.hid (P6.out.keeps kz)
                    clear kz
                    go_wp2_with fail
                    go_roundg g
                    case measure => omega
                    case rel => exact ⟨k + 1, p4, c4, tickL l x.n, by have := HI.out; omega, rfl, by first | (rw [wi.out]; rfl) | rfl | go_num, PZ.out⟩
                  ·
                    by_cases h8 : m9 = 8
                    · subst h8
                      have CC := Lib.hid (pr_copy P3.out (HP.out _ P3.out.k))
                      go_wp2_with fail
                      refine CC.out.mono ?_
                      rintro e w4 ⟨c, rfl, m4⟩
                      have M4 := Lib.hid m4
                      have B4 := Lib.hid (wbox_keep B3.out m4.k)
                      clear m4 x0 x1 x2 x3 CC
                      obtain ⟨x0, x1, x2, x3⟩ := ac_box_cells B4.out
                      go_wp2_with fail
                      refine (mi_stop M4.out (HP.out _ (P3.out.k.trans M4.out.k)) x.o x.d OK.out.o OK.out.d).mono ?_
                      rintro e w5 ⟨rfl, m5, _⟩
                      have M5 := Lib.hid m5
                      have B5 := Lib.hid (wbox_keep B3.out m5.k)
                      clear m5 x0 x1 x2 x3
                      obtain ⟨x0, x1, x2, x3⟩ := ac_box_cells B5.out
                      go_wp2_with fail
                      refine (mi_tick M5.out (HP.out _ (P3.out.k.trans M5.out.k)) x.n OK.out.n).mono ?_
                      rintro e w6 ⟨u6, rfl, _, m6, _⟩
                      have HQ := HNL.out
                      have P6 : Hid (Pair P wb w6 b (.slice pr l.length cr) l l) := Lib.hid (by have := P3.out.keeps m6.k; rw [HQ]; exact this)
                      subst HQ
                      clear m6
                      have NLQ := P6.out
                      clear x0 x1 x2 x3
                      go_wp2_with fail
                      refine (la_same P6.out (HP.out _ P6.out.k)).mono ?_
                      rintro e wz ⟨rfl, kz⟩
                      have PZ := Lib.hid (P6.out.keeps kz)
                      clear kz NLQ
                      go_wp2_with fail
                      go_roundg g
                      case measure => omega
                      case rel => exact ⟨k + 1, pr, cr, l, by have := HI.out; omega, rfl, by first | (rw [wi.out]; rfl) | rfl | go_num, PZ.out⟩
                    ·
                      have h01 : m9 = 0 ∨ m9 = 1 := by omega
                      clear h2 h3 h4 h5 h6 h7 h8 hm
                      rcases h01 with rfl | rfl
                      ·
                        go_wp2_with fail
                        refine (pr_any PR.out K3.out (fun F hF => P.start x.o x.d x.n OK.out.o OK.out.d OK.out.n (HP.out _ (KB.out.trans K3.out)) hF)).mono ?_
                        rintro e w4 ⟨rfl, h4, p4⟩
                        have P4 := Lib.hid p4
                        have B4 : Hid (w4.heap[wr.heap.size]? = some (acBox x)) := Lib.hid ((h4 _ (Nat.le_refl _) SZ.out).trans B3.out)
                        clear h4 p4 x0 x1 x2 x3
                        obtain ⟨x0, x1, x2, x3⟩ := ac_box_cells B4.out
                        go_wp2_with fail
                        refine (wr_start _ l x.o x.d x.n w4 P4.out.src LL.out).mono ?_
                        rintro e w5 ⟨v5, rfl, po⟩
                        have P5 := Lib.hid (pair_row P4.out po)
                        obtain ⟨p5, c5, rfl⟩ := src_slice rwK po.src
                        clear po
                        have NLQ := P5.out
                        clear x0 x1 x2 x3
                        go_wp2_with fail
                        refine (la_same P5.out (HP.out _ P5.out.k)).mono ?_
                        rintro e wz ⟨rfl, kz⟩
                        have PZ := Lib.hid (P5.out.keeps kz)
                        clear kz NLQ
                        go_wp2_with fail
                        go_roundg g
                        case measure => omega
                        case rel => exact ⟨k + 1, p5, c5, startL l x.o x.d x.n, by have := HI.out; omega, rfl, by first | (rw [wi.out]; rfl) | rfl | go_num, PZ.out⟩
                      ·
                        go_wp2_with fail
                        refine (pr_any PR.out K3.out (fun F hF => P.start x.o x.d x.n OK.out.o OK.out.d OK.out.n (HP.out _ (KB.out.trans K3.out)) hF)).mono ?_
                        rintro e w4 ⟨rfl, h4, p4⟩
                        have P4 := Lib.hid p4
                        have B4 : Hid (w4.heap[wr.heap.size]? = some (acBox x)) := Lib.hid ((h4 _ (Nat.le_refl _) SZ.out).trans B3.out)
                        clear h4 p4 x0 x1 x2 x3
                        obtain ⟨x0, x1, x2, x3⟩ := ac_box_cells B4.out
                        go_wp2_with fail
                        refine (wr_start _ l x.o x.d x.n w4 P4.out.src LL.out).mono ?_
                        rintro e w5 ⟨v5, rfl, po⟩
                        have P5 := Lib.hid (pair_row P4.out po)
                        obtain ⟨p5, c5, rfl⟩ := src_slice rwK po.src
                        clear po
                        have NLQ := P5.out
                        clear x0 x1 x2 x3
                        go_wp2_with fail
                        refine (la_same P5.out (HP.out _ P5.out.k)).mono ?_
                        rintro e wz ⟨rfl, kz⟩
                        have PZ := Lib.hid (P5.out.keeps kz)
                        clear kz NLQ
                        go_wp2_with fail
                        go_roundg g
                        case measure => omega
                        case rel => exact ⟨k + 1, p5, c5, startL l x.o x.d x.n, by have := HI.out; omega, rfl, by first | (rw [wi.out]; rfl) | rfl | go_num, PZ.out⟩
end Wt
end Go.Proofs.Ytbemkcnikoiecaa
