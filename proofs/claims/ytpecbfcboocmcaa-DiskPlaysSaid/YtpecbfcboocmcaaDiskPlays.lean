/- The law DiskPlays. -/
import Derived.Test.YtpecbfcboocmcaaRefMid
import Derived.Test.YtpecbfcboocmcaaOpenActs
import Derived.Deep.RegionHeld3
set_option linter.unusedVariables false
namespace Go.Proofs.Ytpecbfcboocmcaa
open Go.ChangeShapes Go.WideShapes Go.ChangeAt Go.RowKit Go.Maps Csv Dk

set_option maxRecDepth 100000 in
set_option maxHeartbeats 4000000 in
theorem diskPlays_great (cap : Int) (v : Value) (L : List ActM) (w : World) (h : ActsAt w v L) (hg : greatB L 120 = true) :
    Calls Try.prog 3 #[.int .i64 cap, v] w fun e w' => e = .returned (.bool true) ∧ Keeps w w' := by
  have cg := great_any v L 120 w h (by omega)
  rw [hg] at cg
  obtain ⟨p, c, rfl, _, _⟩ := h
  have CG := Lib.hid cg
  clear cg hg
  go_enter Try.func3, Try.ntmps3
  go_wp2_with fail
  refine CG.out.mono ?_
  rintro e w' ⟨rfl, rfl⟩
  go_wp2_with fail
  refine (filed_any _).mono ?_
  rintro e w' ⟨rfl, hk1⟩
  go_wp2
  go_ret
  exact ⟨rfl, hk1⟩

set_option maxRecDepth 100000 in
set_option maxHeartbeats 4000000 in
theorem diskPlays_none (cap : Int) (v : Value) (L : List ActM) (w : World) (h : ActsAt w v L) (hg : greatB L 120 = false) (hb : cap < 0 ∨ 1048576 < cap) :
    Calls Try.prog 3 #[.int .i64 cap, v] w fun e w' => e = .returned (.bool true) ∧ Keeps w w' := by
  have cg := great_any v L 120 w h (by omega)
  rw [hg] at cg
  obtain ⟨p, c, rfl, _, _⟩ := h
  have CG := Lib.hid cg
  have C1 := Lib.hid (newD_no cap w hb)
  have C2 := Lib.hid (rnew_no cap w hb)
  clear cg hg hb
  go_enter Try.func3, Try.ntmps3
  go_wp2_with fail
  refine CG.out.mono ?_
  rintro e w' ⟨rfl, rfl⟩
  go_wp2_with fail
  refine C1.out.mono ?_
  rintro e w' ⟨rfl, rfl⟩
  go_wp2_with fail
  refine C2.out.mono ?_
  rintro e w' ⟨rfl, rfl⟩
  go_wp2_with fail
  refine (filed_any _).mono ?_
  rintro e w' ⟨rfl, hk1⟩
  go_wp2
  go_ret
  exact ⟨rfl, hk1⟩

set_option maxRecDepth 100000 in
set_option maxHeartbeats 16000000 in
theorem diskPlays_some (n : Nat) (v : Value) (L : List ActM) (w : World) (h : ActsAt w v L) (hg : greatB L 120 = false) (hb : n ≤ 1048576) :
    Calls Try.prog 3 #[.int .i64 (n : Int), v] w fun e w' => e = .returned (.bool true) ∧ Keeps w w' := by
  have cg := great_any v L 120 w h (by omega)
  rw [hg] at cg
  obtain ⟨hL120, hall⟩ := great_no hg
  obtain ⟨p, c, rfl, lL, hL⟩ := h
  obtain ⟨N, hN⟩ : ∃ N, L.length = N := ⟨_, rfl⟩
  have HL := Lib.hid hL
  have HN := Lib.hid hN
  have HA := Lib.hid hall
  rw [hN] at lL cg hL120 ⊢
  unfold maxLen at lL
  have CG := Lib.hid cg
  clear cg hg hL hN hall
  go_enter Try.func3, Try.ntmps3
  go_wp2_with fail
  refine CG.out.mono ?_
  rintro e w' ⟨rfl, rfl⟩
  go_wp2_with fail
  refine (newD_any n w hb).mono ?_
  rintro e w1 ⟨d, G, rfl, i1, k1, g1⟩
  have I1 := Lib.hid i1
  have K1 := Lib.hid k1
  have G1 := Lib.hid g1
  clear i1 k1 g1
  unfold ptrV
  go_wp2_with fail
  refine (rnew_any n w1 hb).mono ?_
  rintro e w2 ⟨r, GR, rfl, i2, k2, g2⟩
  have P := Lib.hid (plays_new (Keeps.refl w) I1.out K1.out G1.out i2 k2 g2 1000)
  clear i2 k2 g2 I1 K1 G1
  unfold ptrV
  go_wp2
  go_loopw [9] (fun vi wr => ∃ k : Nat, k ≤ N ∧ vi = .int .i64 (k : Int) ∧ PlaysAt w wr d r (1000 - k)) (fun vi _ => N - (intOf vi).toNat)
  case atStart => exact ⟨0, by omega, rfl, P.out⟩
  case round =>
    obtain ⟨k, hk, rfl, hp⟩ := hrel
    have HP := Lib.hid hp
    clear hp P
    by_cases hlt : k < N
    · obtain ⟨x, hx⟩ : ∃ x, L[k]? = some x := ⟨_, List.getElem?_eq_getElem (by have := HN.out; omega)⟩
      obtain ⟨hgd, a, rfl, hat⟩ := HL.out k x hx
      have hsmall := HA.out x (List.mem_of_getElem? hx)
      have HX := Lib.hid hx
      have kw : Keeps w wr := by obtain ⟨_, _, _, _, _, _, _, _, h5⟩ := HP.out; exact h5
      have hat0 := hat
      have hat := hat.keeps kw
      obtain ⟨kd, nn, at_, sz, S, kv, ks⟩ := x
      obtain ⟨q0, q1, q2, q3, q4, q5, q6⟩ := hat
      obtain ⟨pk, ck, hkv, lk, hci⟩ := q6
      have q6 : IntsAt wr kv ks := ⟨pk, ck, hkv, lk, hci⟩
      simp only at q0 q1 q2 q3 q4 q5 hkv hsmall
      obtain ⟨gk, gn, ga, gz, gs, gkv⟩ := hgd
      simp only at gk gn ga gz gs
      obtain ⟨q, hq⟩ : ∃ q, 1000 - k = q + 1 := ⟨999 - k, by omega⟩
      obtain ⟨M, hM⟩ : ∃ M, ks.length = M := ⟨_, rfl⟩
      subst hkv
      rw [hM] at q5 q6 hsmall lk
      obtain ⟨p', c', W1, r1, o1, k1⟩ := copy_all (wr.alloc (.cells #[.int .u8 (kd : Int), .int .i64 nn, .int .i64 at_, .int .i64 sz, .string S, .slice pk M ck] tAct)) (.slice pk M ck) ks (q6.keeps (keeps_lit _ _)) (by omega)
      rw [hM] at r1 o1
      have hp := HP.out
      rw [hq] at hp
      have M0 := Lib.hid (mid_new hp _ _ _ _ _ _ ks p' M c' hM k1 o1)
      have b1 := (k1.block wr.heap.size (by simp)).trans (heap_alloc_new wr _)
      have x5 : W1.cell? ⟨wr.heap.size, 5, none⟩ = some (.slice pk M ck) := Joins.cell_of_block b1 5
      have f5 := Joins.unfrozen_of_block b1 5
      have R1 := Lib.hid r1
      have Q6 := Lib.hid q6
      have KW := Lib.hid kw
      have HM := Lib.hid hM
      have HQ := Lib.hid hq
      have GN := Lib.hid gn
      have GA := Lib.hid ga
      have GZ := Lib.hid gz
      have GS := Lib.hid gs
      have hM100 : M ≤ 100 := hsmall.2
      have hi1 : (k : Int) < (N : Int) := by omega
      have k1w : Keeps wr W1 := (keeps_lit _ _).trans k1
      have y5 := cell_keeps k1w q5
      have z5 : (W1.setCell ⟨wr.heap.size, 5, none⟩ (.slice p' M c')).cell? ⟨(a.add (k * 6)).block, (a.add (k * 6)).off + 5, none⟩ = some (.slice pk M ck) := by
        have hne : (a.add (k * 6)).block ≠ wr.heap.size := by
          have := World.block_lt_of_cell? wr _ q5
          simp at this ⊢
          omega
        have kk : Keeps wr (W1.setCell ⟨wr.heap.size, 5, none⟩ (.slice p' M c')) := k1w.setCell (Nat.le_refl _) _
        exact cell_keeps kk q5
      have KK : Hid (Keeps wr (W1.setCell ⟨wr.heap.size, 5, none⟩ (.slice p' M c'))) := Lib.hid (k1w.setCell (Nat.le_refl _) _)
      have a5 : (wr.alloc (.cells #[.int .u8 (kd : Int), .int .i64 nn, .int .i64 at_, .int .i64 sz, .string S, .slice pk M ck] tAct)).cell? ⟨(a.add (k * 6)).block, (a.add (k * 6)).off + 5, none⟩ = some (.slice pk M ck) := cell_keeps (keeps_lit _ _) q5
      have HD : Hid (∀ W, Mid w W d r (q + 1) (wr.heap.size + 1) wr.heap.size #[.int .u8 (kd : Int), .int .i64 nn, .int .i64 at_, .int .i64 sz, .string S, .slice p' M c'] (.slice p' M c') ks →
          Calls Try.prog 8 #[.agg #[.int .u8 (kd : Int), .int .i64 nn, .int .i64 at_, .int .i64 sz, .string S, .slice p' M c'], .pointer (some ⟨d, 0, none⟩), .pointer (some ⟨r, 0, none⟩)] W fun e w' => e = .returned (.bool true) ∧ Mid w w' d r q (wr.heap.size + 1) wr.heap.size #[.int .u8 (kd : Int), .int .i64 nn, .int .i64 at_, .int .i64 sz, .string S, .slice p' M c'] (.slice p' M c') ks) :=
        Lib.hid fun W hW => mid_do kd nn at_ sz S _ ks w W d r (k := q) _ _ _ hW (by omega) gn ga gz gs (by omega)
      have HS : Hid (∀ W, Mid w W d r q (wr.heap.size + 1) wr.heap.size #[.int .u8 (kd : Int), .int .i64 nn, .int .i64 at_, .int .i64 sz, .string S, .slice p' M c'] (.slice p' M c') ks →
          Calls Try.prog 9 #[.pointer (some ⟨d, 0, none⟩), .pointer (some ⟨r, 0, none⟩)] W fun e w' => e = .returned (.bool true) ∧ Mid w w' d r q (wr.heap.size + 1) wr.heap.size #[.int .u8 (kd : Int), .int .i64 nn, .int .i64 at_, .int .i64 sz, .string S, .slice p' M c'] (.slice p' M c') ks) :=
        Lib.hid fun W hW => mid_same _ ks w W d r q _ _ _ hW
      have HI : Hid (∀ W, Mid w W d r q (wr.heap.size + 1) wr.heap.size #[.int .u8 (kd : Int), .int .i64 nn, .int .i64 at_, .int .i64 sz, .string S, .slice p' M c'] (.slice p' M c') ks → IntsAt W (.slice pk M ck) ks →
          Calls Try.prog 10 #[.slice p' M c', .slice pk M ck] W fun e w' => e = .returned (.bool true) ∧ Keeps W w') :=
        Lib.hid fun W hW hi => ints_same _ _ ks W hW.ints hi
      have QW : Hid (∀ W, Keeps w W → IntsAt W (.slice pk M ck) ks ∧ W.cell? ⟨(a.add (k * 6)).block, (a.add (k * 6)).off + 5, none⟩ = some (.slice pk M ck)) := Lib.hid fun W hW => by
        obtain ⟨_, _, _, _, _, g5, g6⟩ := hat0.keeps hW
        simp only at g5 g6
        rw [hM] at g5 g6
        exact ⟨g6, g5⟩
      have SEEN : Hid (∀ W q', Mid w W d r q' (wr.heap.size + 1) wr.heap.size #[.int .u8 (kd : Int), .int .i64 nn, .int .i64 at_, .int .i64 sz, .string S, .slice p' M c'] (.slice p' M c') ks →
          W.cell? ⟨wr.heap.size, 0, none⟩ = some (.int .u8 (kd : Int)) ∧ W.cell? ⟨wr.heap.size, 1, none⟩ = some (.int .i64 nn) ∧ W.cell? ⟨wr.heap.size, 2, none⟩ = some (.int .i64 at_) ∧ W.cell? ⟨wr.heap.size, 3, none⟩ = some (.int .i64 sz) ∧ W.cell? ⟨wr.heap.size, 4, none⟩ = some (.string S) ∧ W.cell? ⟨wr.heap.size, 5, none⟩ = some (.slice p' M c') ∧ W.cell? ⟨(a.add (k * 6)).block, (a.add (k * 6)).off + 5, none⟩ = some (.slice pk M ck)) :=
        Lib.hid fun W q' m => ⟨m.cell 0, m.cell 1, m.cell 2, m.cell 3, m.cell 4, m.cell 5, (QW.out W m.kept).2⟩
      clear hat0 hat hx r1 o1 k1 b1 hp hM hq gn ga gz gs q6 kw k1w lk hci gkv gk y5
      go_wp2_with (at_builtin; refine wpList_append_known rfl _ _ _ _ rfl _ _ _ _ rfl rfl R1.out ?_)
      go_region_held3 (fun W => W.cell? ⟨wr.heap.size, 0, none⟩ = some (.int .u8 (kd : Int)) ∧ W.cell? ⟨wr.heap.size, 1, none⟩ = some (.int .i64 nn) ∧ W.cell? ⟨wr.heap.size, 2, none⟩ = some (.int .i64 at_) ∧ W.cell? ⟨wr.heap.size, 3, none⟩ = some (.int .i64 sz) ∧ W.cell? ⟨wr.heap.size, 4, none⟩ = some (.string S) ∧ W.cell? ⟨wr.heap.size, 5, none⟩ = some (.slice p' M c') ∧ W.cell? ⟨(a.add (k * 6)).block, (a.add (k * 6)).off + 5, none⟩ = some (.slice pk M ck))
        (first | exact SEEN.out _ _ (M0.out.keeps (kdrew0 _)) | exact SEEN.out _ _ M3.out | exact SEEN.out _ _ M4.out | exact SEEN.out _ _ M5.out | go_keep) (first
        | (go_at_call 8; refine (HD.out _ (M0.out.keeps (kdrew0 _))).mono ?_; rintro e w3 ⟨rfl, m3⟩; have M3 := Lib.hid m3; clear m3)
        | (go_at_call 9; refine (HS.out _ M3.out).mono ?_; rintro e w4 ⟨rfl, m4⟩; have M4 := Lib.hid m4; clear m4)
        | (go_at_call 10; refine (HI.out _ M4.out (QW.out _ M4.out.kept).1).mono ?_; rintro e w5 ⟨rfl, k5⟩; have M5 := Lib.hid (M4.out.keeps k5); clear k5))
      go_wp2
      have ROW := Lib.hid (M5.out.at_row.2)
      have HP' : Hid (p' = none ∧ M = 0 ∨ ∃ g, p' = some ⟨g, 0, none⟩) := Lib.hid (by
        rcases ROW.out with h | ⟨g, h, _⟩
        · exact Or.inl h
        · exact Or.inr ⟨g, h⟩)
      clear ROW z5 x5 f5 q0 q1 q2 q3 q4 q5 a5 HD HS HI R1 M0 M3 M4
      go_loopw [11] (fun vj wq => ∃ (j : Nat) (xs : List Int), j ≤ M ∧ vj = .int .i64 (j : Int) ∧ xs.length = M ∧ Mid w wq d r q (wr.heap.size + 1) wr.heap.size #[.int .u8 (kd : Int), .int .i64 nn, .int .i64 at_, .int .i64 sz, .string S, .slice p' M c'] (.slice p' M c') xs) (fun vj _ => M - (intOf vj).toNat)
      case atStart => exact ⟨0, ks, by omega, rfl, HM.out, M5.out⟩
      case round =>
        obtain ⟨j, xs, hj, rfl, hxl, hm⟩ := hrel
        have x5 := hm.cell 5
        have HXL := Lib.hid hxl
        have HMM := Lib.hid hm
        simp only [List.getElem?_toArray, List.getElem?_cons_succ, List.getElem?_cons_zero] at x5
        clear hxl M5
        by_cases hjt : j < M
        · rcases HP'.out with ⟨_, h0⟩ | ⟨g, rfl⟩
          · exact absurd h0 (by omega)
          · obtain ⟨_, hrow⟩ := hm.at_row
            rcases hrow with ⟨e, _⟩ | ⟨g', e, _, hh⟩
            · cases e
            cases e
            obtain ⟨⟨u, hu⟩, fz⟩ := hh j hjt
            clear hh
            have hj1 : (j : Int) < (M : Int) := by omega
            clear hm
            go_wp2
            go_roundw
            case rel => exact ⟨j + 1, xs.set j 99, by omega, by go_num, by rw [List.length_set]; exact HXL.out, by have hh := HMM.out; rw [← HXL.out] at hh ⊢; exact mid_store hh (by have := HXL.out; omega) 99⟩
            case measure => simp [intOf]; omega
        · obtain rfl : j = M := by omega
          have hjz : ¬ ((j : Int) < (j : Int)) := by omega
          clear hm hjt
          go_wp2
          go_roundw
          case rel => exact ⟨k + 1, by omega, by go_num, HMM.out.plays.less (by have := HQ.out; omega)⟩
          case measure => simp [intOf]; omega
    · obtain rfl : k = N := by omega
      have hz : ¬ ((k : Int) < (k : Int)) := by omega
      clear hlt
      obtain ⟨D, R, G, GR, h1, h2, h3, h4, h5⟩ := HP.out
      have HST := h2
      have hup := (files_sim h2).2.1
      have hst := (files_sim h2).2.2.2
      obtain ⟨vL, vK, kks, hr, hGR⟩ := h1.ref
      have c2 := hr.cells.2.2.1
      rw [hup] at c2
      have H1 := Lib.hid h1
      have H3 := Lib.hid h3
      have H3' : Hid (I64 R.starts) := Lib.hid (by rw [hst]; exact h3)
      have HS1 := Lib.hid (start_sim (h2.less (Nat.zero_le _)))
      have H2 := Lib.hid h2
      have H4 := Lib.hid h4
      have H5 := Lib.hid h5
      cases hu : D.up with
      | true =>
        have c2' : wr.cell? ⟨r, 2, none⟩ = some (.bool false) := by rw [c2, hu]; rfl
        clear h1 h2 h3 h4 h5 HST hup hst hr hGR c2 hu
        go_wp2_with fail
        refine (same_any d r D R G GR wr H1.out (H2.out.less (Nat.zero_le _))).mono ?_
        rintro e w5 ⟨rfl, k5⟩
        have K5 := Lib.hid k5
        clear k5
        go_wp2_with fail
        refine (filed_any _).mono ?_
        rintro e w6 ⟨rfl, k6⟩
        go_wp2
        go_ret
        exact ⟨rfl, (H5.out.trans K5.out).trans k6⟩
      | false =>
        have c2' : wr.cell? ⟨r, 2, none⟩ = some (.bool true) := by rw [c2, hu]; rfl
        clear h1 h2 h3 h4 h5 HST hup hst hr hGR c2 hu
        go_wp2_with fail
        refine (start_any d D G wr H1.out.disk H3.out).mono ?_
        rintro e w5 ⟨rfl, g5⟩
        obtain ⟨G5, GR5, p1, p2, p3⟩ := pair_d H1.out g5
        have P1 := Lib.hid p1
        have P2 := Lib.hid p2
        have P3 := Lib.hid p3
        clear g5 p1 p2 p3
        rw [HS1.out.1]
        go_wp2_with fail
        refine (rstart_any r R GR5 w5 P1.out.ref H3'.out).mono ?_
        rintro e w6 ⟨rfl, g6⟩
        obtain ⟨G6, GR6, q1, q2, q3⟩ := PGoes.step P2.out P3.out (pair_r P1.out g6)
        have Q1 := Lib.hid q1
        have K6 : Hid (Keeps w w6) := Lib.hid (goes_keeps (d := d) (r := r) (D := D) (R := R) H4.out H5.out q2)
        clear g6 q1 q2 q3
        go_wp2_with fail
        refine (same_any d r _ _ G6 GR6 w6 Q1.out (HS1.out.2.less (Nat.zero_le _))).mono ?_
        rintro e w7 ⟨rfl, k7⟩
        have K7 := Lib.hid k7
        clear k7
        go_wp2_with fail
        refine (filed_any _).mono ?_
        rintro e w8 ⟨rfl, k8⟩
        go_wp2
        go_ret
        exact ⟨rfl, (K6.out.trans K7.out).trans k8⟩
theorem diskPlays_law (cap : Int) (v : Value) (L : List ActM) (w : World) (hc : (Lit.int .i64 cap).wf = true) (h : ActsAt w v L) :
    Calls Try.prog 3 #[.int .i64 cap, v] w fun e w' => e = .returned (.bool true) ∧ Below w.heap.size w w' := by
  cases hg : greatB L 120 with
  | true => exact diskPlays_great cap v L w h hg
  | false =>
    by_cases hb : cap < 0 ∨ 1048576 < cap
    · exact diskPlays_none cap v L w h hg hb
    · obtain ⟨n, rfl⟩ : ∃ n : Nat, cap = n := ⟨cap.toNat, by omega⟩
      exact diskPlays_some n v L w h hg (by omega)
end Go.Proofs.Ytpecbfcboocmcaa
