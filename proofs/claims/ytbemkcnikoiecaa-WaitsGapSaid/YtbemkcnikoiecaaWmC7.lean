
/- The program's waits: Tick; all that they must answer. -/
import Derived.Test.YtbemkcnikoiecaaWmC6
set_option linter.unusedVariables false
set_option linter.unusedSimpArgs false
namespace Go.Proofs.Ytbemkcnikoiecaa
open Go.ChangeShapes Go.WideShapes Go.ChangeAt Go.RowKit Csv Ky Km Ob
namespace Wt
theorem inv_keys {l l' : List W5} (h : Inv l) (e : l'.map keyW = l.map keyW) (ok : ∀ x ∈ l', Ok x) : Inv l' := ⟨ok, by
  have hr : (l.map keyW).Pairwise (fun p q => lessK p.1 p.2 q.1 q.2 = true) := List.pairwise_map.2 h.rise
  rw [← e] at hr
  exact (List.pairwise_map (f := keyW) (R := fun p q => lessK p.1 p.2 q.1 q.2 = true)).1 hr⟩
/-- On the way through a tick. -/
def midL (m : Int) (l : List W5) (k : Nat) : List W5 := (l.take k).map (tick1 m) ++ l.drop k
theorem mid_inv {m : Int} {l : List W5} (h : Inv l) (m0 : 0 ≤ m) (m1 : m ≤ far) (k : Nat) : Inv (midL m l k) := by
  refine inv_keys h ?_ fun x hx => ?_
  · unfold midL
    rw [List.map_append, keys_tick, ← List.map_append, List.take_append_drop]
  · unfold midL at hx
    rcases List.mem_append.1 hx with h1 | h1
    · obtain ⟨y, hy, rfl⟩ := List.mem_map.1 h1
      exact tick1_ok (h.ok y (List.mem_of_mem_take hy)) m0 m1
    · exact h.ok x (List.mem_of_mem_drop h1)
theorem mid_split {m : Int} {l : List W5} {k : Nat} {x : W5} (hx : l[k]? = some x) : midL m l k = (l.take k).map (tick1 m) ++ x :: l.drop (k + 1) ∧ midL m l (k + 1) = (l.take k ++ [x]).map (tick1 m) ++ l.drop (k + 1) ∧ l = l.take k ++ x :: l.drop (k + 1) := by
  obtain ⟨hk, he⟩ := List.getElem?_eq_some_iff.1 hx
  have e1 : l.drop k = x :: l.drop (k + 1) := by rw [List.drop_eq_getElem_cons hk, he]
  refine ⟨by unfold midL; rw [e1], ?_, ?_⟩
  · unfold midL
    rw [List.take_add_one, hx, Option.toList_some]
  · rw [← e1, List.take_append_drop]
theorem mid_not {m : Int} {l : List W5} {k : Nat} {x : W5} (hx : l[k]? = some x) (h : tick1 m x = x) : midL m l (k + 1) = midL m l k := by
  obtain ⟨e1, e2, _⟩ := mid_split (m := m) hx
  rw [e1, e2]
  simp [h]
theorem mid_all {m : Int} {l : List W5} {k : Nat} (hk : l.length ≤ k) : midL m l k = l.map (tick1 m) := by
  unfold midL
  rw [List.take_of_length_le hk, List.drop_of_length_le hk, List.append_nil]
set_option maxRecDepth 100000 in
theorem mid_put {W : World} {b q : Nat} {l : List W5} {m : Int} {k : Nat} {x : W5} (h : PwAt W b q (midL m l k)) (hi : Inv l) (m0 : 0 ≤ m) (m1 : m ≤ far) (hx : l[k]? = some x) (hn : nowB m x = true) : ∀ X, Keeps W X →
    ∃ Y, (Instr.mapUpdate tMw (.map (some q)) (kyV x.o x.d) (wtV (tryW m x))).run Try.prog X = .ok () Y ∧ PwAt Y b q (midL m l (k + 1)) ∧ Only (fun i => i = q) W Y := fun X kk => by
  have hX := h.keeps kk
  obtain ⟨D, ho, hA⟩ := hX.map
  obtain ⟨i1, i2⟩ := hi.keysOk x (List.mem_of_getElem? hx)
  have hl := h.inv.len
  obtain ⟨e1, e2, e3⟩ := mid_split (m := m) hx
  have hd : Dist (l.take k ++ x :: l.drop (k + 1)) := e3 ▸ hi.dist
  obtain ⟨d1, d2, hm⟩ := tick_mid (m := m) hd
  obtain ⟨k1, k2⟩ := tick1_key m x
  obtain ⟨Y, r1, r2, r3⟩ := put_at (wtV (tryW m x)) ho lawKy Try.underlying48 (by unfold maxLen; omega) (kK_is i1 i2)
  have hI : Inv (midL m l (k + 1)) := mid_inv hi m0 m1 (k + 1)
  have hne : some b ≠ some q := fun e => hX.ne (Option.some.inj e)
  rw [e1] at hA
  have hP := hA.put (y := tick1 m x) ho.isMap d1 d2 (by rw [k1, k2]; exact ⟨i1, i2⟩) hm
  rw [k1, k2, tick1_now hn, ← e2] at hP
  exact ⟨Y, r1, hX.turn (r3.block b hX.lt.1 hne) r2 hP hI, (Only.of_keeps kk).trans (grown_only r3)⟩
/-- A row stays where the map turns. -/
theorem own_turn {α : Type} (K : RowK α) {B b q : Nat} {W X : World} {v : Value} {l : List α} {l0 : List W5} (h : K.Own B W v l) (hp : PwAt W b q l0) (o : Only (fun i => i = q) W X) : K.Own B X v l :=
  K.own_local h fun i hi => o.same i (K.own_lt h i hi).2 fun e => by
    obtain ⟨c, hc⟩ := K.own_tag h hi
    obtain ⟨D, ⟨es, clock, hb, _⟩, _⟩ := hp.map
    rw [e, hb] at hc
    cases hc
abbrev set5 (W : World) (n : Nat) (y : W5) : World := ((((W.setCell ⟨n, 0, none⟩ (.int .i64 y.o)).setCell ⟨n, 1, none⟩ (.int .i64 y.d)).setCell ⟨n, 2, none⟩ (.int .i64 y.t)).setCell ⟨n, 3, none⟩ (.int .i64 y.n)).setCell ⟨n, 4, none⟩ (.bool y.p)
theorem five_only (W : World) (n : Nat) (y : W5) : Only (fun i => i = n) W (set5 W n y) :=
  ((((Only.cell (X := W) (j := n) (o := 0) _).trans (Only.cell (o := 1) _)).trans (Only.cell (o := 2) _)).trans (Only.cell (o := 3) _)).trans (Only.cell (o := 4) _)
theorem five_put {W : World} {n : Nat} {t : TypeId} {x : W5} (h : W.heap[n]? = some (wtBox t x)) (y : W5) : (set5 W n y).heap[n]? = some (wtBox t y) := by
  unfold set5
  rw [Joins.block_setCell (i := 4) (Joins.block_setCell (i := 3) (Joins.block_setCell (i := 2) (Joins.block_setCell (i := 1) (Joins.block_setCell (i := 0) h _) _) _) _) _]
  rfl
set_option maxHeartbeats 8000000 in
set_option maxRecDepth 100000 in
theorem pw_ticks {W : World} {b q : Nat} {l : List W5} (h : PwAt W b q l) (now : Int) :
    Calls Try.prog 19 #[.pointer (some ⟨b, 0, none⟩), .int .i64 now] W fun e w' => ∃ v, e = .returned v ∧ keK.Own W.heap.size w' v (toldL l now) ∧ PwAt w' b q (tickL l now) ∧ Only (fun i => i = q) W w' := by
  have hl : l.length ≤ 1000 := by have := h.inv.len; omega
  have HI0 := Lib.hid h.inv
  have H0 := Lib.hid h
  obtain ⟨n, hn⟩ : ∃ n, l.length = n := ⟨_, rfl⟩
  have HN := Lib.hid hn
  have n1000 : n ≤ 1000 := by omega
  have CN := Lib.hid (pw_tick now W)
  have CL := Lib.hid (pw_list h)
  have HM := Lib.hid (near_in now)
  have DONE : Hid (∀ X u', keK.Own W.heap.size X u' ((l.filter (toldB (near now))).map fun x => (x.o, x.d)) → PwAt X b q (l.map (tick1 (near now))) → Only (fun i => i = q) W X → (keK.Own W.heap.size X u' (toldL l now) ∧ PwAt X b q (tickL l now) ∧ Only (fun i => i = q) W X)) := Lib.hid fun X u' h1 h2 h3 => ⟨h1, h2, h3⟩
  generalize near now = m at CN HM DONE
  clear h hn hl
  go_enter Try.func19, Try.ntmps19
  go_wp2_with fail
  refine CN.out.mono ?_
  rintro e w2 ⟨rfl, h2⟩
  obtain rfl : W = w2 := h2.symm
  go_wp2_with fail
  refine CL.out.mono ?_
  rintro e w1 ⟨v, rfl, ho, k1⟩
  obtain ⟨p0, c0, rfl⟩ := pwK.own_shape ho
  have O1 := Lib.hid ho
  have K1 := Lib.hid k1
  have P1 := Lib.hid (H0.out.keeps k1)
  rw [HN.out] at O1 ⊢
  clear ho k1
  go_wp2_with fail
  go_loopg [5, 13] n (fun g v5 v13 X => ∃ (k : Nat) (p7 : Option Addr) (n7 c7 : Nat), k + g = n ∧ v5 = .slice p7 n7 c7 ∧ v13 = .int .i64 (k : Int) ∧ (((l.take k).filter (toldB m)).map fun x => (x.o, x.d)).length = n7 ∧ keK.Own W.heap.size X (.slice p7 n7 c7) (((l.take k).filter (toldB m)).map fun x => (x.o, x.d)) ∧ pwK.Own W.heap.size X (.slice p0 n c0) l ∧ PwAt X b q (midL m l k) ∧ Only (fun i => i = q) W X)
  case atStart => exact ⟨0, none, 0, 0, by omega, rfl, rfl, by simp, keK.own_nil _ _, O1.out, by unfold midL; exact P1.out, Only.of_keeps K1.out⟩
  case round =>
    obtain ⟨k, p7, n7, c7, hk, rfl, rfl, hn7, ht, ho, hp, hon⟩ := hrel
    have HI := Lib.hid hk
    have HO := Lib.hid ho
    have HT := Lib.hid ht
    have H7 := Lib.hid hn7
    have HP := Lib.hid hp
    have HW := Lib.hid hon
    clear hk ho hn7 ht hp hon
    cases gk with
    | zero =>
      obtain rfl : k = n := by have := HI.out; omega
      have hz : ¬ ((k : Int) < (k : Int)) := by omega
      have e : l.take k = l := List.take_of_length_le (by rw [HN.out]; exact Nat.le_refl _)
      have e2 : midL m l k = l.map (tick1 m) := mid_all (by rw [HN.out]; exact Nat.le_refl _)
      rw [e] at HT
      rw [e2] at HP
      clear e e2
      go_wp2
      go_ret
      exact ⟨_, rfl, DONE.out _ _ HT.out HP.out HW.out⟩
    | succ g =>
      have hlt : k < n := by have := HI.out; omega
      obtain ⟨x, hx⟩ : ∃ x, l[k]? = some x := ⟨_, List.getElem?_eq_getElem (by rw [HN.out]; exact hlt)⟩
      have OX := Lib.hid (HI0.out.ok x (List.mem_of_getElem? hx))
      have EU := Lib.hid (told_take (m := m) hx)
      have HX := Lib.hid hx
      obtain ⟨a, rfl⟩ := src_some pwK (by have := pwK.own_src HO.out; exact this) hx
      obtain ⟨q0, q1, q2, q3, q4⟩ := src_pw (pwK.own_src HO.out) hx
      have hi1 : (k : Int) < (n : Int) := by omega
      have hi0 : (0 : Int) ≤ (k : Int) := by omega
      have wi : Hid (wrap64 ((k : Int) + 1) = (k : Int) + 1) := Lib.hid (i64w (by unfold top; omega) (by unfold top; omega))
      have N7 : Hid (n7 ≤ 1000) := Lib.hid (by
        rw [← H7.out, List.length_map]
        have h1 := List.length_filter_le (toldB m) (l.take k)
        rw [List.length_take] at h1
        omega)
      obtain ⟨w3, hw3⟩ : ∃ w3, wr.alloc (wtBox tPw x) = w3 := ⟨_, rfl⟩
      have G3 : Hid (Keeps wr w3) := Lib.hid (hw3 ▸ wbox _ _)
      have B3 : Hid (w3.heap[wr.heap.size]? = some (wtBox tPw x)) := Lib.hid (hw3 ▸ heap_alloc_new _ _)
      have EW3 := Lib.hid hw3
      clear hx hlt hw3
      unfold wtBox at EW3
      go_upto_region 6 with (fail)
      rw [EW3.out]
      clear EW3 q0 q1 q2 q3 q4
      have GO3 := Lib.hid (pwK.own_keeps HO.out G3.out)
      have GT3 := Lib.hid (keK.own_keeps HT.out G3.out)
      have GP3 := Lib.hid (HP.out.keeps G3.out)
      have GW3 := Lib.hid (HW.out.trans (Only.of_keeps G3.out))
      have hb : W.heap.size ≤ wr.heap.size := HW.out.size
      have HBW := Lib.hid hb
      have NQ : Hid (¬ wr.heap.size = q) := Lib.hid fun e => by have := HP.out.lt.2; omega
      obtain ⟨⟨x0, x1, x2, x3, x4⟩, f0, f1, f2, f3, f4⟩ := wt_box_cells B3.out
      by_cases hnow : nowB m x = true
      · have hp : x.p = false := by
          unfold nowB at hnow
          simp only [Bool.and_eq_true, Bool.not_eq_true'] at hnow
          exact hnow.1
        have hnm : ¬ m < x.n := by
          unfold nowB at hnow
          simp only [Bool.and_eq_true, decide_eq_true_eq] at hnow
          omega
        obtain ⟨y, hy⟩ : ∃ y, tryW m x = y := ⟨_, rfl⟩
        have TP : Hid (y.p = decide (5 ≤ x.t)) := Lib.hid (by
          rw [← hy]
          unfold tryW
          by_cases h5 : 5 ≤ x.t
          · rw [if_pos h5, decide_eq_true h5]
          · rw [if_neg h5, decide_eq_false h5]; exact hp)
        have tk : y.o = x.o ∧ y.d = x.d := by
          have := tick1_key m x
          rw [tick1_now hnow, hy] at this
          exact this
        have UX : Hid (toldB m x = !(decide (5 ≤ x.t))) := Lib.hid (by
          unfold toldB
          rw [hnow, Bool.true_and]
          by_cases h5 : 5 ≤ x.t
          · rw [decide_eq_true h5, decide_eq_false (by omega)]; rfl
          · rw [decide_eq_false h5, decide_eq_true (by omega)]; rfl)
        have TK := Lib.hid tk
        have CT : Hid (Calls Try.prog 33 #[.agg #[.int .i64 x.o, .int .i64 x.d, .int .i64 x.t, .int .i64 x.n, .bool false], .int .i64 m] w3 fun e w' => e = .returned (.agg #[.int .i64 y.o, .int .i64 y.d, .int .i64 y.t, .int .i64 y.n, .bool y.p]) ∧ Keeps w3 w') := Lib.hid (by
          have := pw_tried x m w3 OX.out HM.out.1 HM.out.2
          rw [hy] at this
          unfold wtV at this
          rw [hp] at this
          exact this)
        have PUT : Hid (∀ X, PwAt X b q (midL m l k) → ∀ Z, Keeps X Z → ∃ Y, (Instr.mapUpdate tMw (.map (some q)) (.agg #[.int .i64 y.o, .int .i64 y.d]) (.agg #[.int .i64 y.o, .int .i64 y.d, .int .i64 y.t, .int .i64 y.n, .bool y.p])).run Try.prog Z = .ok () Y ∧ PwAt Y b q (midL m l (k + 1)) ∧ Only (fun i => i = q) X Y) := Lib.hid fun X hX Z kz => by
          have := mid_put hX HI0.out HM.out.1 HM.out.2 HX.out hnow Z kz
          rw [hy] at this
          unfold wtV kyV at this
          rw [← TK.out.1, ← TK.out.2] at this
          exact this
        rw [hp] at x4
        clear hnow hy tk
        go_wp2_with fail
        refine CT.out.mono ?_
        rintro e w4 ⟨rfl, k4⟩
        have K4 := Lib.hid (G3.out.trans k4)
        have B4 := Lib.hid (wbox_keep B3.out k4)
        have O4 := Lib.hid (pwK.own_keeps HO.out K4.out)
        have T4 := Lib.hid (keK.own_keeps HT.out K4.out)
        have P4 := Lib.hid (HP.out.keeps K4.out)
        have W4 := Lib.hid (HW.out.trans (Only.of_keeps K4.out))
        clear x0 x1 x2 x3 x4 f0 f1 f2 f3 f4 k4 hp hnm GO3 GT3 GP3 GW3 CT
        obtain ⟨⟨x0, x1, x2, x3, x4⟩, f0, f1, f2, f3, f4⟩ := wt_box_cells B4.out
        go_upto_region 8 with (fail)
        have S5 := five_only w4 wr.heap.size y
        have B50 := five_put B4.out y
        obtain ⟨w5, hw5⟩ : ∃ w5, set5 w4 wr.heap.size y = w5 := ⟨_, rfl⟩
        rw [show ((((w4.setCell ⟨wr.heap.size, 0, none⟩ (.int .i64 y.o)).setCell ⟨wr.heap.size, 1, none⟩ (.int .i64 y.d)).setCell ⟨wr.heap.size, 2, none⟩ (.int .i64 y.t)).setCell ⟨wr.heap.size, 3, none⟩ (.int .i64 y.n)).setCell ⟨wr.heap.size, 4, none⟩ (.bool y.p) = w5 from hw5]
        rw [hw5] at S5 B50
        have K5 : Hid (Keeps wr w5) := Lib.hid (S5.keeps K4.out (fun i hi => by omega))
        have B5 := Lib.hid B50
        have P5 := Lib.hid (HP.out.keeps K5.out)
        clear x0 x1 x2 x3 x4 f0 f1 f2 f3 f4 S5 B50 hw5 O4 T4 P4 W4
        obtain ⟨⟨x0, x1, x2, x3, x4⟩, f0, f1, f2, f3, f4⟩ := wt_box_cells B5.out
        have c0' := P5.out.cell
        obtain ⟨Ya, ea, pa, oa⟩ := PUT.out w5 P5.out _ (Keeps.refl _)
        obtain ⟨Yb, eb, pb, ob⟩ := PUT.out w5 P5.out _ (ky_drew _)
        have PA := Lib.hid (And.intro pa oa)
        have PB := Lib.hid (And.intro pb ob)
        clear pa oa pb ob
        go_cut [] (fun wx => PwAt wx b q (midL m l (k + 1)) ∧ Only (fun i => i = q) w5 wx)
        case first =>
          go_region
          all_goals clear ea eb
          all_goals go_wp2_with fail
          all_goals go_meet
          all_goals first
            | exact PB.out
            | exact ⟨PA.out.1.drew, only_drew PA.out.2⟩
        case rest =>
          rename World => w6
          obtain ⟨p6, o6⟩ := hcut
          have P6 := Lib.hid p6
          have O6 := Lib.hid (own_turn pwK (pwK.own_keeps HO.out K5.out) P5.out o6)
          have T6 := Lib.hid (own_turn keK (keK.own_keeps HT.out K5.out) P5.out o6)
          have W6 := Lib.hid ((HW.out.trans (Only.of_keeps K5.out)).trans o6)
          have B6 : Hid (w6.heap[wr.heap.size]? = some (wtBox tPw y)) := Lib.hid ((o6.same _ (wbox_lt B5.out) NQ.out).trans B5.out)
          clear x0 x1 x2 x3 x4 f0 f1 f2 f3 f4 c0' ea eb p6 o6 PA PB
          obtain ⟨⟨x0, x1, x2, x3, x4⟩, _⟩ := wt_box_cells B6.out
          cases h5 : decide (5 ≤ x.t) with
          | true =>
            rw [h5] at TP UX
            rw [TP.out] at x4
            go_wp2_with fail
            go_roundg g
            case measure => omega
            case rel => exact ⟨k + 1, p7, n7, c7, by have := HI.out; omega, rfl, by first | (rw [wi.out]; rfl) | rfl | go_num, by rw [EU.out, UX.out]; exact (by simpa using H7.out), by rw [EU.out, UX.out]; exact (by simpa using T6.out), O6.out, P6.out, W6.out⟩
          | false =>
            rw [h5] at TP UX
            rw [TP.out] at x4
            obtain ⟨p8, c8, wz, r1, r2, r3, r4⟩ := ke_app y.o y.d T6.out H7.out N7.out W6.out.size
            have R1 := Lib.hid r1
            have TZ := Lib.hid r2
            have H8 := Lib.hid r3
            have OZ := Lib.hid (own_other pwK keK O6.out r4 T6.out (by decide))
            have GZ := Lib.hid r4
            have WZ : Hid (Only (fun i => i = q) W wz) := Lib.hid ⟨r4.os.trans W6.out.os, r4.tape.trans W6.out.tape, r4.output.trans W6.out.output, Nat.le_trans W6.out.size r4.size, fun i hi hn => (r4.block i (Nat.lt_of_lt_of_le hi W6.out.size) (fun e => by have := (keK.own_lt T6.out _ e.symm).1; omega)).trans (W6.out.same i hi hn)⟩
            have PZ : Hid (PwAt wz b q (midL m l (k + 1))) := Lib.hid (P6.out.loc (r4.block b P6.out.lt.1 (fun e => by
              have h1 := keK.own_lt T6.out _ e.symm
              have h2 := H0.out.lt.1
              omega)) (r4.block q P6.out.lt.2 (fun e => by
              have h1 := keK.own_lt T6.out _ e.symm
              have h2 := H0.out.lt.2
              omega)))
            clear r1 r2 r3 r4
            go_wp2_with (at_builtin; refine wpAppKnown rfl _ _ _ _ rfl _ _ _ _ rfl rfl R1.out ?_)
            go_roundg g
            case measure => omega
            case rel => exact ⟨k + 1, p8, n7 + 1, c8, by have := HI.out; omega, rfl, by first | (rw [wi.out]; rfl) | rfl | go_num, by rw [EU.out, UX.out, ← TK.out.1, ← TK.out.2]; exact H8.out, by rw [EU.out, UX.out, ← TK.out.1, ← TK.out.2]; exact TZ.out, OZ.out, PZ.out, WZ.out⟩
      · have TX : Hid (midL m l (k + 1) = midL m l k) := Lib.hid (mid_not HX.out (by unfold tick1; rw [if_neg hnow]))
        have UX : Hid (toldB m x = false) := Lib.hid (by unfold toldB; cases hq : nowB m x with | true => exact absurd hq hnow | false => rfl)
        have hc : x.p = true ∨ (x.p = false ∧ m < x.n) := by
          cases hp : x.p with
          | true => exact Or.inl rfl
          | false =>
            right
            refine ⟨rfl, ?_⟩
            unfold nowB at hnow
            rw [hp] at hnow
            simp at hnow
            omega
        clear hnow
        rcases hc with hp | ⟨hp, hm⟩
        all_goals
          rw [hp] at x4
          go_wp2_with fail
          go_roundg g
          case measure => omega
          case rel => exact ⟨k + 1, p7, n7, c7, by have := HI.out; omega, rfl, by first | (rw [wi.out]; rfl) | rfl | go_num, by rw [EU.out, UX.out]; exact (by simpa using H7.out), by rw [EU.out, UX.out]; exact (by simpa using GT3.out), GO3.out, by rw [TX.out]; exact GP3.out, GW3.out⟩
/-- All that the program's waits must answer. -/
def wtP : WtP where
  Has := fun _ => True
  hask := fun _ _ => trivial
  At := WsAt
  lies := ws_lies
  inv := fun ⟨m, h, _⟩ => h.inv
  gap := fun t W _ _ => (pw_gap t W).mono fun e w' ⟨h1, h2⟩ => ⟨h1, keeps_eq h2⟩
  new := fun W _ => pw_new W
  start := fun o d now _ _ _ _ ⟨m, h, hF⟩ => (pw_start h o d now).mono fun e w' ⟨h1, h2, h3⟩ => ⟨h1, ws_goes hF h2 h3⟩
  due := fun o d now _ _ _ _ ⟨m, h, hF⟩ => (pw_due h o d now).mono fun e w' ⟨h1, h2, h3⟩ => ⟨h1, ws_goes hF h2 h3⟩
  stop := fun o d io id _ ⟨m, h, hF⟩ => (pw_stop h o d io id).mono fun e w' ⟨h1, h2, h3⟩ => ⟨h1, ws_goes hF h2 h3⟩
  again := fun o d now io id _ _ ⟨m, h, hF⟩ => (pw_again h o d now io id).mono fun e w' ⟨h1, h2, h3⟩ => ⟨h1, ws_goes hF h2 h3⟩
  tick := fun now _ _ ⟨m, h, hF⟩ => (pw_ticks h now).mono fun e w' ⟨v, h1, h2, h3, h4⟩ => ⟨v, h1, h2, ws_goes hF h3 h4⟩
  list := fun _ ⟨m, h, hF⟩ => pw_list h
  copy := fun _ ⟨m, h, hF⟩ => pw_copy h
end Wt
end Go.Proofs.Ytbemkcnikoiecaa
