
/- The document's waits: Tick. -/
import Derived.Test.YtbemkcnikoiecaaWtRefP
set_option linter.unusedVariables false
set_option linter.unusedSimpArgs false
namespace Go.Proofs.Ytbemkcnikoiecaa
open Go.ChangeShapes Go.WideShapes Go.ChangeAt Go.RowKit Csv Ky
namespace Wt
/-- A key, appended to a row of one's own. -/
theorem ke_app {B n c : Nat} {p : Option Addr} {W : World} {L : List (Int × Int)} (o d : Int) (ho : keK.Own B W (.slice p n c) L) (hn : L.length = n) (hl : n ≤ 1000) (hB : B ≤ W.heap.size) :
    ∃ p' c' W', (Builtin.append_ #[tKs, tKs] tKs #[.slice p n c, .slice (some ⟨W.heap.size, 0, none⟩) 1 1]).run Try.prog (W.alloc (.cells #[.int .i64 o, .int .i64 d] tKy)) = .ok (.slice p' (n + 1) c') W' ∧ keK.Own B W' (.slice p' (n + 1) c') (L ++ [(o, d)]) ∧ (L ++ [(o, d)]).length = n + 1 ∧ W.grownBy W' (Value.slice p n c).ownBlock := by
  obtain ⟨p', c', W', r1, r2, r3⟩ := keK.app_row (W.alloc (.cells #[.int .i64 o, .int .i64 d] tKy)) B (.slice p n c) L (.slice (some ⟨W.heap.size, 0, none⟩) 1 1) [(o, d)] (keK.own_keeps ho (wbox _ _)) (ke_src1 W o d) (by rw [hn]; simp; omega) (Nat.le_trans hB (wbox _ _).size)
  rw [List.length_singleton, hn] at r1 r2
  refine ⟨p', c', W', r1, r2, by rw [List.length_append, hn]; rfl, ?_⟩
  have k := wbox W (.cells #[.int .i64 o, .int .i64 d] tKy)
  exact ⟨r3.os.trans k.os, r3.tape.trans k.tape, r3.output.trans k.output, Nat.le_trans k.size r3.size, fun j hj hne => (r3.block j (Nat.lt_of_lt_of_le hj k.size) hne).trans (k.block j hj)⟩
theorem wt_app2 {B n c : Nat} {p : Option Addr} {W : World} {L : List W5} (x : W5) (ho : rwK.Own B W (.slice p n c) L) (hn : L.length = n) (hl : n ≤ 1000) (hB : B ≤ W.heap.size) :
    ∃ p' c' W', (Builtin.append_ #[tRws, tRws] tRws #[.slice p n c, .slice (some ⟨W.heap.size, 0, none⟩) 1 1]).run Try.prog (W.alloc (.cells #[.int .i64 x.o, .int .i64 x.d, .int .i64 x.t, .int .i64 x.n, .bool x.p] tRw)) = .ok (.slice p' (n + 1) c') W' ∧ rwK.Own B W' (.slice p' (n + 1) c') (L ++ [x]) ∧ (L ++ [x]).length = n + 1 ∧ W.grownBy W' (Value.slice p n c).ownBlock := by
  obtain ⟨p', c', W', r1, r2, r3⟩ := rwK.app_row (W.alloc (.cells #[.int .i64 x.o, .int .i64 x.d, .int .i64 x.t, .int .i64 x.n, .bool x.p] tRw)) B (.slice p n c) L (.slice (some ⟨W.heap.size, 0, none⟩) 1 1) [x] (rwK.own_keeps ho (wbox _ _)) (wt_src1 W x) (by rw [hn]; simp; omega) (Nat.le_trans hB (wbox _ _).size)
  rw [List.length_singleton, hn] at r1 r2
  refine ⟨p', c', W', r1, r2, by rw [List.length_append, hn]; rfl, ?_⟩
  have k := wbox W (.cells #[.int .i64 x.o, .int .i64 x.d, .int .i64 x.t, .int .i64 x.n, .bool x.p] tRw)
  exact ⟨r3.os.trans k.os, r3.tape.trans k.tape, r3.output.trans k.output, Nat.le_trans k.size r3.size, fun j hj hne => (r3.block j (Nat.lt_of_lt_of_le hj k.size) hne).trans (k.block j hj)⟩
/-- A row of another kind of elements stays, where one grows. -/
theorem own_other {α β : Type} (K : RowK α) (J : RowK β) {B C : Nat} {W W' : World} {v u : Value} {l : List α} {m : List β} (h : K.Own B W v l) (g : W.grownBy W' u.ownBlock) (hu : J.Own C W u m) (ne : K.t ≠ J.t) : K.Own B W' v l :=
  K.own_local h fun i hi => g.block i (K.own_lt h i hi).2 fun e => by
    obtain ⟨c, hc⟩ := K.own_tag h hi
    obtain ⟨c', hc'⟩ := J.own_tag hu e.symm
    rw [hc] at hc'
    exact ne (by injection hc' with e; injection e)
theorem grown_keeps {α : Type} (K : RowK α) {w W W' : World} {v : Value} {l : List α} (k : Keeps w W) (ho : K.Own w.heap.size W v l) (g : W.grownBy W' v.ownBlock) : Keeps w W' := own_grown K k ho g
theorem told_take {l : List W5} {m : Int} {k : Nat} {x : W5} (hx : l[k]? = some x) : ((l.take (k + 1)).filter (toldB m)).map (fun x => (x.o, x.d)) = ((l.take k).filter (toldB m)).map (fun x => (x.o, x.d)) ++ (if toldB m x = true then [(x.o, x.d)] else []) := by
  rw [List.take_add_one, hx, Option.toList_some, List.filter_append, List.map_append]
  congr 1
  by_cases h : toldB m x = true
  · simp [h]
  · have h' : toldB m x = false := by simpa using h
    simp [h']
theorem tick_take {l : List W5} {m : Int} {k : Nat} {x : W5} (hx : l[k]? = some x) : (l.take (k + 1)).map (tick1 m) = (l.take k).map (tick1 m) ++ [tick1 m x] := by
  rw [List.take_add_one, hx, Option.toList_some, List.map_append]
  rfl
theorem keeps_set {w W : World} (k : Keeps w W) {j o : Nat} (hj : w.heap.size ≤ j) (v : Value) : Keeps w (W.setCell ⟨j, o, none⟩ v) :=
  ⟨k.os, k.tape, k.output, by simp [World.setCell]; exact k.size, fun i hi => (Below.heap_setCell _ ⟨j, o, none⟩ _ _ (fun e => by have : i = j := e; omega)).trans (k.block i hi)⟩
/-- What Tick tells. -/
structure TickOut (w w' : World) (v u : Value) (l : List W5) (now : Int) : Prop where
  rows : rwK.Own w.heap.size w' v (tickL l now)
  told : keK.Own w.heap.size w' u (toldL l now)
  keeps : Keeps w w'
set_option maxHeartbeats 8000000 in
set_option maxRecDepth 100000 in
theorem wr_tick (v : Value) (l : List W5) (now : Int) (w : World) (h : rwK.Src w v l) (hi : Inv l) :
    Calls Try.prog 17 #[v, .int .i64 now] w fun e w' => ∃ v' u', e = .returned (.tuple #[v', u']) ∧ TickOut w w' v' u' l now := by
  have hl : l.length ≤ 1000 := by have := hi.len; omega
  have HS : Hid (∀ X, Keeps w X → rwK.Src X v l) := Lib.hid fun X k => RowK.Src.keeps rwK h k
  have HOK := Lib.hid hi.ok
  obtain ⟨p0, c0, rfl⟩ := src_slice rwK h
  obtain ⟨n, hn⟩ : ∃ n, l.length = n := ⟨_, rfl⟩
  rw [hn] at HS ⊢
  have HN := Lib.hid hn
  have n1000 : n ≤ 1000 := by omega
  have CN := Lib.hid (wr_near now w)
  have HM := Lib.hid (near_in now)
  have DONE : Hid (∀ X v' u', rwK.Own w.heap.size X v' (l.map (tick1 (near now))) → keK.Own w.heap.size X u' ((l.filter (toldB (near now))).map fun x => (x.o, x.d)) → Keeps w X → TickOut w X v' u' l now) := Lib.hid fun X v' u' h1 h2 h3 => ⟨h1, h2, h3⟩
  generalize near now = m at CN HM DONE
  clear h hn hl hi
  go_enter Try.func17, Try.ntmps17
  go_wp2_with fail
  refine CN.out.mono ?_
  rintro e w2 ⟨rfl, h2⟩
  obtain rfl : w = w2 := h2.symm
  go_wp2_with fail
  go_loopg [6, 7, 8] n (fun g v6 v7 v8 X => ∃ (k : Nat) (p6 : Option Addr) (c6 : Nat) (p7 : Option Addr) (n7 c7 : Nat), k + g = n ∧ v6 = .slice p6 k c6 ∧ v7 = .slice p7 n7 c7 ∧ v8 = .int .i64 (k : Int) ∧ rwK.Own w.heap.size X (.slice p6 k c6) ((l.take k).map (tick1 m)) ∧ (((l.take k).filter (toldB m)).map fun x => (x.o, x.d)).length = n7 ∧ keK.Own w.heap.size X (.slice p7 n7 c7) (((l.take k).filter (toldB m)).map fun x => (x.o, x.d)) ∧ Keeps w X)
  case atStart => exact ⟨0, none, 0, none, 0, 0, by omega, rfl, rfl, rfl, rwK.own_nil _ _, by simp, keK.own_nil _ _, Keeps.refl _⟩
  case round =>
    obtain ⟨k, p6, c6, p7, n7, c7, hk, rfl, rfl, rfl, ho, hn7, ht, hw⟩ := hrel
    have HI := Lib.hid hk
    have HO := Lib.hid ho
    have HT := Lib.hid ht
    have H7 := Lib.hid hn7
    have HV := Lib.hid hw
    clear hk ho hn7 ht hw
    cases gk with
    | zero =>
      obtain rfl : k = n := by have := HI.out; omega
      have hz : ¬ ((k : Int) < (k : Int)) := by omega
      have e : l.take k = l := List.take_of_length_le (by rw [HN.out]; exact Nat.le_refl _)
      rw [e] at HO HT
      clear e
      go_wp2
      refine bodyPost_ret (v := .tuple #[.slice p6 k c6, .slice p7 n7 c7]) (by simp [results, Try.results17, go_sem]) rfl ?_
      exact ⟨_, _, rfl, DONE.out _ _ _ HO.out HT.out HV.out⟩
    | succ g =>
      have hlt : k < n := by have := HI.out; omega
      obtain ⟨x, hx⟩ : ∃ x, l[k]? = some x := ⟨_, List.getElem?_eq_getElem (by rw [HN.out]; exact hlt)⟩
      have OX := Lib.hid (HOK.out x (List.mem_of_getElem? hx))
      have ET := Lib.hid (tick_take (m := m) hx)
      have EU := Lib.hid (told_take (m := m) hx)
      obtain ⟨a, rfl⟩ := src_some rwK (HS.out _ (Keeps.refl _)) hx
      have MX : Hid (∀ X, Keeps w X → WtAt X (a.add (k * 5)) x) := Lib.hid fun X kX => src_rw (HS.out X kX) hx
      obtain ⟨q0, q1, q2, q3, q4⟩ := MX.out _ HV.out
      have hi1 : (k : Int) < (n : Int) := by omega
      have hi0 : (0 : Int) ≤ (k : Int) := by omega
      have wi : Hid (wrap64 ((k : Int) + 1) = (k : Int) + 1) := Lib.hid (i64w (by unfold top; omega) (by unfold top; omega))
      have LK : Hid (((l.take k).map (tick1 m)).length = k) := Lib.hid (by rw [List.length_map, List.length_take, HN.out]; omega)
      have N7 : Hid (n7 ≤ 1000) := Lib.hid (by
        rw [← H7.out, List.length_map]
        have h1 := List.length_filter_le (toldB m) (l.take k)
        rw [List.length_take] at h1
        omega)
      obtain ⟨w3, hw3⟩ : ∃ w3, wr.alloc (wtBox tRw x) = w3 := ⟨_, rfl⟩
      have G3 : Hid (Keeps wr w3) := Lib.hid (hw3 ▸ wbox _ _)
      have B3 : Hid (w3.heap[wr.heap.size]? = some (wtBox tRw x)) := Lib.hid (hw3 ▸ heap_alloc_new _ _)
      have EW3 := Lib.hid hw3
      clear hx hlt hw3
      unfold wtBox at EW3
      go_upto_region 8 with (fail)
      rw [EW3.out]
      clear EW3 q0 q1 q2 q3 q4
      -- what is left of a round, behind a world whose box has what becomes of it
      have GO3 := Lib.hid (rwK.own_keeps HO.out G3.out)
      have GT3 := Lib.hid (keK.own_keeps HT.out G3.out)
      have K3 := Lib.hid (HV.out.trans G3.out)
      have hb : w.heap.size ≤ wr.heap.size := HV.out.size
      have HBW := Lib.hid hb
      obtain ⟨⟨x0, x1, x2, x3, x4⟩, f0, f1, f2, f3, f4⟩ := wt_box_cells B3.out
      by_cases hnow : nowB m x = true
      · have hp : x.p = false := by
          unfold nowB at hnow
          simp only [Bool.and_eq_true, Bool.not_eq_true'] at hnow
          exact hnow.1
        have hnm : x.n ≤ m := by
          unfold nowB at hnow
          simp only [Bool.and_eq_true, decide_eq_true_eq] at hnow
          exact hnow.2
        rw [hp] at x4
        by_cases h5 : 5 ≤ x.t
        · have TX : Hid (tick1 m x = ⟨x.o, x.d, x.t, x.n, true⟩) := Lib.hid (by unfold tick1; rw [if_pos hnow, if_pos h5])
          have UX : Hid (toldB m x = false) := Lib.hid (by unfold toldB; rw [hnow]; simp; exact h5)
          go_upto_region 14 with (fail)
          have KZ0 := keeps_set G3.out (j := wr.heap.size) (o := 4) (Nat.le_refl _) (.bool true)
          have BZ0 : (w3.setCell ⟨wr.heap.size, 4, none⟩ (.bool true)).heap[wr.heap.size]? = some (wtBox tRw ⟨x.o, x.d, x.t, x.n, true⟩) := by
            rw [Joins.block_setCell (i := 4) B3.out (.bool true)]; rfl
          obtain ⟨wz, hwz⟩ : ∃ wz, w3.setCell ⟨wr.heap.size, 4, none⟩ (.bool true) = wz := ⟨_, rfl⟩
          rw [hwz] at KZ0 BZ0 ⊢
          have BZ := Lib.hid BZ0
          have OZ := Lib.hid (rwK.own_keeps HO.out KZ0)
          have TZ := Lib.hid (keK.own_keeps HT.out KZ0)
          have KZ := Lib.hid (HV.out.trans KZ0)
          clear hwz KZ0 BZ0 x0 x1 x2 x3 x4 f0 f1 f2 f3 f4 hnow
          obtain ⟨p', c', W', r1, r2, r3, r4⟩ := wt_app2 ⟨x.o, x.d, x.t, x.n, true⟩ OZ.out LK.out (by omega) KZ.out.size
          have R1 := Lib.hid r1
          have R2 := Lib.hid r2
          have KW := Lib.hid (own_grown rwK KZ.out OZ.out r4)
          have TW := Lib.hid (own_other keK rwK TZ.out r4 OZ.out (by decide))
          clear r1 r2 r3 r4
          obtain ⟨⟨x0, x1, x2, x3, x4⟩, _⟩ := wt_box_cells BZ.out
          go_wp2_with (at_builtin; refine wpAppKnown rfl _ _ _ _ rfl _ _ _ _ rfl rfl R1.out ?_)
          go_roundg g
          case measure => omega
          case rel => exact ⟨k + 1, p', c', p7, n7, c7, by have := HI.out; omega, rfl, rfl, by first | (rw [wi.out]; rfl) | rfl | go_num, by rw [ET.out, TX.out]; exact R2.out, by rw [EU.out, UX.out]; exact (by simpa using H7.out), by rw [EU.out, UX.out]; exact (by simpa using TW.out), KW.out⟩
        · obtain ⟨t1, ht1⟩ : ∃ t1, x.t + 1 = t1 := ⟨_, rfl⟩
          obtain ⟨gg, hgg⟩ : ∃ gg, gapN t1 = gg := ⟨_, rfl⟩
          obtain ⟨n1, hn1⟩ : ∃ n1, m + gg = n1 := ⟨_, rfl⟩
          have TX : Hid (tick1 m x = ⟨x.o, x.d, t1, n1, false⟩) := Lib.hid (by unfold tick1; rw [if_pos hnow, if_neg h5, ht1, hgg, hn1, hp])
          have UX : Hid (toldB m x = true) := Lib.hid (by unfold toldB; rw [hnow]; simp; omega)
          have CG := Lib.hid fun W => wr_gap t1 W
          rw [hgg] at CG
          have w1 : wrap64 (x.t + 1) = t1 := (i64w (by have := OX.out.t0; unfold top; omega) (by have := OX.out.t5; unfold top; omega)).trans ht1
          have w2 : Hid (wrap64 (m + gg) = n1) := Lib.hid ((i64w (by have := HM.out; have := gap_in t1; unfold top; omega) (by have := HM.out; have := gap_in t1; unfold far at *; unfold top; omega)).trans hn1)
          clear ht1 hgg hn1 hnow
          go_upto_region 12 with (fail)
          have KY0 := keeps_set G3.out (j := wr.heap.size) (o := 2) (Nat.le_refl _) (.int .i64 t1)
          have BY0 : (w3.setCell ⟨wr.heap.size, 2, none⟩ (.int .i64 t1)).heap[wr.heap.size]? = some (wtBox tRw ⟨x.o, x.d, t1, x.n, false⟩) := by
            rw [Joins.block_setCell (i := 2) B3.out (.int .i64 t1), ← hp]; rfl
          obtain ⟨wy, hwy⟩ : ∃ wy, w3.setCell ⟨wr.heap.size, 2, none⟩ (.int .i64 t1) = wy := ⟨_, rfl⟩
          rw [hwy] at KY0 BY0 ⊢
          have KY := Lib.hid KY0
          have BY := Lib.hid BY0
          clear hwy KY0 BY0 x0 x1 x2 x3 x4 f0 f1 f2 f3 f4 w1
          obtain ⟨⟨x0, x1, x2, x3, x4⟩, f0, f1, f2, f3, f4⟩ := wt_box_cells BY.out
          go_wp2_with fail
          refine (CG.out _).mono ?_
          rintro e wg ⟨rfl, kg⟩
          have KG := Lib.hid (KY.out.trans kg)
          have BG := Lib.hid (wbox_keep BY.out kg)
          have w3' := w2.out
          clear kg x0 x1 x2 x3 x4 f0 f1 f2 f3 f4
          obtain ⟨⟨x0, x1, x2, x3, x4⟩, f0, f1, f2, f3, f4⟩ := wt_box_cells BG.out
          go_upto_region 13 with (fail)
          have KY0 := keeps_set KG.out (j := wr.heap.size) (o := 3) (Nat.le_refl _) (.int .i64 n1)
          have BY0 : (wg.setCell ⟨wr.heap.size, 3, none⟩ (.int .i64 n1)).heap[wr.heap.size]? = some (wtBox tRw ⟨x.o, x.d, t1, n1, false⟩) := by
            rw [Joins.block_setCell (i := 3) BG.out (.int .i64 n1)]; rfl
          obtain ⟨wn, hwn⟩ : ∃ wn, wg.setCell ⟨wr.heap.size, 3, none⟩ (.int .i64 n1) = wn := ⟨_, rfl⟩
          rw [hwn] at KY0 BY0 ⊢
          have KN := Lib.hid KY0
          have BN := Lib.hid BY0
          clear hwn KY0 BY0 x0 x1 x2 x3 x4 f0 f1 f2 f3 f4 w3'
          obtain ⟨⟨x0, x1, x2, x3, x4⟩, f0, f1, f2, f3, f4⟩ := wt_box_cells BN.out
          have TN := Lib.hid (keK.own_keeps HT.out KN.out)
          have ON := Lib.hid (rwK.own_keeps HO.out KN.out)
          obtain ⟨p8, c8, wz, r1, r2, r3, r4⟩ := ke_app x.o x.d TN.out H7.out N7.out (HV.out.trans KN.out).size
          have R1 := Lib.hid r1
          have TZ := Lib.hid r2
          have H8 := Lib.hid r3
          have OZ := Lib.hid (own_other rwK keK ON.out r4 TN.out (by decide))
          have KZ := Lib.hid (own_grown keK (HV.out.trans KN.out) TN.out r4)
          have BZ : Hid (wz.heap[wr.heap.size]? = some (wtBox tRw ⟨x.o, x.d, t1, n1, false⟩)) := Lib.hid ((r4.block _ (wbox_lt BN.out) (fun e => by have := (keK.own_lt HT.out _ e.symm).2; omega)).trans BN.out)
          clear r1 r2 r3 r4
          go_upto_region 14 with (at_builtin; refine wpAppKnown rfl _ _ _ _ rfl _ _ _ _ rfl rfl R1.out ?_)
          clear x0 x1 x2 x3 x4 f0 f1 f2 f3 f4 R1
          obtain ⟨p', c', W', r1, r2, r3, r4⟩ := wt_app2 ⟨x.o, x.d, t1, n1, false⟩ OZ.out LK.out (by omega) KZ.out.size
          have R1 := Lib.hid r1
          have R2 := Lib.hid r2
          have KW := Lib.hid (own_grown rwK KZ.out OZ.out r4)
          have TW := Lib.hid (own_other keK rwK TZ.out r4 OZ.out (by decide))
          clear r1 r2 r3 r4
          obtain ⟨⟨x0, x1, x2, x3, x4⟩, _⟩ := wt_box_cells BZ.out
          go_wp2_with (at_builtin; refine wpAppKnown rfl _ _ _ _ rfl _ _ _ _ rfl rfl R1.out ?_)
          go_roundg g
          case measure => omega
          case rel => exact ⟨k + 1, p', c', p8, n7 + 1, c8, by have := HI.out; omega, rfl, rfl, by first | (rw [wi.out]; rfl) | rfl | go_num, by rw [ET.out, TX.out]; exact R2.out, by rw [EU.out, UX.out]; exact H8.out, by rw [EU.out, UX.out]; exact TW.out, KW.out⟩
      · have TX : Hid (tick1 m x = x) := Lib.hid (by unfold tick1; rw [if_neg hnow])
        have UX : Hid (toldB m x = false) := Lib.hid (by unfold toldB; cases hq : nowB m x with | true => exact absurd hq hnow | false => rfl)
        have BZ := B3
        have OZ := GO3
        have TZ := GT3
        have KZ := K3
        have hc : x.p = true ∨ (x.p = false ∧ m < x.n) := by
          cases hp : x.p with
          | true => exact Or.inl rfl
          | false =>
            right
            refine ⟨rfl, ?_⟩
            unfold nowB at hnow
            rw [hp] at hnow
            simp at hnow
            omega
        clear hnow
        rcases hc with hp | ⟨hp, hm⟩
        all_goals
          rw [hp] at x4
          go_upto_region 14 with (fail)
          clear x0 x1 x2 x3 x4 f0 f1 f2 f3 f4 hp
          obtain ⟨p', c', W', r1, r2, r3, r4⟩ := wt_app2 x OZ.out LK.out (by omega) KZ.out.size
          have R1 := Lib.hid r1
          have R2 := Lib.hid r2
          have KW := Lib.hid (own_grown rwK KZ.out OZ.out r4)
          have TW := Lib.hid (own_other keK rwK TZ.out r4 OZ.out (by decide))
          clear r1 r2 r3 r4
          obtain ⟨⟨x0, x1, x2, x3, x4⟩, _⟩ := wt_box_cells BZ.out
          go_wp2_with (at_builtin; refine wpAppKnown rfl _ _ _ _ rfl _ _ _ _ rfl rfl R1.out ?_)
          go_roundg g
          case measure => omega
          case rel => exact ⟨k + 1, p', c', p7, n7, c7, by have := HI.out; omega, rfl, rfl, by first | (rw [wi.out]; rfl) | rfl | go_num, by rw [ET.out, TX.out]; exact R2.out, by rw [EU.out, UX.out]; exact (by simpa using H7.out), by rw [EU.out, UX.out]; exact (by simpa using TW.out), KW.out⟩
end Wt
end Go.Proofs.Ytbemkcnikoiecaa
