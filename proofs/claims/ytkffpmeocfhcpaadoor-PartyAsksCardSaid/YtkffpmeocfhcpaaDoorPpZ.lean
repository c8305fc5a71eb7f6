
/- The program's party: Ask. The program's party: Statement. The program's party: Copy. The program's party: New. The program's party: Copy. The program's party: one that is none. -/
import Derived.Test.YtkffpmeocfhcpaaDoorPpC8
import Derived.Test.YtkffpmeocfhcpaaDoorOdMayC
import Derived.StillTailTactics
import Derived.Test.YtkffpmeocfhcpaaDoorPpC4
import Derived.Deep.RegionHeld3
import Derived.Test.YtkffpmeocfhcpaaDoorPpC2
set_option linter.unusedVariables false
namespace Go.Proofs.YtkffpmeocfhcpaaDoor
open Go.ChangeShapes Go.WideShapes Go.ChangeAt Go.RowKit Ky Rw
namespace Pp
def ansV (m : Pt.M) : Option Int → Value
  | none => .agg #[.int .i64 0, .int .i64 0, .int .i64 0, .string ⟨#[]⟩, .int .i64 0, .int .i64 0, .int .i64 0]
  | some c => .agg #[.int .i64 3, .int .i64 m.o, .int .i64 m.k, .string ⟨#[]⟩, .int .i64 0, .int .i64 0, .int .i64 c]
def noObj : Obj := .cells #[.int .i64 0, .int .i64 0, .int .i64 0, .string ⟨#[]⟩, .int .i64 0, .int .i64 0, .int .i64 0] tPm
theorem Only.cell {X : World} {j o : Nat} (v : Value) : Only (fun i => i = j) X (X.setCell ⟨j, o, none⟩ v) :=
  ⟨rfl, rfl, rfl, (So.Kx.setCell (blk := j) (c := j) X o v).1, fun i hi hn => (So.Kx.setCell (blk := j) (c := j) X o v).2 i hi hn hn⟩
theorem Only.new {F : Nat → Prop} {W X Y : World} {j : Nat} (h : Only F W X) (g : Only (fun i => i = j) X Y) (hj : W.heap.size ≤ j) : Only F W Y :=
  ⟨g.os.trans h.os, g.tape.trans h.tape, g.output.trans h.output, Nat.le_trans h.size g.size, fun i hi hn => (g.same i (Nat.lt_of_lt_of_le hi h.size) (by omega)).trans (h.same i hi hn)⟩
theorem PpAt.only {F : Nat → Prop} {X Y : World} {b br bs bh c : Nat} {p : Pt.P} {q : Int} (h : PpAt X b br bs bh c p q) (g : Only F X Y) (h0 : ¬ F b) (h1 : ¬ F br) (h2 : ¬ F bs) (h3 : ¬ F bh) : PpAt Y b br bs bh c p q := by
  obtain ⟨l1, l2, l3⟩ := h.tabs.low
  exact ⟨(g.same b h.low h0).trans h.box, h.tabs.kept (g.same br l1 h1) (g.same bs l2 h2) (g.same bh l3 h3)⟩
theorem seven_set (X : World) (j : Nat) (v0 v1 v2 v3 v4 v5 v6 : Value) : Only (fun i => i = j) X (((((((X.setCell ⟨j, 0, none⟩ v0).setCell ⟨j, 1, none⟩ v1).setCell ⟨j, 2, none⟩ v2).setCell ⟨j, 3, none⟩ v3).setCell ⟨j, 4, none⟩ v4).setCell ⟨j, 5, none⟩ v5).setCell ⟨j, 6, none⟩ v6) :=
  ((((((Only.cell v0).trans (Only.cell v1)).trans (Only.cell v2)).trans (Only.cell v3)).trans (Only.cell v4)).trans (Only.cell v5)).trans (Only.cell v6)
theorem row_code (o d c a q : Int) (X : World) : (Instr.field tRw (.agg #[.int .i64 o, .int .i64 d, .int .i64 c, .int .i64 a, .int .i64 q]) 1).run Tryd.prog X = .ok (.int .i64 c) X := by kernel_rfl
theorem ask_row {p : Pt.P} {m : Pt.M} (h : Pt.may m = true ∧ m.t = p.kind) : ∃ r, Pt.fd (Pt.ask p m).1.L m.o m.k = some r ∧ Pt.ask p m = (if (Pt.fd p.L m.o m.k).isSome = true then p else (Pt.done p m).1, some r.c) := by
  unfold Pt.ask
  rw [if_pos h]
  cases hf : Pt.fd p.L m.o m.k with
  | some r => exact ⟨r, hf, by simp⟩
  | none =>
    obtain ⟨⟨r, h1, h2⟩, _⟩ := Pt.done_row hf
    exact ⟨r, h1, by simp [h2]⟩
set_option maxHeartbeats 8000000 in
set_option maxRecDepth 100000 in
theorem pp_ask {W : World} {b br bs bh c : Nat} {p : Pt.P} {q : Int} (h : PpAt W b br bs bh c p q) (hp : HasP W) (hi : Pt.Inv p) (hc : c < 100000) (m : Pt.M) (hs : m.s.size ≤ maxLen) :
    Calls Tryd.prog 13 #[.pointer (some ⟨b, 0, none⟩), pmV m] W fun e w' => e = .returned (.tuple #[ansV m (Pt.ask p m).2, .bool (Pt.ask p m).2.isSome]) ∧ PpAt w' b br bs bh (c + 4) (Pt.ask p m).1 q ∧ Only (three br bs bh) W w' := by
  have K1 := Lib.hid (ky_box W (pmBox m))
  have K2 := Lib.hid (K1.out.trans (ky_box (W.alloc (pmBox m)) noObj))
  have HX := Lib.hid (pm_cells W m)
  have HPP := Lib.hid fun (X : World) (k : Keeps ((W.alloc (pmBox m)).alloc noObj) X) => h.keeps (K2.out.trans k)
  have CN := Lib.hid fun (X : World) (k : Keeps ((W.alloc (pmBox m)).alloc noObj) X) => pp_none (h.keeps (K2.out.trans k))
  have CM := Lib.hid fun (X : World) (k : Keeps ((W.alloc (pmBox m)).alloc noObj) X) => od_may m.t m.o m.k m.s m.q m.a m.c X (hp.keeps (K2.out.trans k)) hs
  have HLOW := Lib.hid h.tabs.low
  have HOFF := Lib.hid h.low
  have HBOX : Hid (∀ X, Only (three br bs bh) ((W.alloc (pmBox m)).alloc noObj) X → X.heap[W.heap.size + 1]? = some noObj ∧ X.heap[W.heap.size]? = some (pmBox m)) := Lib.hid fun X k => by
    obtain ⟨t1, t2, t3⟩ := h.tabs.low
    exact ⟨(k.same _ (by simp) (by unfold three; omega)).trans (So.two_alloc W _ _), (k.same _ (by simp; omega) (by unfold three; omega)).trans (((ky_box (W.alloc (pmBox m)) noObj).block _ (by simp)).trans (heap_alloc_new W _))⟩
  have SEV := Lib.hid fun (X : World) (hX : X.heap[W.heap.size + 1]? = some noObj) => (show (X.cell? ⟨W.heap.size + 1, 0, none⟩ = some (.int .i64 0) ∧ X.cell? ⟨W.heap.size + 1, 1, none⟩ = some (.int .i64 0) ∧ X.cell? ⟨W.heap.size + 1, 2, none⟩ = some (.int .i64 0) ∧ X.cell? ⟨W.heap.size + 1, 3, none⟩ = some (.string ⟨#[]⟩) ∧ X.cell? ⟨W.heap.size + 1, 4, none⟩ = some (.int .i64 0) ∧ X.cell? ⟨W.heap.size + 1, 5, none⟩ = some (.int .i64 0) ∧ X.cell? ⟨W.heap.size + 1, 6, none⟩ = some (.int .i64 0)) ∧
      (∀ i, X.frozen? ⟨W.heap.size + 1, i, none⟩ = false) from by
    refine ⟨by simp [World.cell?, hX, noObj], fun i => by simp [World.frozen?, hX, noObj]⟩)
  have KEY := Lib.hid fun (X : World) (hX : X.heap[W.heap.size]? = some (pmBox m)) => (show X.cell? ⟨W.heap.size, 0, none⟩ = some (.int .i64 m.t) ∧ X.cell? ⟨W.heap.size, 1, none⟩ = some (.int .i64 m.o) ∧ X.cell? ⟨W.heap.size, 2, none⟩ = some (.int .i64 m.k) ∧ X.cell? ⟨W.heap.size, 3, none⟩ = some (.string m.s) ∧ X.cell? ⟨W.heap.size, 4, none⟩ = some (.int .i64 m.q) ∧ X.cell? ⟨W.heap.size, 5, none⟩ = some (.int .i64 m.a) ∧ X.cell? ⟨W.heap.size, 6, none⟩ = some (.int .i64 m.c) from by
    simp [World.cell?, hX, pmBox])
  obtain ⟨mb, hmb⟩ : ∃ mb, Od.mayM m.t m.o m.k m.s m.q m.a m.c = mb := ⟨_, rfl⟩
  have HMB : Hid (Pt.may m = mb) := Lib.hid hmb
  rw [hmb] at CM
  obtain ⟨⟨x0, x1, x2, x3, x4, x5, x6⟩, _⟩ := HX.out _ (ky_box (W.alloc (pmBox m)) noObj)
  obtain ⟨kd, hkd⟩ : ∃ kd, p.kind = kd := ⟨_, rfl⟩
  have y0 := (HPP.out _ (Keeps.refl _)).cells.1
  rw [hkd] at y0
  unfold msV at CM
  unfold pmV
  clear hmb
  obtain ⟨R, hR⟩ : ∃ R, Pt.ask p m = R := ⟨_, rfl⟩
  have HR := Lib.hid hR
  rw [hR]
  clear hR h
  unfold noObj at *
  unfold pmBox at *
  go_enter Tryd.func13, Tryd.ntmps13
  go_upto_region 1 with fail
  go_cut [23] (fun v23 wx => v23 = .bool (!(decide (m.t = kd) && mb)) ∧ Keeps ((W.alloc (.cells #[.int .i64 m.t, .int .i64 m.o, .int .i64 m.k, .string m.s, .int .i64 m.q, .int .i64 m.a, .int .i64 m.c] tPm)).alloc (.cells #[.int .i64 0, .int .i64 0, .int .i64 0, .string ⟨#[]⟩, .int .i64 0, .int .i64 0, .int .i64 0] tPm)) wx)
  case first =>
    by_cases ht : m.t = kd
    · have htb : (m.t != kd) = false := by simpa using ht
      have E0 : Hid (decide (m.t = kd) = true) := Lib.hid (decide_eq_true ht)
      clear ht
      go_wp2_with (go_region_with (first
        | (go_at_call 27; refine (CN.out _ (by first | exact Keeps.refl _ | exact ky_drew _)).mono ?_; rintro e w1 ⟨rfl, rfl⟩)
        | (go_at_call 23; refine (CM.out _ (by first | exact Keeps.refl _ | exact ky_drew _)).mono ?_; rintro e w2 ⟨rfl, k2⟩; have KK := Lib.hid k2; clear k2)))
      all_goals go_wp2_with fail
      all_goals go_meet
      all_goals first
        | exact ⟨by rw [E0.out]; simp, KK.out⟩
        | exact ⟨by rw [E0.out]; simp, (ky_drew _).trans KK.out⟩
        | exact ⟨by rw [E0.out]; simp, KK.out.trans (ky_drew _)⟩
    · have htb : (m.t != kd) = true := by simpa using ht
      have E0 : Hid (decide (m.t = kd) = false) := Lib.hid (decide_eq_false ht)
      clear ht
      go_wp2_with (go_region_with (first
        | (go_at_call 27; refine (CN.out _ (by first | exact Keeps.refl _ | exact ky_drew _)).mono ?_; rintro e w1 ⟨rfl, rfl⟩)))
      all_goals go_wp2_with fail
      all_goals go_meet
      all_goals first
        | exact ⟨by rw [E0.out]; simp, ky_drew _⟩
        | exact ⟨by rw [E0.out]; simp, Keeps.refl _⟩
  case rest =>
    rename World => wa
    obtain ⟨rfl, ka⟩ := hcut
    have KA := Lib.hid ka
    clear ka x0 x1 x2 x3 x4 x5 x6 y0 CN CM
    have H2 := Lib.hid (HPP.out _ KA.out)
    obtain ⟨hb1, hb2⟩ := HBOX.out _ (Only.of_keeps KA.out)
    obtain ⟨⟨v0, v1, v2, v3, v4, v5, v6⟩, fz⟩ := SEV.out _ hb1
    obtain ⟨x0, x1, x2, x3, x4, x5, x6⟩ := KEY.out _ hb2
    clear hb1 hb2
    obtain ⟨B, hB⟩ : ∃ B, (decide (m.t = kd) && mb) = B := ⟨_, rfl⟩
    rw [hB]
    have HB := Lib.hid hB
    clear hB
    cases B with
    | false =>
      have RE : Hid (R = (p, none)) := Lib.hid (by
        rw [← HR.out]
        unfold Pt.ask
        rw [if_neg]
        rintro ⟨a1, a2⟩
        have := HB.out
        rw [← HMB.out, a1, a2, hkd] at this
        simp at this)
      clear HR
      have f0 := fz 0
      have f1 := fz 1
      have f2 := fz 2
      have f3 := fz 3
      have f4 := fz 4
      have f5 := fz 5
      have f6 := fz 6
      go_wp2
      refine bodyPost_ret (v := .tuple #[.agg #[.int .i64 0, .int .i64 0, .int .i64 0, .string ⟨#[]⟩, .int .i64 0, .int .i64 0, .int .i64 0], .bool false]) (by simp [results, Tryd.results13, go_sem, v0, v1, v2, v3, v4, v5, v6]) rfl ?_
      rw [RE.out]
      obtain ⟨t1, t2, t3⟩ := HLOW.out
      have t0 := HOFF.out
      refine ⟨rfl, (H2.out.only (seven_set _ _ _ _ _ _ _ _ _) (by omega) (by omega) (by omega) (by omega)).more (by omega), Only.new (Only.of_keeps (K2.out.trans KA.out)) (seven_set _ _ _ _ _ _ _ _ _) (by omega)⟩
    | true =>
      have OK : Hid (Pt.may m = true ∧ m.t = p.kind) := Lib.hid (by
        have := HB.out
        simp only [Bool.and_eq_true, decide_eq_true_eq] at this
        exact ⟨HMB.out.trans this.2, this.1.trans hkd.symm⟩)
      obtain ⟨r, hr1, hr2⟩ := ask_row OK.out
      rw [HR.out] at hr1 hr2
      obtain ⟨io, ik⟩ := chk64 (Pt.may_ok OK.out.1).key
      obtain ⟨iss, hiss⟩ : ∃ iss, (Pt.fd p.L m.o m.k).isSome = iss := ⟨_, rfl⟩
      obtain ⟨p', hp'⟩ : ∃ p', (if (Pt.fd p.L m.o m.k).isSome = true then p else (Pt.done p m).1) = p' := ⟨_, rfl⟩
      rw [hp'] at hr2
      rw [hiss] at hp'
      have RE := Lib.hid hr2
      have RF : Hid (Pt.fd p'.L m.o m.k = some r) := Lib.hid (by rw [hr2] at hr1; exact hr1)
      have PE := Lib.hid hp'
      clear hr1 hr2 hp' HR v0 v1 v2 v3 v4 v5 v6 fz
      have x3' := H2.out.cells.2.2.2.1
      have lt := H2.out.tabs.low.1
      have LK := Lib.hid fun (X : World) (hX : X.heap[br]? = wa.heap[br]?) => (rows_look H2.out m.o m.k io ik X hX).1
      have l1 := LK.out wa rfl
      have l2 := LK.out wa.drew rfl
      have l3 : ∀ ob, _ := fun ob => LK.out (wa.alloc ob) ((ky_box _ ob).block br lt)
      have l4 : ∀ ob, _ := fun ob => LK.out (wa.alloc ob).drew ((ky_box _ ob).block br lt)
      obtain ⟨rv, hrv⟩ : ∃ rv : Rw.R, ((Pt.fd p.L m.o m.k).map rwV).getD rwZ = rwV rv := by
        cases Pt.fd p.L m.o m.k with
        | some w => exact ⟨w, rfl⟩
        | none => exact ⟨⟨0, 0, 0, 0, 0⟩, rfl⟩
      rw [hrv, Option.isSome_map, hiss] at l1 l2
      simp only [hrv, Option.isSome_map, hiss] at l3 l4
      unfold rwV at l1 l2 l3 l4
      have z3 : ∀ ob, (wa.alloc ob).cell? ⟨b, 3, none⟩ = some (.map (some br)) := fun ob => (H2.out.keeps (ky_box _ ob)).cells.2.2.2.1
      have z4 : ∀ ob, (wa.alloc ob).cell? ⟨W.heap.size, 1, none⟩ = some (.int .i64 m.o) := fun ob => (KEY.out _ (HBOX.out _ (Only.of_keeps (KA.out.trans (ky_box _ ob)))).2).2.1
      have z5 : ∀ ob, (wa.alloc ob).cell? ⟨W.heap.size, 2, none⟩ = some (.int .i64 m.k) := fun ob => (KEY.out _ (HBOX.out _ (Only.of_keeps (KA.out.trans (ky_box _ ob)))).2).2.2.1
      clear hrv
      go_upto_region 3 with fail
      go_cut [7] (fun v7 wx => v7 = .bool iss ∧ Keeps wa wx)
      case first =>
        go_region
        all_goals clear l1 l2 l3 l4 z3 z4 z5
        all_goals go_wp2_with fail
        all_goals go_meet
        all_goals exact ⟨rfl, (ky_box _ _).trans (ky_drew _)⟩
      case rest =>
        rename World => wb
        obtain ⟨rfl, kb⟩ := hcut
        have KB := Lib.hid kb
        clear kb l1 l2 l3 l4 z3 z4 z5 x0 x1 x2 x3 x4 x5 x6 x3' LK
        have H3 := Lib.hid (H2.out.keeps KB.out)
        obtain ⟨x0, x1, x2, x3, x4, x5, x6⟩ := KEY.out _ (HBOX.out _ (Only.of_keeps (KA.out.trans KB.out))).2
        go_upto_if 36 with fail
        go_cut [] (fun wx => PpAt wx b br bs bh (c + 4) p' q ∧ Only (three br bs bh) ((W.alloc (.cells #[.int .i64 m.t, .int .i64 m.o, .int .i64 m.k, .string m.s, .int .i64 m.q, .int .i64 m.a, .int .i64 m.c] tPm)).alloc (.cells #[.int .i64 0, .int .i64 0, .int .i64 0, .string ⟨#[]⟩, .int .i64 0, .int .i64 0, .int .i64 0] tPm)) wx)
        case first =>
          cases iss with
          | true =>
            go_wp2_with fail
            go_meet
            have e := PE.out
            simp at e
            rw [← e]
            exact ⟨H3.out.more (by omega), Only.of_keeps (KA.out.trans KB.out)⟩
          | false =>
            have hno : Pt.fd p.L m.o m.k = none := by
              cases hf : Pt.fd p.L m.o m.k with
              | none => rfl
              | some x => rw [hf] at hiss; cases hiss
            have hcd := Lib.hid (pp_do H3.out hi hc m OK.out.1 OK.out.2 hno)
            unfold pmV at hcd
            clear hno
            go_wp2_with fail
            refine hcd.out.mono ?_
            rintro e w1 ⟨rfl, r1, r2⟩
            have R1 := Lib.hid r1
            have R2 := Lib.hid r2
            clear r1 r2
            go_wp2_with fail
            go_meet
            have e := PE.out
            simp at e
            rw [← e]
            exact ⟨R1.out, (Only.of_keeps (KA.out.trans KB.out)).trans R2.out⟩
        case rest =>
          rename World => wc
          obtain ⟨hc1, hc2⟩ := hcut
          have H4 := Lib.hid hc1
          have G4 := Lib.hid hc2
          clear hc1 hc2 x0 x1 x2 x3 x4 x5 x6
          obtain ⟨hb1, hb2⟩ := HBOX.out _ G4.out
          obtain ⟨⟨v0, v1, v2, v3, v4, v5, v6⟩, fz⟩ := SEV.out _ hb1
          obtain ⟨x0, x1, x2, x3, x4, x5, x6⟩ := KEY.out _ hb2
          clear hb1 hb2
          have y3 := H4.out.cells.2.2.2.1
          have LK2 := Lib.hid fun (X : World) (hX : X.heap[br]? = wc.heap[br]?) => (rows_look H4.out m.o m.k io ik X hX).2
          have l1 := LK2.out wc rfl
          have l2 := LK2.out wc.drew rfl
          have er : ((Pt.fd p'.L m.o m.k).map rwV).getD rwZ = .agg #[.int .i64 r.o, .int .i64 r.d, .int .i64 r.c, .int .i64 r.a, .int .i64 r.q] := by
            rw [RF.out]; rfl
          rw [er] at l1 l2
          clear er
          have hrc := fun X => row_code r.o r.d r.c r.a r.q X
          have f0 := fz 0
          have f1 := fz 1
          have f2 := fz 2
          have f3 := fz 3
          have f4 := fz 4
          have f5 := fz 5
          have f6 := fz 6
          obtain ⟨t1, t2, t3⟩ := HLOW.out
          have t0 := HOFF.out
          have T : Hid (b < W.heap.size ∧ br < W.heap.size ∧ bs < W.heap.size ∧ bh < W.heap.size) := Lib.hid ⟨t0, t1, t2, t3⟩
          clear t0 t1 t2 t3
          have FIN := Lib.hid fun (Y : World) (g : Only (fun i => i = W.heap.size + 1) wc Y) => (show PpAt Y b br bs bh (c + 4) p' q ∧ Only (three br bs bh) W Y from by
            obtain ⟨t0, t1, t2, t3⟩ := T.out
            exact ⟨H4.out.only g (by omega) (by omega) (by omega) (by omega), Only.new ((Only.of_keeps K2.out).trans G4.out) g (by omega)⟩)
          go_upto_region 6 with fail
          go_still_tail 11, (by kernel_rfl)
          have KQ : Hid (Keeps wc wc.drew) := Lib.hid (ky_drew _)
          have hq := (KQ.out.block (W.heap.size + 1) (by have := G4.out.size; simp at this; omega)).trans (HBOX.out _ G4.out).1
          obtain ⟨⟨w0, w1, w2, w3, w4, w5, w6⟩, fzq⟩ := SEV.out _ hq
          have g0 := fzq 0
          have g1 := fzq 1
          have g2 := fzq 2
          have g3 := fzq 3
          have g4 := fzq 4
          have g5 := fzq 5
          have g6 := fzq 6
          change wpList _ _ _ _ _ wc.drew
          clear l1 l2 v0 v1 v2 v3 v4 v5 v6 f0 f1 f2 f3 f4 f5 f6 fz fzq hq x0 x1 x2 x3 x4 x5 x6 y3 SEV KEY HBOX LK2 HPP HX K1 K2 OK RF PE HB HMB H2 H3 H4 KA KB G4 hrc T HLOW HOFF
          generalize wc.drew = wq at *
          go_wp2
          refine bodyPost_ret (v := .tuple #[.agg #[.int .i64 3, .int .i64 m.o, .int .i64 m.k, .string ⟨#[]⟩, .int .i64 0, .int .i64 0, .int .i64 r.c], .bool true]) (by simp [results, Tryd.results13, go_sem, w0, w1, w2, w3, w4, w5, w6]) rfl ?_
          rw [RE.out]
          exact ⟨rfl, FIN.out _ ((Only.of_keeps KQ.out).trans (seven_set _ _ _ _ _ _ _ _ _))⟩
end Pp
end Go.Proofs.YtkffpmeocfhcpaaDoor
namespace Go.Proofs.YtkffpmeocfhcpaaDoor
open Go.ChangeShapes Go.WideShapes Go.ChangeAt Go.RowKit Ky Rw
namespace Pp
def noSt : Value := .agg #[.int .i64 0, .int .i64 0, .slice none 0 0]
abbrev tSt : TypeId := 48
def noStObj : Obj := .cells #[.int .i64 0, .int .i64 0, .slice none 0 0] tSt
theorem PpAt.bump {W : World} {b br bs bh c : Nat} {p : Pt.P} {q : Int} (h : PpAt W b br bs bh c p q) (hn : b ≠ br ∧ b ≠ bs ∧ b ≠ bh) (u : Int) : PpAt (W.setCell ⟨b, 6, none⟩ (.int .i64 u)) b br bs bh c p u := by
  have e := heap_setCell_same W b 6 _ tPp (.int .i64 u) h.box
  exact ⟨e, h.tabs.kept (heap_setCell_other _ _ _ _ (Ne.symm hn.1)) (heap_setCell_other _ _ _ _ (Ne.symm hn.2.1)) (heap_setCell_other _ _ _ _ (Ne.symm hn.2.2))⟩
theorem PpAt.apart {W : World} {b br bs bh c : Nat} {p : Pt.P} {q : Int} (h : PpAt W b br bs bh c p q) : b ≠ br ∧ b ≠ bs ∧ b ≠ bh := by
  have e := h.box
  obtain ⟨n1, D1, ⟨es1, k1, g1, _⟩, _⟩ := h.tabs.rows
  obtain ⟨n2, D2, f, ⟨es2, k2, g2, _⟩, _⟩ := h.tabs.stocks
  obtain ⟨n3, D3, ⟨es3, k3, g3, _⟩, _⟩ := h.tabs.held
  refine ⟨?_, ?_, ?_⟩
  · rintro rfl; rw [g1] at e; cases e
  · rintro rfl; rw [g2] at e; cases e
  · rintro rfl; rw [g3] at e; cases e
set_option maxHeartbeats 8000000 in
set_option maxRecDepth 100000 in
theorem pp_stmt {W : World} {b br bs bh c : Nat} {p : Pt.P} {q : Int} (h : PpAt W b br bs bh c p q) (hi : Pt.Inv p) (hc : c ≤ 1000000) (h0 : 0 ≤ q) (hq : q < 1073741824) :
    Calls Tryd.prog 18 #[.pointer (some ⟨b, 0, none⟩)] W fun e w' => ∃ v, e = .returned (.agg #[.int .i64 p.kind, .int .i64 (q + 1), v]) ∧ rowK.Own W.heap.size w' v p.L ∧ PpAt w' b br bs bh c p (q + 1) ∧ Only (fun i => i = b) W w' := by
  have K1 := Lib.hid (ky_box W noStObj)
  have CN := Lib.hid (pp_none (h.keeps K1.out))
  have y6 := (h.keeps K1.out).cells.2.2.2.2.2.2
  have z6 : (W.alloc noStObj).frozen? ⟨b, 6, none⟩ = false := by
    have e := (h.keeps K1.out).box
    unfold ppObj at e
    simp [World.frozen?, e]
  have lt := h.low
  have tl := h.tabs.low
  have q1 : (IntKind.i64).wrap (q + 1) = q + 1 := by unfold IntKind.wrap; simp [IntKind.bits, IntKind.signed]; omega
  have qb : (decide (q ≥ 1073741824)) = false := decide_eq_false (by omega)
  go_enter Tryd.func18, Tryd.ntmps18
  go_wp2_with fail
  refine CN.out.mono ?_
  rintro e w1 ⟨rfl, rfl⟩
  go_upto_region 4 with fail
  have ks := ky_box (W.setCell ⟨b, 6, none⟩ (.int .i64 (q + 1))) noStObj
  have hA : PpAt ((W.setCell ⟨b, 6, none⟩ (.int .i64 (q + 1))).alloc noStObj) b br bs bh c p (q + 1) := (h.bump h.apart (q + 1)).keeps ks
  have hO : Only (fun i => i = b) W ((W.setCell ⟨b, 6, none⟩ (.int .i64 (q + 1))).alloc noStObj) := (Only.cell _).trans (Only.of_keeps ks)
  have HB : ((W.setCell ⟨b, 6, none⟩ (.int .i64 (q + 1))).alloc noStObj).heap[W.heap.size]? = some noStObj := by
    have e := heap_alloc_new (W.setCell ⟨b, 6, none⟩ (.int .i64 (q + 1))) noStObj
    rw [World.size_setCell] at e
    exact e
  have hz : W.heap.size < ((W.setCell ⟨b, 6, none⟩ (.int .i64 (q + 1))).alloc noStObj).heap.size := by
    rcases Nat.lt_or_ge W.heap.size ((W.setCell ⟨b, 6, none⟩ (.int .i64 (q + 1))).alloc noStObj).heap.size with x | x
    · exact x
    · rw [Array.getElem?_eq_none x] at HB; cases HB
  generalize (W.setCell ⟨b, 6, none⟩ (.int .i64 (q + 1))).alloc noStObj = w2 at *
  have HA := Lib.hid hA
  have HO := Lib.hid hO
  have CR := Lib.hid fun X (k : Keeps w2 X) => pp_rows (hA.keeps k) hi hc
  have HC := Lib.hid fun X (k : Keeps w2 X) => (show X.cell? ⟨b, 0, none⟩ = some (.int .i64 p.kind) ∧ X.cell? ⟨b, 6, none⟩ = some (.int .i64 (q + 1)) from ⟨(hA.keeps k).cells.1, (hA.keeps k).cells.2.2.2.2.2.2⟩)
  have SE := Lib.hid fun X (k : Keeps w2 X) => (show (X.cell? ⟨W.heap.size, 0, none⟩ = some (.int .i64 0) ∧ X.cell? ⟨W.heap.size, 1, none⟩ = some (.int .i64 0) ∧ X.cell? ⟨W.heap.size, 2, none⟩ = some (.slice none 0 0)) ∧ X.frozen? ⟨W.heap.size, 0, none⟩ = false ∧ X.frozen? ⟨W.heap.size, 1, none⟩ = false ∧ X.frozen? ⟨W.heap.size, 2, none⟩ = false from by
    have hX := (k.block W.heap.size hz).trans HB
    unfold noStObj at hX
    exact ⟨by simp [World.cell?, hX], by simp [World.frozen?, hX]⟩)
  have SX := Lib.hid fun X (k : Keeps w2 X) (u0 u1 u2 : Value) => (show (((X.setCell ⟨W.heap.size, 0, none⟩ u0).setCell ⟨W.heap.size, 1, none⟩ u1).setCell ⟨W.heap.size, 2, none⟩ u2).cell? ⟨b, 0, none⟩ = some (.int .i64 p.kind) ∧ (((X.setCell ⟨W.heap.size, 0, none⟩ u0).setCell ⟨W.heap.size, 1, none⟩ u1).setCell ⟨W.heap.size, 2, none⟩ u2).cell? ⟨b, 6, none⟩ = some (.int .i64 (q + 1)) from by
    have e := (((Only.cell (X := X) (j := W.heap.size) (o := 0) u0).trans (Only.cell (o := 1) u1)).trans (Only.cell (o := 2) u2)).same b (hA.keeps k).low (by omega)
    have e' := e.trans (hA.keeps k).box
    unfold ppObj at e'
    simp only [World.cell?, e']
    exact ⟨by simp, by simp⟩)
  have HZ2 := Lib.hid hz
  clear hA hO h hi y6 z6 hz ks HB
  have LT := Lib.hid (show b < W.heap.size ∧ br < W.heap.size ∧ bs < W.heap.size ∧ bh < W.heap.size from ⟨lt, tl⟩)
  clear lt tl q1 qb
  go_region_held3 (fun X => X.cell? ⟨b, 0, none⟩ = some (.int .i64 p.kind) ∧ X.cell? ⟨b, 6, none⟩ = some (.int .i64 (q + 1)))
    (first | exact HC.out _ (Keeps.refl _) | exact HC.out _ (ky_drew _) | exact HC.out _ K3.out | exact SX.out _ K3.out _ _ _ | go_keep)
    ((go_at_call 15; refine (CR.out _ (ky_drew _)).mono ?_; rintro e w3 ⟨v, rfl, ho, k3⟩; obtain ⟨pv, cv, rfl⟩ := rowK.own_shape ho; have O3 := Lib.hid ho; have K3 := Lib.hid ((ky_drew w2).trans k3); obtain ⟨⟨s0, s1, s2⟩, f0, f1, f2⟩ := SE.out _ K3.out; clear ho k3))
  have ST := Lib.hid (((Only.cell (X := w3) (j := W.heap.size) (o := 0) (.int .i64 p.kind)).trans (Only.cell (o := 1) (.int .i64 (q + 1)))).trans (Only.cell (o := 2) (.slice pv p.L.length cv)))
  obtain ⟨t0, t1, t2, t3⟩ := LT.out
  have hz2 := HZ2.out
  have O5 : Hid (rowK.Own W.heap.size (((w3.setCell ⟨W.heap.size, 0, none⟩ (.int .i64 p.kind)).setCell ⟨W.heap.size, 1, none⟩ (.int .i64 (q + 1))).setCell ⟨W.heap.size, 2, none⟩ (.slice pv p.L.length cv)) (.slice pv p.L.length cv) p.L) := Lib.hid (by
    refine rowK.own_base (rowK.own_local O3.out fun g hg => ST.out.same g (rowK.own_lt O3.out g hg).2 ?_) fun g hg => ?_
    · have := (rowK.own_lt O3.out g hg).1
      have e : w2.drew.heap.size = w2.heap.size := rfl
      omega
    · have := (rowK.own_lt O3.out g hg).1
      have e : w2.drew.heap.size = w2.heap.size := rfl
      omega)
  have P5 : Hid (PpAt (((w3.setCell ⟨W.heap.size, 0, none⟩ (.int .i64 p.kind)).setCell ⟨W.heap.size, 1, none⟩ (.int .i64 (q + 1))).setCell ⟨W.heap.size, 2, none⟩ (.slice pv p.L.length cv)) b br bs bh c p (q + 1)) := Lib.hid ((HA.out.keeps K3.out).only ST.out (by omega) (by omega) (by omega) (by omega))
  have G5 : Hid (Only (fun i => i = b) W (((w3.setCell ⟨W.heap.size, 0, none⟩ (.int .i64 p.kind)).setCell ⟨W.heap.size, 1, none⟩ (.int .i64 (q + 1))).setCell ⟨W.heap.size, 2, none⟩ (.slice pv p.L.length cv))) := Lib.hid (Only.new (HO.out.trans (Only.of_keeps K3.out)) ST.out (Nat.le_refl _))
  clear t0 t1 t2 t3 hz2
  go_wp2
  refine bodyPost_ret (v := .agg #[.int .i64 p.kind, .int .i64 (q + 1), .slice pv p.L.length cv]) (by simp [results, Tryd.results18, go_sem, s0, s1, s2]) rfl ?_
  exact ⟨_, rfl, O5.out, P5.out, G5.out⟩
end Pp
end Go.Proofs.YtkffpmeocfhcpaaDoor
namespace Go.Proofs.YtkffpmeocfhcpaaDoor
open Go.ChangeShapes Go.WideShapes Go.ChangeAt Go.RowKit Ky Rw
namespace Pp
set_option maxHeartbeats 4000000 in
set_option maxRecDepth 100000 in
theorem clone_rows (b : Nat) (es : Array MapEntry) (clock : Nat) (w : World) (hb : w.heap[b]? = some (.map es clock)) :
    Calls Tryd.prog 28 #[.map (some b)] w fun e w' => e = .returned (.map (some w.heap.size)) ∧ w' = w.alloc (.map es clock) := by
  have hq := fun w => run_eql_map_nil_sl (P := Tryd.prog) w tMk _ _ (some b) Tryd.underlying53
  go_enter Tryd.func28, Tryd.ntmps28
  go_wp2
  rw [run_callFunc_extern Tryd.func57 (by kernel_rfl) (by kernel_rfl) (by kernel_rfl) (e := Extern.MapsClone.clone) (by kernel_rfl), run_maps_clone_sl w tMk hb]
  simp only [Result.andThen]
  rw [Oper.upon_value]
  go_wp2
  rw [run_typeAssert_map_sl _ tMk 20 _ _ _ Tryd.underlying53]
  simp only [Result.andThen]
  rw [Oper.upon_value]
  go_wp2
  go_ret
  exact ⟨rfl, rfl⟩
set_option maxHeartbeats 4000000 in
set_option maxRecDepth 100000 in
theorem clone_stocks (b : Nat) (es : Array MapEntry) (clock : Nat) (w : World) (hb : w.heap[b]? = some (.map es clock)) :
    Calls Tryd.prog 29 #[.map (some b)] w fun e w' => e = .returned (.map (some w.heap.size)) ∧ w' = w.alloc (.map es clock) := by
  have hq := fun w => run_eql_map_nil_sl (P := Tryd.prog) w tMg _ _ (some b) Tryd.underlying54
  go_enter Tryd.func29, Tryd.ntmps29
  go_wp2
  rw [run_callFunc_extern Tryd.func57 (by kernel_rfl) (by kernel_rfl) (by kernel_rfl) (e := Extern.MapsClone.clone) (by kernel_rfl), run_maps_clone_sl w tMg hb]
  simp only [Result.andThen]
  rw [Oper.upon_value]
  go_wp2
  rw [run_typeAssert_map_sl _ tMg 20 _ _ _ Tryd.underlying54]
  simp only [Result.andThen]
  rw [Oper.upon_value]
  go_wp2
  go_ret
  exact ⟨rfl, rfl⟩
set_option maxHeartbeats 4000000 in
set_option maxRecDepth 100000 in
theorem clone_held (b : Nat) (es : Array MapEntry) (clock : Nat) (w : World) (hb : w.heap[b]? = some (.map es clock)) :
    Calls Tryd.prog 30 #[.map (some b)] w fun e w' => e = .returned (.map (some w.heap.size)) ∧ w' = w.alloc (.map es clock) := by
  have hq := fun w => run_eql_map_nil_sl (P := Tryd.prog) w tMo _ _ (some b) Tryd.underlying55
  go_enter Tryd.func30, Tryd.ntmps30
  go_wp2
  rw [run_callFunc_extern Tryd.func57 (by kernel_rfl) (by kernel_rfl) (by kernel_rfl) (e := Extern.MapsClone.clone) (by kernel_rfl), run_maps_clone_sl w tMo hb]
  simp only [Result.andThen]
  rw [Oper.upon_value]
  go_wp2
  rw [run_typeAssert_map_sl _ tMo 20 _ _ _ Tryd.underlying55]
  simp only [Result.andThen]
  rw [Oper.upon_value]
  go_wp2
  go_ret
  exact ⟨rfl, rfl⟩
end Pp
end Go.Proofs.YtkffpmeocfhcpaaDoor
namespace Go.Proofs.YtkffpmeocfhcpaaDoor
open Go.ChangeShapes Go.WideShapes Go.ChangeAt Go.RowKit Ky Rw
namespace Pp
theorem pp_new_no (kind stock limit : Int) (W : World) (hk : ¬ (0 ≤ kind ∧ kind ≤ 2)) : Calls Tryd.prog 10 #[.int .i64 kind, .int .i64 stock, .int .i64 limit] W fun e w' => e = .returned (.pointer none) ∧ w' = W := by
  have ck := pp_kind kind W
  rw [decide_eq_false hk] at ck
  go_enter Tryd.func10, Tryd.ntmps10
  go_wp2_with fail
  refine ck.mono ?_
  rintro e w1 ⟨rfl, rfl⟩
  go_wp2
  go_ret
  exact ⟨rfl, rfl⟩
/-- A party of its own, in new memory. -/
structure NewAt (W : World) (p : Pt.P) (e : Ending) (w' : World) : Prop where
  ex : ∃ b br bs bh, e = .returned (.pointer (some ⟨b, 0, none⟩)) ∧ PpAt w' b br bs bh 0 p 0 ∧ W.heap.size ≤ b ∧ W.heap.size ≤ br ∧ W.heap.size ≤ bs ∧ W.heap.size ≤ bh
  keeps : Keeps W w'
theorem new_maps (W : World) (p : Pt.P) (hL : p.L = []) (hG : p.G = []) : Tabs (((W.alloc (.map #[] 0)).alloc (.map #[] 0)).alloc (.map #[] 0)) W.heap.size (W.heap.size + 1) (W.heap.size + 2) 0 p := by
  have k1 := ky_box W (.map #[] 0)
  have k2 := ky_box (W.alloc (.map #[] 0)) (.map #[] 0)
  have k3 := ky_box ((W.alloc (.map #[] 0)).alloc (.map #[] 0)) (.map #[] 0)
  have z1 : (W.alloc (.map #[] 0)).heap.size = W.heap.size + 1 := by simp
  have z2 : ((W.alloc (.map #[] 0)).alloc (.map #[] 0)).heap.size = W.heap.size + 2 := by simp
  have o1 := World.ownsMap_made W Tryd.prog tKy asIs
  have o2 := World.ownsMap_made (W.alloc (.map #[] 0)) Tryd.prog tGo asIs
  have o3 := World.ownsMap_made ((W.alloc (.map #[] 0)).alloc (.map #[] 0)) Tryd.prog 3 asIs
  rw [z1] at o2
  rw [z2] at o3
  refine ⟨⟨0, _, own_map o1 ((k2.trans k3).block _ (by rw [z1]; omega)), Nat.le_refl _, fun o d _ _ => ?_⟩, ⟨0, _, fun _ => none, own_map o2 (k3.block _ (by rw [z2]; omega)), Nat.le_refl _, ⟨fun s _ => at_nil _, fun s m _ e => (by cases e), fun g hg => (by rw [hG] at hg; cases hg)⟩⟩, ⟨0, _, o3, Nat.le_refl _, fun o _ => ?_⟩, by omega, by omega, by omega⟩
  · rw [hL]; exact at_nil _
  · rw [hG]; exact at_nil _
set_option maxHeartbeats 4000000 in
set_option maxRecDepth 100000 in
theorem pp_new (kind stock limit : Int) (W : World) (hk : 0 ≤ kind ∧ kind ≤ 2) : Calls Tryd.prog 10 #[.int .i64 kind, .int .i64 stock, .int .i64 limit] W fun e w' => NewAt W (Pt.newP kind stock limit) e w' := by
  have ck := pp_kind kind W
  rw [decide_eq_true hk] at ck
  have hmm := @run_makeMap Tryd.prog
  have ES : Hid (min (max stock 0) 1000000000 = if stock < 0 then 0 else min stock 1000000000) := Lib.hid (by omega)
  have NM := Lib.hid (new_maps W (Pt.newP kind stock limit) rfl rfl)
  clear hk
  go_enter Tryd.func10, Tryd.ntmps10
  go_wp2_with fail
  refine ck.mono ?_
  rintro e w1 ⟨rfl, rfl⟩
  go_wp2
  go_ret
  have kb := ky_box (((w1.alloc (.map #[] 0)).alloc (.map #[] 0)).alloc (.map #[] 0)) (.cells #[.int .i64 kind, .int .i64 limit, .int .i64 (min (max stock 0) 1000000000), .map (some w1.heap.size), .map (some (w1.heap.size + 1)), .map (some (w1.heap.size + 2)), .int .i64 0] tPp)
  have n0 := heap_alloc_new (((w1.alloc (.map #[] 0)).alloc (.map #[] 0)).alloc (.map #[] 0)) (.cells #[.int .i64 kind, .int .i64 limit, .int .i64 (min (max stock 0) 1000000000), .map (some w1.heap.size), .map (some (w1.heap.size + 1)), .map (some (w1.heap.size + 2)), .int .i64 0] tPp)
  obtain ⟨t1, t2, t3⟩ := NM.out.low
  have kk : Keeps w1 (((w1.alloc (.map #[] 0)).alloc (.map #[] 0)).alloc (.map #[] 0)) := ((ky_box w1 _).trans (ky_box _ _)).trans (ky_box _ _)
  refine ⟨⟨_, _, _, _, rfl, ⟨?_, NM.out.kept (kb.block _ t1) (kb.block _ t2) (kb.block _ t3)⟩, ?_, Nat.le_refl _, Nat.le_succ _, Nat.le_add_right _ 2⟩, kk.trans kb⟩
  · have eo : ppObj (Pt.newP kind stock limit) w1.heap.size (w1.heap.size + 1) (w1.heap.size + 2) 0 = .cells #[.int .i64 kind, .int .i64 limit, .int .i64 (min (max stock 0) 1000000000), .map (some w1.heap.size), .map (some (w1.heap.size + 1)), .map (some (w1.heap.size + 2)), .int .i64 0] tPp (0, 0) := by
      rw [ES.out]; rfl
    have hz : (((w1.alloc (.map #[] 0)).alloc (.map #[] 0)).alloc (.map #[] 0)).heap.size = w1.heap.size + 1 + 1 + 1 := by simp
    rw [hz] at n0
    rw [eo]
    exact n0
  · omega
end Pp
end Go.Proofs.YtkffpmeocfhcpaaDoor
namespace Go.Proofs.YtkffpmeocfhcpaaDoor
open Go.ChangeShapes Go.WideShapes Go.ChangeAt Go.RowKit Ky Rw
namespace Pp
/-- A map's entries, as they lie. -/
theorem map_block {w : World} {P : Program} {k : TypeId} {R : Value → Option (DataW Value × List MemPlace)} {b n : Nat} {D : DataW Value} (h : w.ownsMap P k R b n D) :
    ∃ es clock, w.heap[b]? = some (.map es clock) ∧ ∀ (W : World) (c : Nat), W.heap[c]? = some (.map es clock) → W.ownsMap P k R c n D := by
  obtain ⟨es, clock, hb, F, hs, hD⟩ := h
  exact ⟨es, clock, hb, fun W c hc => ⟨es, clock, hc, F, hs, hD⟩⟩
/-- A party of its own, in new memory, of at most so many entries. -/
structure CopyAt (W : World) (c : Nat) (p : Pt.P) (q : Int) (e : Ending) (w' : World) : Prop where
  ex : ∃ b br bs bh, e = .returned (.pointer (some ⟨b, 0, none⟩)) ∧ PpAt w' b br bs bh c p q ∧ W.heap.size ≤ b ∧ W.heap.size ≤ br ∧ W.heap.size ≤ bs ∧ W.heap.size ≤ bh
  keeps : Keeps W w'
def twoObj (p : Pt.P) (br bs bh : Nat) (q : Int) : Obj := .cells #[.int .i64 p.kind, .int .i64 p.limit, .int .i64 p.stock, .map (some br), .map (some bs), .map (some bh), .int .i64 q] tPp
theorem cell_far {X : World} {g i j b : Nat} (u : Value) (h : b ≠ g) : (X.setCell ⟨g, i, none⟩ u).cell? ⟨b, j, none⟩ = X.cell? ⟨b, j, none⟩ := by
  have e := heap_setCell_other X ⟨g, i, none⟩ b u h
  simp only [World.cell?, e]
theorem pp_copy_none (W : World) : Calls Tryd.prog 12 #[.pointer none] W fun e w' => e = .returned (.pointer none) ∧ w' = W := by
  have CN := Lib.hid (pp_none_nil W)
  go_enter Tryd.func12, Tryd.ntmps12
  go_wp2_with fail
  refine CN.out.mono ?_
  rintro e w1 ⟨rfl, rfl⟩
  go_wp2
  go_ret
  exact ⟨rfl, rfl⟩
theorem pp_copy_zero {W : World} {b : Nat} (h : W.cell? ⟨b, 3, none⟩ = some (.map none)) : Calls Tryd.prog 12 #[.pointer (some ⟨b, 0, none⟩)] W fun e w' => e = .returned (.pointer none) ∧ w' = W := by
  have CN := Lib.hid (pp_none_zero h)
  go_enter Tryd.func12, Tryd.ntmps12
  go_wp2_with fail
  refine CN.out.mono ?_
  rintro e w1 ⟨rfl, rfl⟩
  go_wp2
  go_ret
  exact ⟨rfl, rfl⟩
set_option maxHeartbeats 8000000 in
set_option maxRecDepth 100000 in
theorem pp_copy {W : World} {b br bs bh c : Nat} {p : Pt.P} {q : Int} (h : PpAt W b br bs bh c p q) :
    Calls Tryd.prog 12 #[.pointer (some ⟨b, 0, none⟩)] W fun e w' => CopyAt W c p q e w' := by
  have CN := Lib.hid (pp_none h)
  have NE : b ≠ W.heap.size := Nat.ne_of_lt h.low
  obtain ⟨x0, x1, x2, x3, x4, x5, x6⟩ := h.cells
  obtain ⟨n1, D1, o1, hn1, r1⟩ := h.tabs.rows
  obtain ⟨n2, D2, f, o2, hn2, r2⟩ := h.tabs.stocks
  obtain ⟨n3, D3, o3, hn3, r3⟩ := h.tabs.held
  obtain ⟨es1, k1, hb1, H1⟩ := map_block o1
  obtain ⟨es2, k2, hb2, H2⟩ := map_block o2
  obtain ⟨es3, k3, hb3, H3⟩ := map_block o3
  have l1 := o1.lt
  have l2 := o2.lt
  have l3 := o3.lt
  have HC : Hid (∀ X, Keeps W X → X.cell? ⟨b, 3, none⟩ = some (.map (some br)) ∧ X.cell? ⟨b, 4, none⟩ = some (.map (some bs)) ∧ X.cell? ⟨b, 5, none⟩ = some (.map (some bh))) := Lib.hid fun X k => ⟨(h.keeps k).cells.2.2.2.1, (h.keeps k).cells.2.2.2.2.1, (h.keeps k).cells.2.2.2.2.2.1⟩
  have C1 : Hid (∀ X, Keeps W X → _) := Lib.hid fun X (k : Keeps W X) => clone_rows br es1 k1 X ((k.block br l1).trans hb1)
  have C2 : Hid (∀ X, Keeps W X → _) := Lib.hid fun X (k : Keeps W X) => clone_stocks bs es2 k2 X ((k.block bs l2).trans hb2)
  have C3 : Hid (∀ X, Keeps W X → _) := Lib.hid fun X (k : Keeps W X) => clone_held bh es3 k3 X ((k.block bh l3).trans hb3)
  have TT : Hid (∀ (X : World) (a1 a2 a3 : Nat), a1 ≠ a2 → a1 ≠ a3 → a2 ≠ a3 → X.heap[a1]? = some (.map es1 k1) → X.heap[a2]? = some (.map es2 k2) → X.heap[a3]? = some (.map es3 k3) → Tabs X a1 a2 a3 c p) := Lib.hid fun X a1 a2 a3 d1 d2 d3 g1 g2 g3 => ⟨⟨n1, D1, H1 X a1 g1, hn1, r1⟩, ⟨n2, D2, f, H2 X a2 g2, hn2, r2⟩, ⟨n3, D3, H3 X a3 g3, hn3, r3⟩, d1, d2, d3⟩
  clear h o1 o2 o3 H1 H2 H3 r1 r2 r3 hb1 hb2 hb3 l1 l2 l3 hn1 hn2 hn3
  go_enter Tryd.func12, Tryd.ntmps12
  go_wp2_with fail
  refine CN.out.mono ?_
  rintro e w1 ⟨rfl, rfl⟩
  go_upto_region 4 with fail
  have kA := ky_box w1 (twoObj p br bs bh q)
  have SE := Lib.hid fun X (k : Keeps (w1.alloc (twoObj p br bs bh q)) X) => (show (X.cell? ⟨w1.heap.size, 3, none⟩ = some (.map (some br)) ∧ X.cell? ⟨w1.heap.size, 4, none⟩ = some (.map (some bs)) ∧ X.cell? ⟨w1.heap.size, 5, none⟩ = some (.map (some bh))) ∧ (X.frozen? ⟨w1.heap.size, 3, none⟩ = false ∧ X.frozen? ⟨w1.heap.size, 4, none⟩ = false ∧ X.frozen? ⟨w1.heap.size, 5, none⟩ = false) ∧ X.heap[w1.heap.size]? = some (.cells #[.int .i64 p.kind, .int .i64 p.limit, .int .i64 p.stock, .map (some br), .map (some bs), .map (some bh), .int .i64 q] tPp (0, 0)) from by
    have hX := (k.block w1.heap.size (by simp)).trans (heap_alloc_new w1 _)
    unfold twoObj at hX
    exact ⟨by simp [World.cell?, hX], by simp [World.frozen?, hX], hX⟩)
  have HZ := Lib.hid (show (w1.alloc (twoObj p br bs bh q)).heap.size = w1.heap.size + 1 from by simp)
  unfold twoObj at kA SE HZ
  generalize w1.alloc (.cells #[.int .i64 p.kind, .int .i64 p.limit, .int .i64 p.stock, .map (some br), .map (some bs), .map (some bh), .int .i64 q] tPp) = wA at *
  have KA := Lib.hid kA
  have HC' : Hid (∀ X, Keeps wA X → _) := Lib.hid fun X (k : Keeps wA X) => HC.out X (KA.out.trans k)
  have C1' : Hid (∀ X, Keeps wA X → _) := Lib.hid fun X (k : Keeps wA X) => C1.out X (KA.out.trans k)
  have C2' : Hid (∀ X, Keeps wA X → _) := Lib.hid fun X (k : Keeps wA X) => C2.out X (KA.out.trans k)
  have C3' : Hid (∀ X, Keeps wA X → _) := Lib.hid fun X (k : Keeps wA X) => C3.out X (KA.out.trans k)
  have SX : Hid (∀ (X : World) (i : Nat) (u : Value), (X.cell? ⟨b, 3, none⟩ = some (.map (some br)) ∧ X.cell? ⟨b, 4, none⟩ = some (.map (some bs)) ∧ X.cell? ⟨b, 5, none⟩ = some (.map (some bh))) → ((X.setCell ⟨w1.heap.size, i, none⟩ u).cell? ⟨b, 3, none⟩ = some (.map (some br)) ∧ (X.setCell ⟨w1.heap.size, i, none⟩ u).cell? ⟨b, 4, none⟩ = some (.map (some bs)) ∧ (X.setCell ⟨w1.heap.size, i, none⟩ u).cell? ⟨b, 5, none⟩ = some (.map (some bh)))) := Lib.hid fun X i u k => by
    rw [cell_far u NE, cell_far u NE, cell_far u NE]
    exact k
  clear kA x0 x1 x2 x3 x4 x5 x6 HC C1 C2 C3 CN
  go_region_held3 (fun X => X.cell? ⟨b, 3, none⟩ = some (.map (some br)) ∧ X.cell? ⟨b, 4, none⟩ = some (.map (some bs)) ∧ X.cell? ⟨b, 5, none⟩ = some (.map (some bh)))
    (first | exact HC'.out _ (Keeps.refl _) | exact HC'.out _ (ky_drew _) | exact HC'.out _ K1.out | exact HC'.out _ K2.out | exact HC'.out _ K3.out | exact SX.out _ _ _ (HC'.out _ K3.out) | exact SX.out _ _ _ (SX.out _ _ _ (HC'.out _ K3.out)) | exact SX.out _ _ _ (SX.out _ _ _ (SX.out _ _ _ (HC'.out _ K3.out))) | go_keep) (first
    | (go_at_call 28; refine (C1'.out _ (ky_drew _)).mono ?_; rintro e wa ⟨rfl, hwa⟩; have W1 := Lib.hid hwa; have K1 := Lib.hid (Keeps.trans (ky_drew wA) (Keeps.trans (ky_box _ _) (Keeps.of_eq hwa.symm))); clear hwa)
    | (go_at_call 29; refine (C2'.out _ K1.out).mono ?_; rintro e wb ⟨rfl, hwb⟩; have W2 := Lib.hid hwb; have K2 := Lib.hid (Keeps.trans K1.out (Keeps.trans (ky_box _ _) (Keeps.of_eq hwb.symm))); clear hwb)
    | (go_at_call 30; refine (C3'.out _ K2.out).mono ?_; rintro e wc ⟨rfl, hwc⟩; have W3 := Lib.hid hwc; have K3 := Lib.hid (Keeps.trans K2.out (Keeps.trans (ky_box _ _) (Keeps.of_eq hwc.symm))); obtain ⟨⟨s3, s4, s5⟩, ⟨f3, f4, f5⟩, hz3⟩ := SE.out _ K3.out; have HB3 := Lib.hid hz3; clear hwc hz3))
  go_wp2
  go_ret
  obtain rfl := W1.out
  obtain rfl := W2.out
  obtain rfl := W3.out
  have hz := HZ.out
  have b3 := heap_setCell_same _ w1.heap.size 3 _ _ (.map (some wA.heap.size)) HB3.out
  have b4 := heap_setCell_same _ w1.heap.size 4 _ _ (.map (some (wA.drew.alloc (.map es1 k1)).heap.size)) b3
  have b5 := heap_setCell_same _ w1.heap.size 5 _ _ (.map (some ((wA.drew.alloc (.map es1 k1)).alloc (.map es2 k2)).heap.size)) b4
  have z (W : World) (o : Obj) : (W.alloc o).heap.size = W.heap.size + 1 := by simp
  have z1 : (wA.drew.alloc (.map es1 k1)).heap.size = wA.heap.size + 1 := z _ _
  have z2 : ((wA.drew.alloc (.map es1 k1)).alloc (.map es2 k2)).heap.size = wA.heap.size + 2 := by rw [z, z1]
  have z3 : (((wA.drew.alloc (.map es1 k1)).alloc (.map es2 k2)).alloc (.map es3 k3)).heap.size = wA.heap.size + 3 := by rw [z, z2]
  have m1 := heap_alloc_new wA.drew (.map es1 k1)
  have m2 := heap_alloc_new (wA.drew.alloc (.map es1 k1)) (.map es2 k2)
  have m3 := heap_alloc_new ((wA.drew.alloc (.map es1 k1)).alloc (.map es2 k2)) (.map es3 k3)
  have n2 := ky_box (wA.drew.alloc (.map es1 k1)) (.map es2 k2)
  have n3 := ky_box ((wA.drew.alloc (.map es1 k1)).alloc (.map es2 k2)) (.map es3 k3)
  have e0 : wA.drew.heap.size = wA.heap.size := rfl
  have OZ := ((Only.cell (X := ((wA.drew.alloc (.map es1 k1)).alloc (.map es2 k2)).alloc (.map es3 k3)) (j := w1.heap.size) (o := 3) (.map (some wA.heap.size))).trans (Only.cell (o := 4) (.map (some (wA.drew.alloc (.map es1 k1)).heap.size)))).trans (Only.cell (o := 5) (.map (some ((wA.drew.alloc (.map es1 k1)).alloc (.map es2 k2)).heap.size)))
  refine ⟨⟨w1.heap.size, wA.heap.size, (wA.drew.alloc (.map es1 k1)).heap.size, ((wA.drew.alloc (.map es1 k1)).alloc (.map es2 k2)).heap.size, rfl, ⟨?_, TT.out _ _ _ _ (by omega) (by omega) (by omega) ?_ ?_ ?_⟩, by omega, by omega, by omega, by omega⟩, OZ.keeps (Keeps.trans KA.out K3.out) (fun i hi => by omega)⟩
  · refine b5.trans ?_
    simp [ppObj]
  · refine (OZ.same _ (by omega) (by omega)).trans ?_
    rw [n3.block _ (by omega), n2.block _ (by omega)]
    exact m1
  · refine (OZ.same _ (by omega) (by omega)).trans ?_
    rw [n3.block _ (by omega)]
    exact m2
  · refine (OZ.same _ (by omega) (by omega)).trans ?_
    exact m3
end Pp
end Go.Proofs.YtkffpmeocfhcpaaDoor
namespace Go.Proofs.YtkffpmeocfhcpaaDoor
open Go.ChangeShapes Go.WideShapes Go.ChangeAt Go.RowKit Ky Rw
namespace Pp
/-- A party that is none: no pointer, or one whose rows are none. -/
def NoneAt (W : World) (v : Value) : Prop := v = .pointer none ∨ ∃ b, v = .pointer (some ⟨b, 0, none⟩) ∧ b < W.heap.size ∧ W.cell? ⟨b, 3, none⟩ = some (.map none)
theorem NoneAt.keeps {W X : World} {v : Value} (h : NoneAt W v) (k : Keeps W X) : NoneAt X v := by
  rcases h with rfl | ⟨b, rfl, lt, h3⟩
  · exact Or.inl rfl
  · refine Or.inr ⟨b, rfl, Nat.lt_of_lt_of_le lt k.size, ?_⟩
    rw [← h3]
    simp only [World.cell?, k.block b lt]
theorem NoneAt.call {W : World} {v : Value} (h : NoneAt W v) : Calls Tryd.prog 27 #[v] W fun e w' => e = .returned (.bool true) ∧ w' = W := by
  rcases h with rfl | ⟨b, rfl, lt, h3⟩
  · exact pp_none_nil W
  · exact pp_none_zero h3
theorem pz_copy {W : World} {v : Value} (h : NoneAt W v) : Calls Tryd.prog 12 #[v] W fun e w' => e = .returned (.pointer none) ∧ w' = W := by
  rcases h with rfl | ⟨b, rfl, lt, h3⟩
  · exact pp_copy_none W
  · exact pp_copy_zero h3
theorem pz_rows {W : World} {v : Value} (h : NoneAt W v) : Calls Tryd.prog 15 #[v] W fun e w' => e = .returned (.slice none 0 0) ∧ Keeps W w' := by
  have HK := Lib.hid fun X (k : Keeps W X) => (h.keeps k).call
  have K1 := Lib.hid (fun o => ky_box W o)
  clear h
  go_enter Tryd.func15, Tryd.ntmps15
  go_wp2_with fail
  refine (HK.out _ (by first | exact Keeps.refl _ | exact ky_box _ _)).mono ?_
  rintro e w1 ⟨rfl, rfl⟩
  go_wp2
  go_ret
  exact ⟨rfl, by first | exact Keeps.refl _ | exact ky_box _ _⟩
theorem pz_left {W : World} {v : Value} (h : NoneAt W v) (s : ByteArray) : Calls Tryd.prog 20 #[v, .string s] W fun e w' => e = .returned (.int .i64 0) ∧ w' = W := by
  have HK := Lib.hid h.call
  clear h
  go_enter Tryd.func20, Tryd.ntmps20
  go_wp2_with fail
  refine HK.out.mono ?_
  rintro e w1 ⟨rfl, rfl⟩
  go_wp2
  go_ret
  exact ⟨rfl, rfl⟩
set_option maxHeartbeats 4000000 in
set_option maxRecDepth 100000 in
theorem pz_stmt {W : World} {v : Value} (h : NoneAt W v) : Calls Tryd.prog 18 #[v] W fun e w' => e = .returned noSt ∧ Keeps W w' := by
  have K1 := Lib.hid (ky_box W noStObj)
  have HK := Lib.hid (h.keeps K1.out).call
  have HB := heap_alloc_new W noStObj
  have SE : ((W.alloc noStObj).cell? ⟨W.heap.size, 0, none⟩ = some (.int .i64 0) ∧ (W.alloc noStObj).cell? ⟨W.heap.size, 1, none⟩ = some (.int .i64 0) ∧ (W.alloc noStObj).cell? ⟨W.heap.size, 2, none⟩ = some (.slice none 0 0)) ∧ (W.alloc noStObj).frozen? ⟨W.heap.size, 0, none⟩ = false ∧ (W.alloc noStObj).frozen? ⟨W.heap.size, 1, none⟩ = false ∧ (W.alloc noStObj).frozen? ⟨W.heap.size, 2, none⟩ = false := by
    generalize W.alloc noStObj = X at HB
    unfold noStObj at HB
    exact ⟨by simp [World.cell?, HB], by simp [World.frozen?, HB]⟩
  obtain ⟨⟨s0, s1, s2⟩, f0, f1, f2⟩ := SE
  clear h HB
  go_enter Tryd.func18, Tryd.ntmps18
  go_wp2_with fail
  refine HK.out.mono ?_
  rintro e w1 ⟨rfl, rfl⟩
  go_wp2
  refine bodyPost_ret (v := noSt) (by simp [results, Tryd.results18, go_sem, s0, s1, s2, noSt]) rfl ?_
  exact ⟨rfl, Only.keeps (((Only.cell (j := W.heap.size) (o := 0) _).trans (Only.cell (o := 1) _)).trans (Only.cell (o := 2) _)) K1.out (fun i hi => by omega)⟩
set_option maxHeartbeats 4000000 in
set_option maxRecDepth 100000 in
theorem pz_ask {W : World} {v : Value} (h : NoneAt W v) (m : Pt.M) : Calls Tryd.prog 13 #[v, pmV m] W fun e w' => e = .returned (.tuple #[ansV m none, .bool false]) ∧ Keeps W w' := by
  have K1 := Lib.hid (ky_box W (pmBox m))
  have K2 := Lib.hid (K1.out.trans (ky_box (W.alloc (pmBox m)) noObj))
  have HK := Lib.hid fun X (k : Keeps ((W.alloc (pmBox m)).alloc noObj) X) => (h.keeps (K2.out.trans k)).call
  have HB : Hid (((W.alloc (pmBox m)).alloc noObj).heap[W.heap.size + 1]? = some noObj) := Lib.hid (So.two_alloc W _ _)
  have SEV := Lib.hid fun (X : World) (hX : X.heap[W.heap.size + 1]? = some noObj) => (show (X.cell? ⟨W.heap.size + 1, 0, none⟩ = some (.int .i64 0) ∧ X.cell? ⟨W.heap.size + 1, 1, none⟩ = some (.int .i64 0) ∧ X.cell? ⟨W.heap.size + 1, 2, none⟩ = some (.int .i64 0) ∧ X.cell? ⟨W.heap.size + 1, 3, none⟩ = some (.string ⟨#[]⟩) ∧ X.cell? ⟨W.heap.size + 1, 4, none⟩ = some (.int .i64 0) ∧ X.cell? ⟨W.heap.size + 1, 5, none⟩ = some (.int .i64 0) ∧ X.cell? ⟨W.heap.size + 1, 6, none⟩ = some (.int .i64 0)) ∧
      (∀ i, X.frozen? ⟨W.heap.size + 1, i, none⟩ = false) from by
    refine ⟨by simp [World.cell?, hX, noObj], fun i => by simp [World.frozen?, hX, noObj]⟩)
  clear h
  unfold noObj at *
  unfold pmBox at *
  unfold pmV
  go_enter Tryd.func13, Tryd.ntmps13
  go_upto_region 1 with fail
  go_cut [23] (fun v23 wx => v23 = .bool true ∧ Keeps ((W.alloc (.cells #[.int .i64 m.t, .int .i64 m.o, .int .i64 m.k, .string m.s, .int .i64 m.q, .int .i64 m.a, .int .i64 m.c] tPm)).alloc (.cells #[.int .i64 0, .int .i64 0, .int .i64 0, .string ⟨#[]⟩, .int .i64 0, .int .i64 0, .int .i64 0] tPm)) wx)
  case first =>
    go_wp2_with (go_region_with (first
      | (go_at_call 27; refine (HK.out _ (by first | exact Keeps.refl _ | exact ky_drew _)).mono ?_; rintro e w1 ⟨rfl, rfl⟩)))
    all_goals go_wp2_with fail
    all_goals go_meet
    all_goals first
      | exact ⟨by simp, ky_drew _⟩
      | exact ⟨by simp, Keeps.refl _⟩
  case rest =>
    rename World => wa
    obtain ⟨rfl, ka⟩ := hcut
    have hb1 := (ka.block (W.heap.size + 1) (by simp)).trans HB.out
    obtain ⟨⟨v0, v1, v2, v3, v4, v5, v6⟩, fz⟩ := SEV.out _ hb1
    have KA := Lib.hid (Keeps.trans K2.out ka)
    clear ka hb1
    have f0 := fz 0
    have f1 := fz 1
    have f2 := fz 2
    have f3 := fz 3
    have f4 := fz 4
    have f5 := fz 5
    have f6 := fz 6
    go_wp2
    refine bodyPost_ret (v := .tuple #[.agg #[.int .i64 0, .int .i64 0, .int .i64 0, .string ⟨#[]⟩, .int .i64 0, .int .i64 0, .int .i64 0], .bool false]) (by simp [results, Tryd.results13, go_sem, v0, v1, v2, v3, v4, v5, v6]) rfl ?_
    exact ⟨rfl, Only.keeps (seven_set _ _ _ _ _ _ _ _ _) KA.out (fun i hi => by omega)⟩
end Pp
end Go.Proofs.YtkffpmeocfhcpaaDoor
