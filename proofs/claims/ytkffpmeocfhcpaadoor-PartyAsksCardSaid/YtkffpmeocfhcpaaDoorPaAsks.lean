/- PartyAsks: a row stored into rows of the law's own; the program's party and the document's, side by side. The program's party and the document's: the document's is asked. PartyAsks: the walk. -/
import Derived.Test.YtkffpmeocfhcpaaDoorPtRefS
import Derived.Test.YtkffpmeocfhcpaaDoorPtRefH
import Derived.Test.YtkffpmeocfhcpaaDoorPaOnce
import Derived.Test.YtkffpmeocfhcpaaDoorPtRefA
import Derived.Deep.QuietTactic
import Derived.Deep.RegionHeld3
import Derived.Deep.Cut
import Derived.Deep.LoopGhost
import Derived.Deep.DeepCutAuto
set_option linter.unusedVariables false
namespace Go.Proofs.YtkffpmeocfhcpaaDoor
open Go.ChangeShapes Go.WideShapes Go.ChangeAt Go.RowKit Ky Rw Od
namespace Pa
open Pp
/-- The five stores of a row. -/
def paFive (W : World) (g m : Nat) (x : R) : World := ((((W.setCell ⟨g, m, none⟩ (.int .i64 x.o)).setCell ⟨g, m + 1, none⟩ (.int .i64 x.d)).setCell ⟨g, m + 2, none⟩ (.int .i64 x.c)).setCell ⟨g, m + 3, none⟩ (.int .i64 x.a)).setCell ⟨g, m + 4, none⟩ (.int .i64 x.q)
theorem paFive_keeps {w W : World} (h : Keeps w W) {g m : Nat} (hg : w.heap.size ≤ g) (x : R) : Keeps w (paFive W g m x) :=
  ((((h.setCell (p := ⟨g, m, none⟩) hg _).setCell (p := ⟨g, m + 1, none⟩) hg _).setCell (p := ⟨g, m + 2, none⟩) hg _).setCell (p := ⟨g, m + 3, none⟩) hg _).setCell (p := ⟨g, m + 4, none⟩) hg _
theorem paFive_block {W : World} {g m : Nat} {cs : Array Value} {t : TypeId} (h : W.heap[g]? = some (.cells cs t (0, 0))) (x : R) :
    (paFive W g m x).heap[g]? = some (.cells (((((cs.setIfInBounds m (.int .i64 x.o)).setIfInBounds (m + 1) (.int .i64 x.d)).setIfInBounds (m + 2) (.int .i64 x.c)).setIfInBounds (m + 3) (.int .i64 x.a)).setIfInBounds (m + 4) (.int .i64 x.q)) t (0, 0)) :=
  Joins.block_setCell (Joins.block_setCell (Joins.block_setCell (Joins.block_setCell (Joins.block_setCell h _) _) _) _) _
theorem pa_set5 {B : Nat} {W : World} {g N c i : Nat} {L : List R} {x : R} (h : rowK.Own B W (.slice (some ⟨g, 0, none⟩) N c) L) (hi : i < L.length) :
    rowK.Own B (paFive W g (i * 5) x) (.slice (some ⟨g, 0, none⟩) N c) (L.set i x) := by
  obtain ⟨h1, h2⟩ := h
  refine ⟨rowK.row_len _, ?_⟩
  rcases h2 with ⟨e, _⟩ | ⟨g', cap, cur, e, hb, hg, r1, r2, r3, r4⟩
  · cases e
  · simp only [Value.slice.injEq, Option.some.injEq, Addr.mk.injEq] at e
    obtain ⟨⟨rfl, _, _⟩, rfl, rfl⟩ := e
    right
    refine ⟨g, c, _, by rw [List.length_set], hb, paFive_block hg x, by rw [List.length_set]; exact r1, r2, by simpa using r3, ?_⟩
    have e5 : rowK.sz = 5 := rfl
    rw [e5] at r3 r4 h1
    rw [List.length_set, e5]
    apply List.ext_getElem?
    intro m
    by_cases hm : m < L.length * 5
    · obtain ⟨k, t, rfl, ht⟩ : ∃ k t, m = k * 5 + t ∧ t < 5 := ⟨m / 5, m % 5, by omega, by omega⟩
      have hk : k < L.length := by omega
      have hk2 : k < (L.set i x).length := by rw [List.length_set]; exact hk
      have hx : (L.set i x)[k]? = some (L.set i x)[k] := List.getElem?_eq_getElem hk2
      have hv : (rwVals (L.set i x)[k])[t]? = some ((rwVals (L.set i x)[k])[t]'ht) := List.getElem?_eq_getElem ht
      have R1 := rowK.row_at hx (j := t) (u := (rwVals (L.set i x)[k])[t]'ht) hv
      rw [e5] at R1
      rw [R1, List.getElem?_take_of_lt hm]
      have hcap : L.length * 5 ≤ c * 5 := Nat.mul_le_mul_right 5 r1
      by_cases hki : k = i
      · subst hki
        simp only [Array.toList_setIfInBounds, List.getElem_set_self]
        rcases (show t = 0 ∨ t = 1 ∨ t = 2 ∨ t = 3 ∨ t = 4 from by omega) with rfl | rfl | rfl | rfl | rfl
        all_goals
          simp only [List.getElem?_set, List.length_set, Array.length_toList, r3, rwVals]
          simp (config := {arith := true})
          try omega
      · have hne : ∀ u, u < 5 → ¬ (i * 5 + u = k * 5 + t) := fun u hu e => hki (by omega)
        have h0 : ¬ (i * 5 = k * 5 + t) := hne 0 (by omega)
        have hxk : (L.set i x)[k] = L[k] := by rw [List.getElem_set_ne (fun e => hki e.symm)]
        have R0 := rowK.row_at (List.getElem?_eq_getElem hk) (j := t) (u := (rwVals L[k])[t]'ht) (List.getElem?_eq_getElem ht)
        rw [e5, ← r4, List.getElem?_take_of_lt hm] at R0
        simp only [Array.toList_setIfInBounds, List.getElem?_set, h0, hne 1 (by omega), hne 2 (by omega), hne 3 (by omega), hne 4 (by omega), if_false]
        rw [R0]
        simp only [hxk]
        rfl
    · rw [List.getElem?_eq_none (by rw [List.length_take]; omega), List.getElem?_eq_none (by rw [rowK.row_len, List.length_set, e5]; omega)]
theorem tag_apart {X : World} {b br bs bh c rb : Nat} {p p' : Pt.P} {q q' : Int} (h : PpAt X b br bs bh c p q) (g : RefP X rb p' q') : rb ≠ b ∧ rb ≠ br ∧ rb ≠ bs ∧ rb ≠ bh := by
  obtain ⟨vL, vG, e, _⟩ := g
  obtain ⟨n1, D1, ⟨es1, k1, g1, _⟩, _⟩ := h.tabs.rows
  obtain ⟨n2, D2, f, ⟨es2, k2, g2, _⟩, _⟩ := h.tabs.stocks
  obtain ⟨n3, D3, ⟨es3, k3, g3, _⟩, _⟩ := h.tabs.held
  refine ⟨?_, ?_, ?_, ?_⟩
  · rintro rfl
    rw [h.box] at e
    unfold ppObj at e
    simp only [Option.some.injEq, Obj.cells.injEq] at e
    exact absurd e.2.1 (by decide)
  · rintro rfl; rw [g1] at e; cases e
  · rintro rfl; rw [g2] at e; cases e
  · rintro rfl; rw [g3] at e; cases e
theorem tag_three {X : World} {b br bs bh c : Nat} {p : Pt.P} {q : Int} (h : PpAt X b br bs bh c p q) : ∀ i cs, X.heap[i]? = some (.cells cs tRw (0, 0)) ∨ X.heap[i]? = some (.cells cs tGd (0, 0)) → ¬ three br bs bh i := by
  obtain ⟨n1, D1, ⟨es1, k1, g1, _⟩, _⟩ := h.tabs.rows
  obtain ⟨n2, D2, f, ⟨es2, k2, g2, _⟩, _⟩ := h.tabs.stocks
  obtain ⟨n3, D3, ⟨es3, k3, g3, _⟩, _⟩ := h.tabs.held
  rintro i cs hi (rfl | rfl | rfl)
  · rw [g1] at hi; rcases hi with hi | hi <;> cases hi
  · rw [g2] at hi; rcases hi with hi | hi <;> cases hi
  · rw [g3] at hi; rcases hi with hi | hi <;> cases hi
theorem tag_one {X : World} {b br bs bh c : Nat} {p : Pt.P} {q : Int} (h : PpAt X b br bs bh c p q) : ∀ i cs, X.heap[i]? = some (.cells cs tRw (0, 0)) ∨ X.heap[i]? = some (.cells cs tGd (0, 0)) → ¬ (i = b) := by
  rintro i cs hi rfl
  rw [h.box] at hi
  unfold ppObj at hi
  rcases hi with hi | hi <;> (simp only [Option.some.injEq, Obj.cells.injEq] at hi; exact absurd hi.2.1 (by decide))
/-- The program's party and the document's. -/
structure Both (B : Nat) (W : World) (b br bs bh c : Nat) (p : Pt.P) (q : Int) (rb : Nat) (p' : Pt.P) (q' : Int) : Prop where
  one : Own B W b br bs bh c p q
  ref : RefP W rb p' q'
  lb : B ≤ rb
section
variable {B b br bs bh c rb : Nat} {p p' : Pt.P} {q q' : Int} {W X : World}
theorem Both.keeps (h : Both B W b br bs bh c p q rb p' q') (k : Keeps W X) : Both B X b br bs bh c p q rb p' q' := ⟨h.one.keeps k, h.ref.keeps k, h.lb⟩
theorem Both.ask1 (h : Both B W b br bs bh c p q rb p' q') (hp : HasP W) (hc : c < 100000) (m : Pt.M) (hs : m.s.size ≤ maxLen) :
    Calls Tryd.prog 13 #[.pointer (some ⟨b, 0, none⟩), pmV m] W fun e w' => e = .returned (.tuple #[ansV m (Pt.ask p m).2, .bool (Pt.ask p m).2.isSome]) ∧ Both B w' b br bs bh (c + 4) (Pt.ask p m).1 q rb p' q' ∧ Only (three br bs bh) W w' :=
  (h.one.ask hp hc m hs).mono fun e w' ⟨h1, h2, h3⟩ => by
    obtain ⟨n0, n1, n2, n3⟩ := tag_apart h.one.at_ h.ref
    exact ⟨h1, ⟨h2, Pt.ref_off h.ref h3 (by unfold three; omega) (tag_three h.one.at_), h.lb⟩, h3⟩
theorem Both.stm1 (h : Both B W b br bs bh c p q rb p' q') (hc : c ≤ 1000000) (h0 : 0 ≤ q) (hq : q < 1073741824) :
    Calls Tryd.prog 18 #[.pointer (some ⟨b, 0, none⟩)] W fun e w' => ∃ v, e = .returned (.agg #[.int .i64 p.kind, .int .i64 (q + 1), v]) ∧ rowK.Own W.heap.size w' v p.L ∧ Both B w' b br bs bh c p (q + 1) rb p' q' ∧ Only (fun i => i = b) W w' :=
  (pp_stmt h.one.at_ h.one.inv hc h0 hq).mono fun e w' ⟨v, h1, h2, h3, h4⟩ => by
    obtain ⟨n0, n1, n2, n3⟩ := tag_apart h.one.at_ h.ref
    exact ⟨v, h1, h2, ⟨⟨h3, h.one.inv, h.one.lb, h.one.lr, h.one.ls, h.one.lh⟩, Pt.ref_off h.ref h4 n0 (tag_one h.one.at_), h.lb⟩, h4⟩
theorem Both.stm2 (h : Both B W b br bs bh c p q rb p' q') (hl : p'.L.length ≤ 400) (h0 : 0 ≤ q') (hq : q' < 1073741824) :
    Calls Tryd.prog 19 #[.pointer (some ⟨rb, 0, none⟩)] W fun e w' => ∃ v, e = .returned (.agg #[.int .i64 p'.kind, .int .i64 (q' + 1), v]) ∧ rowK.Own W.heap.size w' v p'.L ∧ Both B w' b br bs bh c p q rb p' (q' + 1) ∧ Only (fun i => i = rb) W w' :=
  (Pt.rp_stmt rb p' q' W h.ref hl h0 hq).mono fun e w' ⟨v, h1, h2, h3, h4⟩ => by
    obtain ⟨n0, n1, n2, n3⟩ := tag_apart h.one.at_ h.ref
    exact ⟨v, h1, h2, ⟨h.one.only h4 (fun e => n0 e.symm) (fun e => n1 e.symm) (fun e => n2 e.symm) (fun e => n3 e.symm), h3, h.lb⟩, h4⟩
/-- Where the document's rows are read. -/
theorem Both.rows (h : Both B W b br bs bh c p q rb p' q') (hl : p'.L.length ≤ 400) : ∃ pl cl, (∀ X, Keeps W X → X.cell? ⟨rb, 3, none⟩ = some (.slice pl p'.L.length cl)) ∧ ∀ X, Keeps W X → RowsIn X (.slice pl p'.L.length cl) p'.L := by
  obtain ⟨vL, vG, e, hL, _⟩ := h.ref
  obtain ⟨pl, cl, rfl⟩ := rowK.own_shape hL
  exact ⟨pl, cl, fun X k => (six_at (Pt.box_keep e k)).1.2.2.2.1, fun X k => own_rows (rowK.own_keeps hL k) (by omega)⟩
end
theorem check_nm (s : ByteArray) : (Od.checkO 1 rS s 1 1 = 0) ↔ nmB s = true := by
  rw [Od.check_fit, nmB_iff]
  constructor
  · intro h
    exact ⟨h.s0, h.s1, h.ns⟩
  · intro h
    refine ⟨by decide, by decide, by decide, by decide, by decide, by decide, by decide, h.some_, by decide, h.few, by decide +kernel, h.ok⟩
set_option maxHeartbeats 4000000 in
set_option maxRecDepth 100000 in
theorem la_left (rb : Nat) (p : Pt.P) (q : Int) (s : ByteArray) (W : World) (h : RefP W rb p q) (hi : Pt.Inv p) (hs : s.size ≤ maxLen) :
    Calls Tryd.prog 21 #[.pointer (some ⟨rb, 0, none⟩), .string s] W fun e w' => e = .returned (.int .i64 (leftV p s)) ∧ Keeps W w' := by
  have y0 : W.cell? ⟨rb, 0, none⟩ = some (.int .i64 p.kind) := by
    obtain ⟨vL, vG, hb, _⟩ := h
    exact (six_at hb).1.1
  by_cases hk : p.kind = 1
  · have CC := Lib.hid (or_check 1 rS s 1 1 W r_size hs)
    have CN := Lib.hid (check_nm s)
    rw [hk] at y0
    obtain ⟨u, hu⟩ : ∃ u, Od.checkO 1 rS s 1 1 = u := ⟨_, rfl⟩
    rw [hu] at CC CN
    unfold odV rS at CC
    cases hn : nmB s with
    | true =>
      obtain rfl : u = 0 := CN.out.2 hn
      have E : Hid (leftV p s = Pt.left p s) := Lib.hid (by unfold leftV; rw [if_pos ⟨hk, hn⟩])
      have CL := Lib.hid fun (X : World) (k : Keeps W X) => rp_left rb p q s X (h.keeps k) hi
      generalize leftV p s = r at E ⊢
      clear hu hk hn h hi CN
      go_enter Tryd.func21, Tryd.ntmps21
      go_wp2_with fail
      refine CC.out.mono ?_
      rintro e w1 ⟨rfl, k1⟩
      have K1 := Lib.hid k1
      clear k1
      go_wp2_with fail
      refine (CL.out _ K1.out).mono ?_
      rintro e w2 ⟨rfl, rfl⟩
      go_wp2
      go_ret
      exact ⟨by rw [E.out]; rfl, K1.out⟩
    | false =>
      have hu0 : u ≠ 0 := fun e => by
        have := CN.out.1 e
        rw [hn] at this; cases this
      have hub : (u != 0) = true := by simpa using hu0
      have E : Hid (leftV p s = 0) := Lib.hid (by unfold leftV; rw [if_neg (fun e => by rw [hn] at e; exact Bool.false_ne_true e.2)])
      generalize leftV p s = r at E ⊢
      clear hu hk hn h hi CN
      go_enter Tryd.func21, Tryd.ntmps21
      go_wp2_with fail
      refine CC.out.mono ?_
      rintro e w1 ⟨rfl, k1⟩
      have K1 := Lib.hid k1
      clear k1
      go_wp2
      go_ret
      exact ⟨by rw [E.out]; rfl, K1.out⟩
  · have E : Hid (leftV p s = 0) := Lib.hid (by unfold leftV; rw [if_neg (fun e => hk e.1)])
    generalize leftV p s = r at E ⊢
    have hkb : (p.kind != 1) = true := by simpa using hk
    clear h hk hi
    go_enter Tryd.func21, Tryd.ntmps21
    go_wp2
    go_ret
    exact ⟨by rw [E.out]; rfl, Keeps.refl _⟩
end Pa
end Go.Proofs.YtkffpmeocfhcpaaDoor
namespace Go.Proofs.YtkffpmeocfhcpaaDoor
open Go.ChangeShapes Go.WideShapes Go.ChangeAt Go.RowKit Ky Rw Od
namespace Pa
open Pp
section
variable {B b br bs bh c rb : Nat} {p p' : Pt.P} {q q' : Int} {W X : World}
theorem Both.ask2 (h : Both B W b br bs bh c p q rb p' q') (hi : Pt.Inv p') (m : Pt.M) (hs : m.s.size ≤ maxLen) :
    Calls Tryd.prog 14 #[.pointer (some ⟨rb, 0, none⟩), pmV m] W fun e w' => e = .returned (.tuple #[ansV m (Pt.ask p' m).2, .bool (Pt.ask p' m).2.isSome]) ∧ Both B w' b br bs bh c p q rb (Pt.ask p' m).1 q' ∧ Only (fun i => i = rb) W w' :=
  (Pt.rp_ask rb p' q' m W h.ref hi hs).mono fun e w' ⟨h1, h2, h3⟩ => by
    obtain ⟨n0, n1, n2, n3⟩ := tag_apart h.one.at_ h.ref
    exact ⟨h1, ⟨h.one.only h3 (fun e => n0 e.symm) (fun e => n1 e.symm) (fun e => n2 e.symm) (fun e => n3 e.symm), h2, h.lb⟩, h3⟩
end
end Pa
end Go.Proofs.YtkffpmeocfhcpaaDoor
namespace Go.Proofs.YtkffpmeocfhcpaaDoor
open Go.ChangeShapes Go.WideShapes Go.ChangeAt Go.RowKit Ky Rw Od
namespace Pa
open Pp
theorem step_num {z g n : Nat} (h : z + (g + 1) = n) : z + 1 + g = n := by omega
set_option maxHeartbeats 16000000 in
set_option maxRecDepth 100000 in
theorem partyAsks_go (kind stock limit : Int) (v : Value) (L : List Pt.M) (S : ByteArray) (w : World) (hp : HasP w) (hv : MsgsAt w v L) (hS : S.size ≤ maxLen) :
    Calls Tryd.prog 3 #[fmV kind stock limit, v, .string S] w fun e w' => e = .returned (.bool true) ∧ Keeps w w' := by
  obtain ⟨wb, hwb⟩ : ∃ wb, w.alloc (fmBox kind stock limit) = wb := ⟨_, rfl⟩
  have KW := Lib.hid (show Keeps w wb from hwb ▸ ky_box w (fmBox kind stock limit))
  have BX := Lib.hid (show ∀ X, Keeps wb X → X.cell? ⟨w.heap.size, 0, none⟩ = some (.int .i64 kind) ∧ X.cell? ⟨w.heap.size, 1, none⟩ = some (.int .i64 stock) ∧ X.cell? ⟨w.heap.size, 2, none⟩ = some (.int .i64 limit) from fun X k => fm_cells w kind stock limit X (hwb ▸ k))
  have HP : Hid (∀ X, Keeps wb X → HasP X) := Lib.hid fun X k => hp.keeps (KW.out.trans k)
  have AS : Hid (∀ X, Keeps wb X → Calls Tryd.prog 9 #[] X fun e w' => e = .returned (.bool true) ∧ Keeps wb w') := Lib.hid fun X k => (la_asked X (HP.out X k)).mono fun e w' h => ⟨h.1, k.trans h.2⟩
  have HV : Hid (∀ X, Keeps wb X → MsgsAt X v L) := Lib.hid fun X k => hv.keeps (KW.out.trans k)
  have GR := Lib.hid (la_great v L 80 wb (HV.out wb (Keeps.refl _)))
  obtain ⟨gb, hgb⟩ : ∃ gb, greatP L 80 = gb := ⟨_, rfl⟩
  rw [hgb] at GR
  obtain ⟨pl, cl, rfl, hmx, _⟩ := hv
  obtain ⟨N, hN⟩ : ∃ N, L.length = N := ⟨_, rfl⟩
  rw [hN] at GR HV ⊢
  have HN := Lib.hid hN
  have HW := Lib.hid hwb
  clear hmx hN hwb hp
  unfold fmBox at HW
  unfold fmV
  go_enter Tryd.func3, Tryd.ntmps3
  go_wp2_with fail
  rw [HW.out]
  clear HW
  refine GR.out.mono ?_
  rintro e wg ⟨rfl, kg⟩
  have KG := Lib.hid kg
  clear kg GR
  by_cases hbad : gb = true ∨ (50 : Int) < (S.size : Int)
  · rcases hbad with rfl | hl
    · go_wp2_with fail
      refine (AS.out _ KG.out).mono ?_
      rintro e w2 ⟨rfl, k2⟩
      have K2 := Lib.hid k2
      clear k2
      go_wp2
      go_ret
      exact ⟨rfl, Keeps.trans KW.out K2.out⟩
    · cases gb
      all_goals
        go_wp2_with fail
        refine (AS.out _ KG.out).mono ?_
        rintro e w2 ⟨rfl, k2⟩
        have K2 := Lib.hid k2
        clear k2
        go_wp2
        go_ret
        exact ⟨rfl, Keeps.trans KW.out K2.out⟩
  · obtain ⟨hg0, hl0⟩ := not_or.1 hbad
    obtain rfl : gb = false := by cases gb <;> simp_all
    have hS50 : ¬ (50 : Int) < (S.size : Int) := hl0
    have NG := Lib.hid (great_no hgb)
    have hN80 : N ≤ 80 := by have := NG.out.2; rw [HN.out] at this; omega
    clear hgb hbad hg0
    obtain ⟨x0, x1, x2⟩ := BX.out _ KG.out
    by_cases hk : 0 ≤ kind ∧ kind ≤ 2
    · go_wp2_with fail
      refine (pp_new kind stock limit wg hk).mono ?_
      rintro e w0 hn
      obtain ⟨b, br, bs, bh, rfl, h, k0⟩ := own_new hn hk.1 hk.2
      have H0 := Lib.hid (own_low h KG.out.size)
      have K0 := Lib.hid (Keeps.trans KG.out k0)
      clear hn h k0 x0 x1 x2
      obtain ⟨x0, x1, x2⟩ := BX.out _ K0.out
      go_wp2_with fail
      refine (rp_new kind stock limit w0).mono ?_
      rintro e w1 hn
      rcases hn with ⟨hno, _⟩ | ⟨_, rfl, hr, k1⟩
      · exact absurd hk hno
      have T1 := Lib.hid (show Both wb.heap.size w1 b br bs bh 0 (Pt.newP kind stock limit) 0 w0.heap.size (Pt.newP kind stock limit) 0 from ⟨H0.out.keeps k1, hr, K0.out.size⟩)
      have K1 := Lib.hid (Keeps.trans K0.out k1)
      obtain ⟨rb, hrb⟩ : ∃ rb, w0.heap.size = rb := ⟨_, rfl⟩
      obtain ⟨p0, hp0⟩ : ∃ p0, Pt.newP kind stock limit = p0 := ⟨_, rfl⟩
      rw [hrb, hp0] at T1
      rw [hrb]
      clear hr k1 hp0 H0 x0 x1 x2 hrb K0
      go_wp2_with fail
      go_loopg [9] N (fun g v9 W => ∃ (k c : Nat) (q : Nat), k + g = N ∧ v9 = .int .i64 (k : Int) ∧ c ≤ 4 * k ∧ q ≤ k ∧ Both wb.heap.size W b br bs bh c (Pt.askL p0 (L.take k)) (q : Int) rb (Pt.askL p0 (L.take k)) (q : Int) ∧ Keeps wb W)
      case atStart => exact ⟨0, 0, 0, by omega, rfl, by omega, by omega, T1.out, K1.out⟩
      case round =>
        obtain ⟨k, c, q, hkg, rfl, hc, hq, ht, hkr⟩ := hrel
        have HKG := Lib.hid hkg
        obtain ⟨p, hpe⟩ : ∃ p, Pt.askL p0 (L.take k) = p := ⟨_, rfl⟩
        rw [hpe] at ht
        have TW := Lib.hid ht
        have HKR := Lib.hid hkr
        clear T1 K1 hkg ht hkr
        cases gk with
        | zero =>
          obtain rfl : k = N := by have := HKG.out; omega
          have hz : ¬ ((k : Int) < (k : Int)) := by omega
          have PI := Lib.hid TW.out.one.inv
          have FW : Hid (p.L.length ≤ 120) := Lib.hid PI.out.few
          obtain ⟨pr, cr, rc, ri⟩ := TW.out.rows (by have := FW.out; omega)
          obtain ⟨n, hn⟩ : ∃ n, p.L.length = n := ⟨_, rfl⟩
          have CR : Hid (∀ X, Keeps wr X → Calls Tryd.prog 15 #[.pointer (some ⟨b, 0, none⟩)] X fun e w' => (∃ pm cm, e = .returned (.slice pm n cm) ∧ rowK.Own X.heap.size w' (.slice pm n cm) p.L) ∧ Keeps X w') := Lib.hid fun X kX =>
            (pp_rows (TW.out.one.keeps kX).at_ PI.out (by omega)).mono fun e w' h => by
              obtain ⟨v1, rfl, h1, k1⟩ := h
              obtain ⟨pm, cm, rfl⟩ := rowK.own_shape h1
              rw [hn] at h1 ⊢
              exact ⟨⟨pm, cm, rfl, h1⟩, k1⟩
          rw [hn] at rc ri
          have RC := Lib.hid rc
          have CS : Hid (∀ X B pm cm, rowK.Own B X (.slice pm n cm) p.L → Keeps wr X → Calls Tryd.prog 16 #[.slice pm n cm, .slice pr n cr] X fun e w' => e = .returned (.bool true) ∧ Keeps X w') := Lib.hid fun X B pm cm h kX => by
            have c := la_same (own_rows h (by have := FW.out; omega)) (ri X kX)
            rw [show decide (p.L = p.L) = true from decide_eq_true rfl] at c
            exact c
          have CK : Hid (∀ X, Keeps wr X → Calls Tryd.prog 9 #[] X fun e w' => e = .returned (.bool true) ∧ Keeps X w') := Lib.hid fun X kX => la_asked X (HP.out X (Keeps.trans HKR.out kX))
          clear rc ri hn
          go_upto_region 25 with (fail)
          have HX := Lib.hid (Keeps.refl wr)
          have y3 := RC.out _ HX.out
          go_region_held3 (fun X => X.cell? ⟨rb, 3, none⟩ = some (.slice pr n cr))
            (first | exact RC.out _ HX.out | exact RC.out _ (HX.out.trans (ky_drew _)) | assumption)
            (first
            | (go_at_call 15; refine (CR.out _ (by first | exact HX.out | exact HX.out.trans (ky_drew _))).mono ?_; rintro e wv ⟨⟨pm, cm, rfl, om⟩, hv⟩; have OM := Lib.hid om; have HX2 := Lib.hid (HX.out.trans (Keeps.trans (by first | exact Keeps.refl _ | exact ky_drew _) hv)); clear HX CR hv om; have HX := Lib.hid HX2.out; clear HX2; have zv := RC.out _ HX.out)
            | (go_at_call 16; refine (CS.out _ _ _ _ (rowK.own_keeps OM.out (by first | exact Keeps.refl _ | exact ky_drew _)) (by first | exact HX.out | exact HX.out.trans (ky_drew _))).mono ?_; rintro e wx ⟨rfl, hv⟩; have HX2 := Lib.hid (HX.out.trans (Keeps.trans (by first | exact Keeps.refl _ | exact ky_drew _) hv)); clear HX CS hv; have HX := Lib.hid HX2.out; clear HX2; have zx := RC.out _ HX.out)
            | (go_at_call 9; refine (CK.out _ (by first | exact HX.out | exact HX.out.trans (ky_drew _))).mono ?_; rintro e wy ⟨rfl, hv⟩; have HX2 := Lib.hid (HX.out.trans (Keeps.trans (by first | exact Keeps.refl _ | exact ky_drew _) hv)); clear HX CK hv; have HX := Lib.hid HX2.out; clear HX2; have zy := RC.out _ HX.out))
          go_wp2
          go_ret
          exact ⟨rfl, Keeps.trans KW.out (Keeps.trans HKR.out HX.out)⟩
        | succ g =>
          have hlt : k < N := by have := HKG.out; omega
          obtain ⟨x, hx⟩ : ∃ x, L[k]? = some x := ⟨_, List.getElem?_eq_getElem (by have := HN.out; omega)⟩
          have xs50 := NG.out.1 x (List.mem_of_getElem? hx)
          have hxs : x.s.size ≤ maxLen := by unfold maxLen; omega
          obtain ⟨y, hy⟩ : ∃ y, L[N - 1 - k]? = some y := ⟨_, List.getElem?_eq_getElem (by have := HN.out; omega)⟩
          have ys50 := NG.out.1 y (List.mem_of_getElem? hy)
          have hys : y.s.size ≤ maxLen := by unfold maxLen; omega
          obtain ⟨ad, rfl, gm⟩ := msg_here HV.out HN.out hx
          have GM := Lib.hid gm
          have GY : Hid (∀ X, Keeps wb X → MsgAt X (ad.add ((N - 1 - k) * 7)) y) := Lib.hid (by
            obtain ⟨ad', e, g'⟩ := msg_here HV.out HN.out hy
            cases e
            exact g')
          obtain ⟨p', o, hpo⟩ : ∃ p' o, Pt.ask p x = (p', o) := ⟨_, _, rfl⟩
          have EP : Hid (p' = Pt.askL p0 (L.take (k + 1))) := Lib.hid (by
            have e : (Pt.ask p x).1 = p' := by rw [hpo]
            rw [← e, ← hpe]; exact askL_next hx)
          have E1 := Lib.hid hpo
          obtain ⟨t, i, kk, cc, hans⟩ := ans_shape x o
          obtain ⟨okb, hok⟩ : ∃ okb, o.isSome = okb := ⟨_, rfl⟩
          have CA : Hid (∀ (X : World), Both wb.heap.size X b br bs bh c p (q : Int) rb p (q : Int) → Keeps wb X →
              Calls Tryd.prog 13 #[.pointer (some ⟨b, 0, none⟩), .agg #[.int .i64 x.t, .int .i64 x.o, .int .i64 x.k, .string x.s, .int .i64 x.q, .int .i64 x.a, .int .i64 x.c]] X fun e w' => e = .returned (.tuple #[.agg #[.int .i64 t, .int .i64 i, .int .i64 kk, .string ⟨#[]⟩, .int .i64 0, .int .i64 0, .int .i64 cc], .bool okb]) ∧ Both wb.heap.size w' b br bs bh (c + 4) p' (q : Int) rb p (q : Int) ∧ Keeps wb w') := Lib.hid fun X h kX => by
            have := h.ask1 (HP.out X kX) (by omega) x hxs
            rw [E1.out, hans, hok] at this
            exact this.mono fun e w' ⟨h1, h2, h3⟩ => ⟨h1, h2, h3.keeps kX h2.one.three⟩
          have CB : Hid (∀ (X : World), Both wb.heap.size X b br bs bh (c + 4) p' (q : Int) rb p (q : Int) → Pt.Inv p → Keeps wb X →
              Calls Tryd.prog 14 #[.pointer (some ⟨rb, 0, none⟩), .agg #[.int .i64 x.t, .int .i64 x.o, .int .i64 x.k, .string x.s, .int .i64 x.q, .int .i64 x.a, .int .i64 x.c]] X fun e w' => e = .returned (.tuple #[.agg #[.int .i64 t, .int .i64 i, .int .i64 kk, .string ⟨#[]⟩, .int .i64 0, .int .i64 0, .int .i64 cc], .bool okb]) ∧ Both wb.heap.size w' b br bs bh (c + 4) p' (q : Int) rb p' (q : Int) ∧ Only (fun i => i = rb) X w' ∧ Keeps wb w') := Lib.hid fun X h hi kX => by
            have := h.ask2 hi x hxs
            rw [E1.out, hans, hok] at this
            exact this.mono fun e w' ⟨h1, h2, h3⟩ => ⟨h1, h2, h3, h3.keeps kX (fun i hi => by rw [hi]; exact h.lb)⟩
          have PI := Lib.hid TW.out.one.inv
          have hi1 : (k : Int) < (N : Int) := by omega
          have hi0 : (0 : Int) ≤ (k : Int) := by omega
          clear gm hx hy hpo hans hok hpe
          go_wp2_with fail
          refine (pp_copy TW.out.one.at_).mono ?_
          rintro e w1 hn
          obtain ⟨b2, r2, s2, h2, rfl, h, k1⟩ := own_copy hn PI.out
          have O1 := Lib.hid h
          have T1 := Lib.hid (TW.out.keeps k1)
          have K1 := Lib.hid (Keeps.trans HKR.out k1)
          have L1 := Lib.hid (show wr.heap.size ≤ w1.heap.size from k1.size)
          have KR1 := Lib.hid k1
          clear h hn k1
          obtain ⟨q0, q1, q2, q3, q4, q5, q6⟩ := GY.out _ K1.out
          go_wp2_with fail
          refine (O1.out.ask (HP.out _ K1.out) (by omega) y hys).mono ?_
          rintro e w2 ⟨rfl, _, g2⟩
          have KR2 := Lib.hid (g2.keeps KR1.out O1.out.three)
          have T2 := Lib.hid (TW.out.keeps KR2.out)
          have K2 := Lib.hid (Keeps.trans HKR.out KR2.out)
          clear g2 q0 q1 q2 q3 q4 q5 q6
          obtain ⟨q0, q1, q2, q3, q4, q5, q6⟩ := GM.out _ K2.out
          go_wp2_with fail
          refine (CA.out _ T2.out K2.out).mono ?_
          rintro e w3 ⟨rfl, h3, k3⟩
          obtain ⟨w4, hw4⟩ : ∃ w4, w3.alloc (ansBox t i kk cc) = w4 := ⟨_, rfl⟩
          have K4 := Lib.hid (show Keeps wb w4 from hw4 ▸ Keeps.trans k3 (ky_box _ _))
          have T4 := Lib.hid (show Both wb.heap.size w4 b br bs bh (c + 4) p' (q : Int) rb p (q : Int) from hw4 ▸ h3.keeps (ky_box _ _))
          have A4 := Lib.hid (show w4.heap[w3.heap.size]? = some (ansBox t i kk cc) from hw4 ▸ heap_alloc_new w3 _)
          have F4 : Hid (¬ (w3.heap.size = rb)) := Lib.hid (by
            obtain ⟨_, _, e, _⟩ := h3.ref
            have := box_lt e
            omega)
          have e4 := GM.out _ K4.out
          rw [← hw4] at e4
          obtain ⟨q0', q1', q2', q3', q4', q5', q6'⟩ := e4
          have EW4 := Lib.hid hw4
          clear h3 k3 hw4 q0 q1 q2 q3 q4 q5 q6
          unfold ansBox at q0' q1' q2' q3' q4' q5' q6' EW4
          go_wp2_with fail
          rw [EW4.out]
          clear EW4 q0' q1' q2' q3' q4' q5' q6'
          refine (CB.out _ T4.out PI.out K4.out).mono ?_
          rintro e w5 ⟨rfl, h5, g5, k5⟩
          have A5 := Lib.hid (box_only A4.out g5 F4.out)
          obtain ⟨w6, hw6⟩ : ∃ w6, w5.alloc (ansBox t i kk cc) = w6 := ⟨_, rfl⟩
          have K6 := Lib.hid (show Keeps wb w6 from hw6 ▸ Keeps.trans k5 (ky_box _ _))
          have T6 := Lib.hid (show Both wb.heap.size w6 b br bs bh (c + 4) p' (q : Int) rb p' (q : Int) from hw6 ▸ h5.keeps (ky_box _ _))
          have A6 := Lib.hid (show w6.heap[w3.heap.size]? = some (ansBox t i kk cc) from hw6 ▸ box_keeps A5.out (ky_box _ _))
          have B6 := Lib.hid (show w6.heap[w5.heap.size]? = some (ansBox t i kk cc) from hw6 ▸ heap_alloc_new w5 _)
          have EW6 := Lib.hid hw6
          clear h5 g5 k5 hw6 A5
          unfold ansBox at EW6
          go_wp2_with fail
          rw [EW6.out]
          clear EW6
          have FW : Hid (p'.L.length ≤ 120) := Lib.hid T6.out.one.inv.few
          refine (pp_rows T6.out.one.at_ T6.out.one.inv (by omega)).mono ?_
          rintro e w7 ⟨v7, rfl, h7, k7⟩
          obtain ⟨pm, cm, rfl⟩ := rowK.own_shape h7
          have T7 := Lib.hid (T6.out.keeps k7)
          obtain ⟨pr, cr, rc, ri⟩ := T7.out.rows (by have := FW.out; omega)
          have SM := la_same (own_rows h7 (by have := FW.out; omega)) (ri _ (Keeps.refl _))
          rw [show decide (p'.L = p'.L) = true from decide_eq_true rfl] at SM
          have y3 := rc _ (Keeps.refl _)
          obtain ⟨n, hn⟩ : ∃ n, p'.L.length = n := ⟨_, rfl⟩
          rw [hn] at h7 SM y3 ⊢
          have SMM := Lib.hid SM
          have V7 := Lib.hid h7
          have HNN := Lib.hid hn
          have KR7 := Lib.hid k7
          obtain ⟨a0, a1, a2, a3, a4, a5, a6⟩ := ans_at (box_keeps A6.out k7)
          obtain ⟨b0, b1, b2', b3, b4, b5, b6⟩ := ans_at (box_keeps B6.out k7)
          have hob : (okb != okb) = false := by simp
          clear h7 k7 rc ri SM hn
          go_wp2_with fail
          refine SMM.out.mono ?_
          rintro e w8 ⟨rfl, k8⟩
          have KR8 := Lib.hid (Keeps.trans KR7.out k8)
          have V8 := Lib.hid (rowK.own_keeps V7.out k8)
          clear k8 a0 a1 a2 a3 a4 a5 a6 b0 b1 b2' b3 b4 b5 b6 y3
          go_wp2_with fail
          go_loopg [16] n (fun gz v16 W => ∃ (z : Nat) (M : List R), z + gz = n ∧ v16 = .int .i64 (z : Int) ∧ M.length = n ∧ rowK.Own w6.heap.size W (.slice pm n cm) M ∧ Keeps w6 W)
          case atStart => exact ⟨0, p'.L, by omega, rfl, HNN.out, V8.out, KR8.out⟩
          case round =>
            rename World => wi
            obtain ⟨z, M, hz, rfl, hM, ho, hk6⟩ := hrel
            have HZ := Lib.hid hz
            have HM := Lib.hid hM
            have HO := Lib.hid ho
            have KI := Lib.hid hk6
            clear hz hM ho hk6
            cases gk with
            | succ gz =>
              have hzn : z < n := by have := HZ.out; omega
              obtain ⟨u, hu⟩ : ∃ u, M[z]? = some u := ⟨_, List.getElem?_eq_getElem (by rw [HM.out]; exact hzn)⟩
              have e0 : 1 ≤ M.length := by rw [HM.out]; omega
              have WZ : Hid (wrap64 ((z : Int) + 1) = (z : Int) + 1) := Lib.hid (i64w (by unfold top; omega) (by have := FW.out; have := HNN.out; unfold top; omega))
              obtain ⟨gg, rfl⟩ := pa_ptr HO.out e0
              obtain ⟨⟨s0, s1, s2', s3, s4⟩, f0, f1, f2, f3, f4⟩ := pa_at5 HO.out hu
              have ST := Lib.hid (pa_set5 (x := ⟨0, 0, 0, 0, 0⟩) HO.out (show z < M.length by rw [HM.out]; exact hzn))
              have GG : Hid (w6.heap.size ≤ gg) := Lib.hid (rowK.own_lt HO.out gg rfl).1
              have hz1 : (z : Int) < (n : Int) := by omega
              have hz0 : (0 : Int) ≤ (z : Int) := by omega
              obtain ⟨W1, hW1⟩ : ∃ W1, paFive wi gg (z * 5) ⟨0, 0, 0, 0, 0⟩ = W1 := ⟨_, rfl⟩
              have OS1 := Lib.hid (hW1 ▸ ST.out)
              have KS1 := Lib.hid (hW1 ▸ paFive_keeps (m := z * 5) KI.out GG.out ⟨0, 0, 0, 0, 0⟩)
              unfold paFive at hW1
              have EW1 := Lib.hid hW1
              clear hu e0 hzn hW1 ST
              go_upto_region 19 with (fail)
              rw [EW1.out]
              clear EW1 s0 s1 s2' s3 s4 f0 f1 f2 f3 f4
              go_wp2_with fail
              go_roundg gz
              case measure => omega
              case rel => exact ⟨z + 1, M.set z ⟨0, 0, 0, 0, 0⟩, step_num HZ.out, by first | (rw [WZ.out]; rfl) | rfl | go_num, by rw [List.length_set]; exact HM.out, OS1.out, KS1.out⟩
            | zero =>
              obtain rfl : z = n := by have := HZ.out; omega
              have hzz : ¬ ((z : Int) < (z : Int)) := by omega
              have T9 := Lib.hid (T6.out.keeps KI.out)
              have K9 := Lib.hid (Keeps.trans K6.out KI.out)
              obtain ⟨m5, hm5⟩ : ∃ m, k % 5 = m := ⟨_, rfl⟩
              have hm1 : (k : Int) % 5 = (m5 : Int) := by omega
              have hm2 : Int.tmod (k : Int) 5 = (m5 : Int) := by rw [Int.tmod_eq_emod_of_nonneg (by omega)]; exact hm1
              clear hm5 KR7 KR8 V7 V8 HO HM HZ A6 B6 A4 CA CB SMM
              go_upto_region 21 with (fail)
              go_cut [121] (fun v121 W => v121 = .bool false ∧ ∃ q2 : Nat, q2 ≤ k + 1 ∧ Both wb.heap.size W b br bs bh (c + 4) p' (q2 : Int) rb p' (q2 : Int) ∧ Keeps wb W)
              case first =>
                by_cases h5 : m5 = 0
                · subst h5
                  go_wp2_with fail
                  refine (T9.out.stm1 (by omega) (by omega) (by omega)).mono ?_
                  rintro e wS ⟨vS, rfl, hS, hT, gS⟩
                  obtain ⟨ps, cs, rfl⟩ := rowK.own_shape hS
                  have TS := Lib.hid hT
                  have KS := Lib.hid (gS.keeps K9.out (fun i hi => by rw [hi]; exact T9.out.one.lb))
                  have VS := Lib.hid hS
                  have LS : Hid (rb < wi.heap.size) := Lib.hid (by
                    obtain ⟨_, _, e, _⟩ := T9.out.ref
                    exact box_lt e)
                  clear hS hT gS
                  go_wp2_with fail
                  refine (TS.out.stm2 (by have := FW.out; omega) (by omega) (by omega)).mono ?_
                  rintro e wR ⟨vR, rfl, hR, hT, gR⟩
                  obtain ⟨pz, cz, rfl⟩ := rowK.own_shape hR
                  have TR := Lib.hid hT
                  have KRR := Lib.hid (gR.keeps KS.out (fun i hi => by rw [hi]; exact TS.out.lb))
                  have VS2 := own_only VS.out gR (fun i hi => by rw [hi]; exact LS.out)
                  have SQ := rr_same p'.kind ((q : Int) + 1) p'.kind ((q : Int) + 1) _ _ p'.L p'.L wR (own_rows VS2 (by have := FW.out; omega)) (own_rows hR (by have := FW.out; omega))
                  rw [show sameB p'.kind ((q : Int) + 1) p'.kind ((q : Int) + 1) p'.L p'.L = true from by unfold sameB; simp] at SQ
                  unfold stV at SQ
                  have SQQ := Lib.hid SQ
                  clear hR hT gR VS2 SQ
                  go_wp2_with fail
                  refine SQQ.out.mono ?_
                  rintro e wT ⟨rfl, kT⟩
                  have TT := Lib.hid (TR.out.keeps kT)
                  have KT := Lib.hid (Keeps.trans KRR.out kT)
                  clear kT
                  go_wp2_with fail
                  go_meet
                  exact ⟨rfl, q + 1, by omega, by have := TT.out; push_cast; exact this, KT.out⟩
                · have hb5 : ((m5 : Int) == 0) = false := by simp; omega
                  go_wp2_with fail
                  go_meet
                  exact ⟨rfl, q, by omega, T9.out, K9.out⟩
              case rest =>
                rename World => wd
                obtain ⟨rfl, q2, hq2, hT, hK⟩ := hcut
                have TD := Lib.hid hT
                have KD := Lib.hid hK
                have C1 : Hid (∀ X s, s.size ≤ maxLen → Keeps wd X → Calls Tryd.prog 20 #[.pointer (some ⟨b, 0, none⟩), .string s] X fun e w' => e = .returned (.int .i64 (leftV p' s)) ∧ Keeps X w') := Lib.hid fun X s hs kX => pp_Left (TD.out.one.keeps kX).at_ (HP.out _ (Keeps.trans KD.out kX)) s hs
                have C2 : Hid (∀ X s, s.size ≤ maxLen → Keeps wd X → Calls Tryd.prog 21 #[.pointer (some ⟨rb, 0, none⟩), .string s] X fun e w' => e = .returned (.int .i64 (leftV p' s)) ∧ Keeps X w') := Lib.hid fun X s hs kX => la_left rb p' q2 s X (TD.out.ref.keeps kX) TD.out.one.inv hs
                obtain ⟨l1, hl1⟩ : ∃ l, leftV p' x.s = l := ⟨_, rfl⟩
                obtain ⟨l2, hl2⟩ : ∃ l, leftV p' S = l := ⟨_, rfl⟩
                have D1 := Lib.hid fun X kX => C1.out X x.s hxs kX
                have D2 := Lib.hid fun X kX => C2.out X x.s hxs kX
                have D3 := Lib.hid fun X kX => C1.out X S hS kX
                have D4 := Lib.hid fun X kX => C2.out X S hS kX
                simp only [hl1, hl2] at D1 D2 D3 D4
                have hlb1 : (l1 != l1) = false := by simp
                have hlb2 : (l2 != l2) = false := by simp
                clear hT hK C1 C2 hl1 hl2
                go_upto_region 23 with (fail)
                have HX := Lib.hid (Keeps.refl wd)
                have MS : Hid (∀ X, Keeps wd X → X.cell? ⟨(ad.add (k * 7)).block, (ad.add (k * 7)).off + 3, none⟩ = some (.string x.s)) := Lib.hid fun X kX => (GM.out _ (Keeps.trans KD.out kX)).2.2.2.1
                have y3 := MS.out _ HX.out
                go_region_held3 (fun X => X.cell? ⟨(ad.add (k * 7)).block, (ad.add (k * 7)).off + 3, none⟩ = some (.string x.s))
                  (first | exact MS.out _ HX.out | exact MS.out _ (HX.out.trans (ky_drew _)) | assumption)
                  (first
                  | (go_at_call 20; refine (D1.out _ (by first | exact HX.out | exact HX.out.trans (ky_drew _))).mono ?_; rintro e wv ⟨rfl, hv⟩; have HX2 := Lib.hid (HX.out.trans (Keeps.trans (by first | exact Keeps.refl _ | exact ky_drew _) hv)); clear HX D1 hv; have HX := Lib.hid HX2.out; clear HX2; have zv := MS.out _ HX.out)
                  | (go_at_call 21; refine (D2.out _ (by first | exact HX.out | exact HX.out.trans (ky_drew _))).mono ?_; rintro e wv ⟨rfl, hv⟩; have HX2 := Lib.hid (HX.out.trans (Keeps.trans (by first | exact Keeps.refl _ | exact ky_drew _) hv)); clear HX D2 hv; have HX := Lib.hid HX2.out; clear HX2; have zv := MS.out _ HX.out)
                  | (go_at_call 20; refine (D3.out _ (by first | exact HX.out | exact HX.out.trans (ky_drew _))).mono ?_; rintro e wv ⟨rfl, hv⟩; have HX2 := Lib.hid (HX.out.trans (Keeps.trans (by first | exact Keeps.refl _ | exact ky_drew _) hv)); clear HX D3 hv; have HX := Lib.hid HX2.out; clear HX2; have zv := MS.out _ HX.out)
                  | (go_at_call 21; refine (D4.out _ (by first | exact HX.out | exact HX.out.trans (ky_drew _))).mono ?_; rintro e wv ⟨rfl, hv⟩; have HX2 := Lib.hid (HX.out.trans (Keeps.trans (by first | exact Keeps.refl _ | exact ky_drew _) hv)); clear HX D4 hv; have HX := Lib.hid HX2.out; clear HX2; have zv := MS.out _ HX.out))
                go_wp2_with fail
                go_roundg g
                case measure => omega
                case rel => exact ⟨k + 1, c + 4, q2, by have := HKG.out; omega, by first | rfl | go_num, by omega, by omega, by rw [← EP.out]; exact TD.out.keeps HX.out, Keeps.trans KD.out HX.out⟩
    · go_wp2_with fail
      refine (pp_new_no kind stock limit wg hk).mono ?_
      rintro e w1 ⟨rfl, rfl⟩
      go_wp2_with fail
      refine (rp_new kind stock limit _).mono ?_
      rintro e w2 hn
      rcases hn with ⟨_, rfl, rfl⟩ | ⟨hy, _⟩
      · go_wp2_with fail
        refine (AS.out _ KG.out).mono ?_
        rintro e w2 ⟨rfl, k2⟩
        have K2 := Lib.hid k2
        clear k2
        go_wp2
        go_ret
        exact ⟨rfl, Keeps.trans KW.out K2.out⟩
      · exact absurd hy hk
end Pa
end Go.Proofs.YtkffpmeocfhcpaaDoor
