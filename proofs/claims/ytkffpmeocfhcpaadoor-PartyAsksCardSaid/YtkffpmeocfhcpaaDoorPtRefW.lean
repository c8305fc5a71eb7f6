
/- The document's party: what is freed, a row written. -/
import Derived.Test.YtkffpmeocfhcpaaDoorPtRefC
set_option linter.unusedVariables false
namespace Go.Proofs.YtkffpmeocfhcpaaDoor
open Go.ChangeShapes Go.WideShapes Go.ChangeAt Go.RowKit Ky Rw Csv

theorem pt_mono {w W W' : World} {v : Value} (k : Keeps w W) (g : W.grownBy W' v.ownBlock) (h : ∀ j, v.ownBlock = some j → w.heap.size ≤ j) : Keeps w W' :=
  ⟨g.os.trans k.os, g.tape.trans k.tape, g.output.trans k.output, Nat.le_trans k.size g.size, fun j hj => (g.block j (Nat.lt_of_lt_of_le hj k.size) (fun e => by have := h j e.symm; omega)).trans (k.block j hj)⟩
theorem row_src1 {α : Type} (K : RowK α) (w : World) (x : α) : K.Src (w.alloc (.cells (K.cells x).toArray K.t)) (.slice (some ⟨w.heap.size, 0, none⟩) 1 1) [x] := by
  refine ⟨_, 1, rfl, (fun e => by cases e), fun a ha j u hu => ?_⟩
  cases ha
  have e : K.row [x] = K.cells x := by unfold RowK.row; simp
  rw [e] at hu
  have h := Joins.cell_of_block (heap_alloc_new w (.cells (K.cells x).toArray K.t)) j
  rw [addr_of]
  rw [h]
  simpa using hu
theorem pt_set (W : World) (b i : Nat) (v : Value) : W.grownBy (W.setCell ⟨b, i, none⟩ v) (some b) :=
  ⟨rfl, rfl, rfl, by simp [World.setCell], fun k _ hk => Below.heap_setCell _ ⟨b, i, none⟩ _ _ (fun e => hk (by rw [e]))⟩
theorem pt_grown {w W W' : World} {b : Nat} (k : Keeps w W) (g : W.grownBy W' (some b)) : w.grownBy W' (some b) :=
  ⟨g.os.trans k.os, g.tape.trans k.tape, g.output.trans k.output, Nat.le_trans k.size g.size, fun j hj hb => (g.block j (Nat.lt_of_lt_of_le hj k.size) hb).trans (k.block j hj)⟩
namespace Pt
theorem free_take {o : Int} {G : List Gd} {k : Nat} {g : Gd} (h : G[k]? = some g) : free o (G.take (k + 1)) = if g.o = o then free o (G.take k) else free o (G.take k) ++ [g] := by
  unfold free
  rw [List.take_add_one, h]
  show (G.take k ++ [g]).filter _ = _
  rw [List.filter_append]
  by_cases e : g.o = o
  · rw [if_pos e]; simp [e]
  · rw [if_neg e]; simp [e]
end Pt
/-- The document's party, its rows in a block of which Q holds, if they are any. -/
def RefQ (Q : Nat → Prop) (w : World) (b : Nat) (p : Pt.P) (seq : Int) : Prop :=
  ∃ vL vG, w.heap[b]? = some (.cells #[.int .i64 p.kind, .int .i64 p.stock, .int .i64 p.limit, vL, vG, .int .i64 seq] tPr (0, 0)) ∧ rowK.Own 0 w vL p.L ∧ gdK.Own 0 w vG p.G ∧ ∀ g, vL.ownBlock = some g → Q g
section
variable {Q Q' : Nat → Prop} {w w' : World} {b : Nat} {p : Pt.P} {seq : Int}
theorem RefQ.mono (h : RefQ Q w b p seq) (hq : ∀ g, Q g → Q' g) : RefQ Q' w b p seq := by
  obtain ⟨vL, vG, h1, h2, h3, h4⟩ := h
  exact ⟨vL, vG, h1, h2, h3, fun g hg => hq g (h4 g hg)⟩
theorem RefQ.ref (h : RefQ Q w b p seq) : RefP w b p seq := by
  obtain ⟨vL, vG, h1, h2, h3, h4⟩ := h
  exact ⟨vL, vG, h1, h2, h3⟩
theorem RefQ.of (h : RefP w b p seq) : RefQ (fun g => g < w.heap.size) w b p seq := by
  obtain ⟨vL, vG, h1, h2, h3⟩ := h
  exact ⟨vL, vG, h1, h2, h3, fun g hg => (rowK.own_lt h2 g hg).2⟩
theorem RefQ.keeps (h : RefQ Q w b p seq) (k : Keeps w w') : RefQ Q w' b p seq := by
  obtain ⟨vL, vG, h1, h2, h3, h4⟩ := h
  exact ⟨vL, vG, (k.block b (Array.getElem?_eq_some_iff.1 h1).1).trans h1, rowK.own_keeps h2 k, gdK.own_keeps h3 k, h4⟩
end
/-- The party with other goods: the block's fifth cell. -/
theorem ref_goods {w W : World} {b : Nat} {p : Pt.P} {seq : Int} {v : Value} {G : List Pt.Gd} {B : Nat} {Q : Nat → Prop} (h : RefQ Q w b p seq) (k : Keeps w W) (ho : gdK.Own B W v G) :
    RefQ Q (W.setCell ⟨b, 4, none⟩ v) b ⟨p.kind, p.stock, p.limit, p.L, G⟩ seq := by
  obtain ⟨vL, vG, h1, h2, h3, h4⟩ := h.keeps k
  refine ⟨vL, v, ?_, ?_, ?_, h4⟩
  · rw [Joins.block_setCell (i := 4) h1 v]; rfl
  · refine rowK.own_local h2 fun g hg => Below.heap_setCell _ ⟨b, 4, none⟩ _ _ (fun e => ?_)
    obtain ⟨c, hc⟩ := rowK.own_tag h2 hg
    rw [e, h1] at hc
    simp only [Option.some.injEq, Obj.cells.injEq] at hc
    exact absurd hc.2.1 (by decide)
  · refine gdK.own_base (gdK.own_local ho fun g hg => Below.heap_setCell _ ⟨b, 4, none⟩ _ _ (fun e => ?_)) fun g _ => Nat.zero_le g
    obtain ⟨c, hc⟩ := gdK.own_tag ho hg
    rw [e, h1] at hc
    simp only [Option.some.injEq, Obj.cells.injEq] at hc
    exact absurd hc.2.1 (by decide)
set_option maxHeartbeats 16000000 in
theorem rp_free {Q : Nat → Prop} (b : Nat) (p : Pt.P) (seq o : Int) (w : World) (h : RefQ Q w b p seq) (hl : p.G.length ≤ 60) :
    Calls Tryd.prog 36 #[.pointer (some ⟨b, 0, none⟩), .int .i64 o] w fun e w' => e = .returned (.tuple #[]) ∧ RefQ Q w' b ⟨p.kind, p.stock, p.limit, p.L, Pt.free o p.G⟩ seq ∧ w.grownBy w' (some b) := by
  have HR := Lib.hid h
  have HN := Lib.hid hl
  clear h hl
  obtain ⟨vL, vG, hb, hL, hG, _⟩ := HR.out
  obtain ⟨pg, cg, rfl, hc⟩ := gd_at hG
  obtain ⟨N, hN⟩ : ∃ N, p.G.length = N := ⟨_, rfl⟩
  have HL := Lib.hid hN
  have HC : Hid (∀ W, Keeps w W → ∀ (j : Nat) (x : Pt.Gd), p.G[j]? = some x → ∃ g : Nat, pg = some ⟨g, 0, none⟩ ∧ W.cell? ⟨g, j * 3, none⟩ = some (.int .i64 x.o) ∧ W.cell? ⟨g, j * 3 + 1, none⟩ = some (.string x.s) ∧ W.cell? ⟨g, j * 3 + 2, none⟩ = some (.int .i64 x.q)) := Lib.hid fun W k j x hx => by
    obtain ⟨g, h1, h2, h3, h4⟩ := hc j x hx
    exact ⟨g, h1, cell_keeps k h2, cell_keeps k h3, cell_keeps k h4⟩
  have HB : Hid (∀ W, Keeps w W → W.cell? ⟨b, 4, none⟩ = some (.slice pg N cg) ∧ W.frozen? ⟨b, 4, none⟩ = false) := Lib.hid fun W k => by
    have e := (k.block b (Array.getElem?_eq_some_iff.1 hb).1).trans hb
    have h6 := six_at e
    rw [hN] at h6
    exact ⟨h6.1.2.2.2.2.1, h6.2.2.1⟩
  clear hc hb hL hG hN
  obtain ⟨y4, f4⟩ := HB.out _ (Keeps.refl _)
  go_enter Tryd.func36, Tryd.ntmps36
  go_wp2_with fail
  go_loopg [4, 5] N (fun g v4 v5 W => ∃ (k : Nat) (p4 : Option Addr) (n4 c4 : Nat), k + g = N ∧ v4 = .slice p4 n4 c4 ∧ v5 = .int .i64 (k : Int) ∧ n4 = (Pt.free o (p.G.take k)).length ∧ gdK.Own w.heap.size W (.slice p4 n4 c4) (Pt.free o (p.G.take k)) ∧ Keeps w W)
  case atStart => exact ⟨0, none, 0, 0, by omega, rfl, rfl, by simp [Pt.free], gdK.own_nil _ _, Keeps.refl _⟩
  case round =>
    obtain ⟨k, p4, n4, c4, hk, rfl, rfl, hn, ho, hw⟩ := hrel
    have HI := Lib.hid hk
    have HV := Lib.hid hw
    have HO := Lib.hid ho
    have HNN := Lib.hid hn
    clear y4 f4 hn ho
    obtain ⟨y4, f4⟩ := HB.out _ hw
    clear hw
    cases gk with
    | zero =>
      obtain rfl : k = N := by as_aux_lemma => (omega)
      have hd : decide ((k : Int) < (k : Int)) = false := decide_eq_false (by as_aux_lemma => (omega))
      have hz : ¬ ((k : Int) < (k : Int)) := by as_aux_lemma => (omega)
      have E : Hid (Pt.free o (p.G.take k) = Pt.free o p.G) := Lib.hid (by rw [List.take_of_length_le (by rw [HL.out]; exact Nat.le_refl _)])
      go_wp2
      go_end0
      exact ⟨rfl, ref_goods HR.out HV.out (E.out ▸ HO.out), pt_grown HV.out (pt_set _ _ _ _)⟩
    | succ gk =>
    have hlt : k < N := by as_aux_lemma => (omega)
    obtain ⟨x, hx⟩ : ∃ x, p.G[k]? = some x := ⟨_, List.getElem?_eq_getElem (by rw [HL.out]; exact hlt)⟩
    have FT := Lib.hid (Pt.free_take (o := o) hx)
    obtain ⟨g, rfl, q0, q1, q2⟩ := HC.out _ HV.out k x hx
    have hi1 : (k : Int) < (N : Int) := by as_aux_lemma => (omega)
    have hi0 : (0 : Int) ≤ (k : Int) := by as_aux_lemma => (omega)
    have wi : Hid (wrap64 ((k : Int) + 1) = (k : Int) + 1) := Lib.hid (i64w (by unfold top; omega) (by have := HN.out; have := HL.out; unfold top; omega))
    have N4 : Hid (n4 ≤ 60) := Lib.hid (by
      have h1 : (Pt.free o (p.G.take k)).length ≤ (p.G.take k).length := List.length_filter_le _ _
      rw [List.length_take] at h1
      have := HNN.out; have := HN.out; omega)
    clear hx hk hlt
    by_cases he : x.o = o
    · have NX : Hid (Pt.free o (p.G.take (k + 1)) = Pt.free o (p.G.take k)) := Lib.hid (by rw [FT.out, if_pos he])
      have t1 : (x.o == o) = true := by rw [he]; simp
      have t2 : (x.o != o) = false := by rw [bne, t1]; rfl
      clear he
      go_wp2_with fail
      go_roundg gk
      case measure => omega
      case rel => exact ⟨k + 1, p4, n4, c4, by have := HI.out; omega, rfl, by first | (rw [wi.out]; rfl) | rfl | go_num, by rw [NX.out]; exact HNN.out, by rw [NX.out]; exact HO.out, HV.out⟩
    · have NX : Hid (Pt.free o (p.G.take (k + 1)) = Pt.free o (p.G.take k) ++ [x]) := Lib.hid (by rw [FT.out, if_neg he])
      have t1 : (x.o == o) = false := by rw [beq_eq_false_iff_ne]; exact he
      have t2 : (x.o != o) = true := by rw [bne, t1]; rfl
      clear he
      obtain ⟨p', c', W', r1, r2, r3⟩ := gdK.app_row (wr.alloc (.cells #[.int .i64 x.o, .string x.s, .int .i64 x.q] tGd)) w.heap.size (.slice p4 n4 c4) (Pt.free o (p.G.take k)) (.slice (some ⟨wr.heap.size, 0, none⟩) 1 1) [x] (gdK.own_keeps HO.out (kept_alloc (Keeps.refl _) _)) (row_src1 gdK wr x) (by rw [← HNN.out]; have := N4.out; simp; omega) (Nat.le_trans HV.out.size (by simp))
      rw [List.length_singleton, ← HNN.out] at r1 r2
      have R1 : Hid ((Builtin.append_ #[gdK.ts, gdK.ts] gdK.ts #[.slice p4 n4 c4, .slice (some ⟨wr.heap.size, 0, none⟩) 1 1]).run Tryd.prog (wr.alloc (.cells #[.int .i64 x.o, .string x.s, .int .i64 x.q] tGd)) = .ok (.slice p' (n4 + 1) c') W') := Lib.hid r1
      have KW : Hid (Keeps w W') := Lib.hid (pt_mono (kept_alloc HV.out _) r3 (fun j hj => (gdK.own_lt HO.out j hj).1))
      have OW : Hid (gdK.Own w.heap.size W' (.slice p' (n4 + 1) c') (Pt.free o (p.G.take (k + 1)))) := Lib.hid (by rw [NX.out]; exact r2)
      clear r1 r2 r3
      go_wp2_with (at_builtin; refine wpAppKnown rfl _ _ _ _ rfl _ _ _ _ rfl rfl R1.out ?_)
      go_roundg gk
      case measure => omega
      case rel => exact ⟨k + 1, p', n4 + 1, c', by have := HI.out; omega, rfl, by first | (rw [wi.out]; rfl) | rfl | go_num, by rw [NX.out, List.length_append, ← HNN.out]; rfl, OW.out, KW.out⟩
/-- What New leaves. -/
def NewOut (kind stock limit : Int) (w : World) (e : Ending) (w' : World) : Prop :=
  (¬ (0 ≤ kind ∧ kind ≤ 2) ∧ e = .returned (.pointer none) ∧ w = w') ∨ ((0 ≤ kind ∧ kind ≤ 2) ∧ e = .returned (.pointer (some ⟨w.heap.size, 0, none⟩)) ∧ RefP w' w.heap.size (Pt.newP kind stock limit) 0 ∧ Keeps w w')
theorem ref_new (w : World) (kind stock limit S : Int) (h : S = if stock < 0 then 0 else min stock 1000000000) : RefP (w.alloc (.cells #[.int .i64 kind, .int .i64 S, .int .i64 limit, .slice none 0 0, .slice none 0 0, .int .i64 0] tPr)) w.heap.size (Pt.newP kind stock limit) 0 := by
  subst h
  exact ⟨.slice none 0 0, .slice none 0 0, heap_alloc_new w _, rowK.own_nil _ _, gdK.own_nil _ _⟩
set_option maxHeartbeats 8000000 in
theorem rp_new (kind stock limit : Int) (w : World) :
    Calls Tryd.prog 11 #[.int .i64 kind, .int .i64 stock, .int .i64 limit] w (NewOut kind stock limit w) := by
  by_cases h0 : kind < 0
  · have N : Hid (¬ (0 ≤ kind ∧ kind ≤ 2)) := Lib.hid (by omega)
    have hd : decide (kind < 0) = true := decide_eq_true h0
    go_enter Tryd.func11, Tryd.ntmps11
    go_wp2
    go_ret
    exact Or.inl ⟨N.out, rfl, rfl⟩
  have hd0 : decide (kind < 0) = false := decide_eq_false h0
  by_cases h2 : 2 < kind
  · have N : Hid (¬ (0 ≤ kind ∧ kind ≤ 2)) := Lib.hid (by omega)
    have hd : decide (2 < kind) = true := decide_eq_true h2
    go_enter Tryd.func11, Tryd.ntmps11
    go_wp2
    go_ret
    exact Or.inl ⟨N.out, rfl, rfl⟩
  have hd2 : decide (2 < kind) = false := decide_eq_false h2
  have K : Hid (0 ≤ kind ∧ kind ≤ 2) := Lib.hid (by omega)
  have KB := Lib.hid (fun S : Int => ky_box w (.cells #[.int .i64 kind, .int .i64 S, .int .i64 limit, .slice none 0 0, .slice none 0 0, .int .i64 0] tPr))
  by_cases hs : stock < 0
  · have RN := Lib.hid (ref_new w kind stock limit 0 (by rw [if_pos hs]))
    have hm : min (0 : Int) 1000000000 = 0 := by decide
    go_enter Tryd.func11, Tryd.ntmps11
    go_wp2
    go_ret
    exact Or.inr ⟨K.out, rfl, RN.out, KB.out 0⟩
  · have hsd : decide (stock < 0) = false := decide_eq_false hs
    by_cases hle : stock ≤ 1000000000
    · have RN := Lib.hid (ref_new w kind stock limit stock (by rw [if_neg hs]; omega))
      have hm : min stock 1000000000 = stock := by omega
      go_enter Tryd.func11, Tryd.ntmps11
      go_wp2
      all_goals first
        | (go_ret; exact Or.inr ⟨K.out, rfl, RN.out, KB.out stock⟩)
        | (exfalso; omega)
    · have RN := Lib.hid (ref_new w kind stock limit 1000000000 (by rw [if_neg hs]; omega))
      have hm : min stock 1000000000 = 1000000000 := by omega
      go_enter Tryd.func11, Tryd.ntmps11
      go_wp2
      all_goals first
        | (go_ret; exact Or.inr ⟨K.out, rfl, RN.out, KB.out 1000000000⟩)
        | (exfalso; omega)
end Go.Proofs.YtkffpmeocfhcpaaDoor
