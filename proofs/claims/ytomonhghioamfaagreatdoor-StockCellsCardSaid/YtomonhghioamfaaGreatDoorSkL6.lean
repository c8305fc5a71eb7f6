
/- StockParse: the walk. Tables of texts: rows stored, a row behind; csv's own table. A count's digits. StockCount: the walk. -/
import Derived.Test.YtomonhghioamfaaGreatDoorSkL1
set_option linter.unusedVariables false
namespace Go.Proofs.YtomonhghioamfaaGreatDoor
open Go.ChangeShapes Go.WideShapes Go.ChangeAt Go.RowKit Ky Rw Stk

theorem skrNo (S : ByteArray) (a b : Nat) (c : Int) (w : World) (hs : S.size ≤ maxLen) (h : parseM S.data.toList = .error (a, b, c)) :
    Calls Tryz.prog 15 #[.string S] w fun e w' => e = .returned (.tuple #[stV 0 0 (.slice none 0 0), .agg #[.int .i64 (a : Int), .int .i64 (b : Int), .int .i64 c]]) ∧ Keeps w w' := by
  refine (sk_rparse S w hs).mono fun e w' ho => ?_
  rcases ho with ⟨s, L, v, h1, _⟩ | ⟨a', b', c', h1, h2, k⟩
  · rw [h] at h1; cases h1
  · rw [h] at h1
    cases h1
    exact ⟨h2, k⟩
theorem skrYes (S : ByteArray) (s : Int) (L : List R) (w : World) (hs : S.size ≤ maxLen) (h : parseM S.data.toList = .ok (s, L)) :
    Calls Tryz.prog 15 #[.string S] w fun e w' => ∃ v, e = .returned (.tuple #[stV 1 s v, .agg #[.int .i64 0, .int .i64 0, .int .i64 0]]) ∧ RowsIn w' v L ∧ Keeps w w' := by
  refine (sk_rparse S w hs).mono fun e w' ho => ?_
  rcases ho with ⟨s', L', v, h1, h2, h3, k⟩ | ⟨a', b', c', h1, _⟩
  · rw [h] at h1
    cases h1
    exact ⟨v, h2, h3, k⟩
  · rw [h] at h1; cases h1
end Go.Proofs.YtomonhghioamfaaGreatDoor
namespace Go.Proofs.YtomonhghioamfaaGreatDoor
open Go.ChangeShapes Go.WideShapes Go.ChangeAt Go.RowKit Ky Rw Csv

theorem skSliK_row (vs : List Sl3) : skSliK.row vs = vs.map slV := by
  unfold RowK.row
  induction vs with
  | nil => rfl
  | cons x r ih => rw [List.flatMap_cons, ih]; rfl
theorem sl_list : ∀ vals : List Value, (∀ u ∈ vals, ∃ x : Sl3, u = slV x) → ∃ vs : List Sl3, vals = vs.map slV
  | [], _ => ⟨[], rfl⟩
  | u :: r, h => by
    obtain ⟨x, rfl⟩ := h u (by simp)
    obtain ⟨vs, rfl⟩ := sl_list r fun u hu => h u (List.mem_cons_of_mem _ hu)
    exact ⟨x :: vs, rfl⟩
/-- csv's own table. -/
theorem own_tbl {B : Nat} {W : World} {v : Value} {T : List (List (List UInt8))} (h : OwnTable B W v T) : ∃ vs, TblO B W v vs T := by
  obtain ⟨B', vr, row, hB, vals, h1, h2, h3⟩ := h
  have hl : vals.length = T.length := by have := h1.1; omega
  obtain ⟨vs, rfl⟩ := sl_list vals (fun u hu => by
    obtain ⟨j, hj⟩ := List.mem_iff_getElem?.1 hu
    have hjl := (List.getElem?_eq_some_iff.1 hj).1
    obtain ⟨u', e1, e2, _⟩ := h3 j (T[j]'(by omega)) (List.getElem?_eq_getElem _)
    rw [hj] at e1; cases e1
    obtain ⟨p, c, e⟩ := RowK.own_shape skStrK e2
    exact ⟨(p, _, c), e⟩)
  have hl2 : vs.length = T.length := by simpa using hl
  refine ⟨vs, ?_, hl2, fun j F hF => ?_⟩
  · have o : skSliK.Own B' W v vs := by
      show W.ownsRow B' tR 1 v vs.length (skSliK.row vs)
      rw [skSliK_row, hl2]; exact h1
    exact skSliK.own_base o fun g hg => Nat.le_trans hB (skSliK.own_lt o g hg).1
  · obtain ⟨u, e1, e2, _⟩ := h3 j F hF
    rw [List.getElem?_map] at e1
    obtain ⟨x, hx, rfl⟩ := Option.map_eq_some_iff.1 e1
    have o : skStrK.Own B' W (slV x) F := by
      show W.ownsRow B' tS 1 (slV x) F.length (skStrK.row F)
      rw [skStrK_row]; exact e2
    exact ⟨x, hx, skStrK.own_base o fun g hg => Nat.le_trans hB (skStrK.own_lt o g hg).1⟩
/-- A row behind a table's copy. -/
theorem tbl_behind {B B2 : Nat} {W W2 : World} {v v2 : Value} {vs : List Sl3} {T : List (List (List UInt8))} {x : Sl3} {F : List (List UInt8)} (h : TblO B W v vs T) (hF : StrsAt W (slV x) F) (k : Keeps W W2) (ho : skSliK.Own B2 W2 v2 (vs ++ [x])) (hm : T.length < 100000) : RowsAt W2 v2 (T ++ [F]) := by
  obtain ⟨p, c, e, e0, hs⟩ := RowK.own_src skSliK ho
  have hl := h.2.1
  refine ⟨p, c, by rw [e]; simp [hl], by simp [maxLen]; omega, fun j G hG => ?_⟩
  have key : ∃ y, (vs ++ [x])[j]? = some y ∧ StrsAt W2 (slV y) G := by
    by_cases hj : j < T.length
    · rw [List.getElem?_append_left hj] at hG
      obtain ⟨y, hy, oy⟩ := h.2.2 j G hG
      exact ⟨y, by rw [List.getElem?_append_left (by omega)]; exact hy, (skStrK_strs oy).keeps k⟩
    · have hj2 : j = T.length := by
        have := (List.getElem?_eq_some_iff.1 hG).1
        simp at this; omega
      subst hj2
      simp at hG
      subst hG
      exact ⟨x, by rw [← hl]; simp, hF.keeps k⟩
  obtain ⟨y, hy, hsy⟩ := key
  cases p with
  | none => exact absurd (e0 rfl).1 (by simp)
  | some a => exact ⟨a, slV y, rfl, hs a rfl j (slV y) (by rw [skSliK_row, List.getElem?_map, hy]; rfl), hsy⟩
theorem sl_set {B g n c i : Nat} {W : World} {vs : List Sl3} {y : Sl3} (h : skSliK.Own B W (.slice (some ⟨g, 0, none⟩) n c) vs) : skSliK.Own B (W.setCell ⟨g, i, none⟩ (slV y)) (.slice (some ⟨g, 0, none⟩) n c) (vs.set i y) := by
  obtain ⟨h1, h2⟩ := h
  refine ⟨skSliK.row_len _, ?_⟩
  rcases h2 with ⟨e, _⟩ | ⟨g', cap, cur, e, hb, hg, r1, r2, r3, r4⟩
  · cases e
  · simp only [Value.slice.injEq, Option.some.injEq, Addr.mk.injEq] at e
    obtain ⟨⟨rfl, _, _⟩, rfl, rfl⟩ := e
    right
    refine ⟨g, c, _, by rw [List.length_set], hb, Joins.block_setCell hg _, by rw [List.length_set]; exact r1, r2, by simpa using r3, ?_⟩
    have e1 : skSliK.sz = 1 := rfl
    rw [skSliK_row, e1, Nat.mul_one] at r4
    rw [skSliK_row, e1, Nat.mul_one, List.length_set, Array.toList_setIfInBounds, List.take_set, r4, List.map_set]
/-- A row of the table stored. -/
theorem TblO.set {B g n c i : Nat} {W : World} {vs : List Sl3} {T : List (List (List UInt8))} {y : Sl3} {G : List (List UInt8)} (h : TblO B W (.slice (some ⟨g, 0, none⟩) n c) vs T) (hG : skStrK.Own B W (slV y) G) :
    TblO B (W.setCell ⟨g, i, none⟩ (slV y)) (.slice (some ⟨g, 0, none⟩) n c) (vs.set i y) (T.set i G) := by
  have far : ∀ {x : Sl3} {F : List (List UInt8)}, skStrK.Own B W (slV x) F → skStrK.Own B (W.setCell ⟨g, i, none⟩ (slV y)) (slV x) F := fun {x F} hx => by
    refine skStrK.own_local hx fun g2 hg2 => Below.heap_setCell _ ⟨g, i, none⟩ _ _ ?_
    have hne := own_ne (e := tS) (e' := tR) hx h.1 (by decide)
    rcases hne with hne | hne
    · rw [hne] at hg2; cases hg2
    · intro e
      subst e
      exact hne (by rw [hg2]; rfl)
  refine ⟨sl_set h.1, by simpa using h.2.1, fun j F hF => ?_⟩
  have hl := h.2.1
  by_cases hj : j = i
  · subst hj
    have hlt : j < T.length := by
      have := (List.getElem?_eq_some_iff.1 hF).1
      simpa using this
    rw [List.getElem?_set_self hlt] at hF
    cases hF
    exact ⟨y, List.getElem?_set_self (by omega), far hG⟩
  · rw [List.getElem?_set_ne (Ne.symm hj)] at hF
    obtain ⟨x, hx, ox⟩ := h.2.2 j F hF
    exact ⟨x, by rw [List.getElem?_set_ne (Ne.symm hj)]; exact hx, far ox⟩
/-- Where a table lies. -/
theorem TblO.lies {B : Nat} {W : World} {v : Value} {vs : List Sl3} {T : List (List (List UInt8))} (h : TblO B W v vs T) (hT : T ≠ []) : ∃ g c, v = .slice (some ⟨g, 0, none⟩) T.length c ∧ B ≤ g ∧ g < W.heap.size ∧ T.length ≤ c ∧ c ≤ maxLen ∧ ∀ i, i < T.length → ∃ x, vs[i]? = some x ∧ W.cell? ⟨g, i, none⟩ = some (slV x) ∧ W.frozen? ⟨g, i, none⟩ = false := by
  obtain ⟨h1, h2, h3⟩ := h
  have hh := h1
  rcases h1.2 with ⟨rfl, h0⟩ | ⟨g, cap, cur, rfl, hb, hg, r1, r2, r3, r4⟩
  · exact absurd (List.length_eq_zero_iff.1 (by omega)) hT
  · refine ⟨g, cap, by rw [h2], hb, (Array.getElem?_eq_some_iff.1 hg).1, by omega, r2, fun i hi => ?_⟩
    obtain ⟨x, hx⟩ : ∃ x, vs[i]? = some x := ⟨_, List.getElem?_eq_getElem (by omega)⟩
    refine ⟨x, hx, ?_, Joins.unfrozen_of_block hg i⟩
    have := RowK.own_at skSliK hh hx (j := 0) (u := slV x) rfl
    simpa [skSliK] using this

/-! ### A count's digits -/
theorem put_small : ∀ n : Fin 256, Mon.put ((n.val : Nat) : Int) = if 10 ≤ n.val then Mon.put ((n.val / 10 : Nat) : Int) ++ [Mon.dg n.val] else [Mon.dg n.val] := by decide +kernel
theorem put_len256 : ∀ n : Fin 256, (Mon.put ((n.val : Nat) : Int)).length ≤ 3 := by decide +kernel
end Go.Proofs.YtomonhghioamfaaGreatDoor
namespace Go.Proofs.YtomonhghioamfaaGreatDoor
open Go.ChangeShapes Go.WideShapes Go.ChangeAt Go.RowKit Ky Rw Stk

namespace Stk
theorem sk_fits_behind {s : Int} {L : List R} (h : Valid 1 s L) (hN : L.length ≤ 60) {F : List Bt} (hF : F.length ≤ 5) (hf : ∀ f ∈ F, f.length ≤ 20) : (Csv.prRows (tableL s L ++ [F])).length ≤ 65536 ∧ Fits (tableL s L ++ [F]) := by
  have h1 : ∀ G ∈ tableL s L ++ [F], G.length ≤ 5 ∧ ∀ f ∈ G, f.length ≤ 20 := fun G hG => by
    rcases List.mem_append.1 hG with hG | hG
    · have := plain_table h G hG
      exact ⟨Nat.le_trans this.2.1 (by decide), fun f hf => Nat.le_trans (this.2.2 f hf).2 (by decide)⟩
    · rw [List.mem_singleton.1 hG]; exact ⟨hF, hf⟩
  have h2 := rows_short _ 20 5 h1
  have h3 : (tableL s L ++ [F]).length = L.length + 3 := by rw [List.length_append, table_len]; rfl
  rw [h3] at h2
  have h4 : (L.length + 3) * (5 * (2 * 20 + 3) + 1) ≤ 63 * 216 := Nat.mul_le_mul (by omega) (by omega)
  have h5 := Nat.le_trans h2 h4
  exact ⟨Nat.le_trans h5 (by decide), ⟨fun G hG f hf => Nat.le_trans ((h1 G hG).2 f hf) (by decide), Nat.le_trans h5 (by decide)⟩⟩
theorem tableC_is (s : Int) (L : List R) (c : Nat) : (tableL s L).set (L.length + 1) (endT c) = tableC s L c := by
  unfold tableL tableC
  rw [List.set_cons_succ]
  congr 1
  rw [show L.length = (L.map rowT).length by simp, List.set_append_right _ _ (Nat.le_refl _)]
  simp
theorem sk_fits_count {s : Int} {L : List R} (h : Valid 1 s L) (hN : L.length ≤ 60) {c : Nat} (hc : (Mon.put (c : Int)).length ≤ 3) : (Csv.prRows (tableC s L c)).length ≤ 65536 ∧ Fits (tableC s L c) := by
  have h1 : ∀ G ∈ tableC s L c, G.length ≤ 5 ∧ ∀ f ∈ G, f.length ≤ 20 := fun G hG => by
    have e : tableC s L c = headT s :: L.map rowT ++ [endT c] := by simp [tableC]
    rw [e] at hG
    rcases List.mem_append.1 hG with hG | hG
    · have := plain_table h G (by rw [show tableL s L = headT s :: L.map rowT ++ [endT L.length] by simp [tableL]]; exact List.mem_append_left _ hG)
      exact ⟨Nat.le_trans this.2.1 (by decide), fun f hf => Nat.le_trans (this.2.2 f hf).2 (by decide)⟩
    · rw [List.mem_singleton.1 hG]
      refine ⟨by simp [endT], fun f hf => ?_⟩
      simp only [endT, List.mem_cons, List.not_mem_nil, or_false] at hf
      rcases hf with rfl | rfl
      · decide
      · exact Nat.le_trans hc (by decide)
  have h2 := rows_short _ 20 5 h1
  have h3 : (tableC s L c).length = L.length + 2 := by simp [tableC]
  rw [h3] at h2
  have h4 : (L.length + 2) * (5 * (2 * 20 + 3) + 1) ≤ 63 * 216 := Nat.mul_le_mul (by omega) (by omega)
  have h5 := Nat.le_trans h2 h4
  exact ⟨Nat.le_trans h5 (by decide), ⟨fun G hG f hf => Nat.le_trans ((h1 G hG).2 f hf) (by decide), Nat.le_trans h5 (by decide)⟩⟩
end Stk
theorem csv_own (T : ByteArray) {s : Int} {L : List R} (h : Valid 1 s L) (hT : T.data.toList = fileL s L) (hz : T.size ≤ maxLen) (W : World) (hm : HasMax W) :
    Calls Tryz.prog 35 #[.string T] W fun e w' => ∃ v, e = .returned (.tuple #[v, .agg #[.int .i64 0, .int .i64 0, .int .i64 0]]) ∧ OwnTable W.heap.size w' v (tableL s L) ∧ Keeps W w' := by
  refine (parse_all T W hz hm).mono ?_
  rintro e w' ⟨k, v, line, col, code, rfl, ho⟩
  rcases ho with ⟨T', h1, _, _, h4, rfl, rfl, rfl⟩ | ⟨a, b, h1, _⟩
  · rw [hT, run_file h] at h1
    cases h1
    exact ⟨v, rfl, h4, k⟩
  · rw [hT, parse_file h] at h1; cases h1
theorem n_two {N M : Nat} (h : M = N + 2) (hN : N ≤ 60) : wrap64 ((N : Int) + 2) = (M : Int) ∧ wrap64 ((M : Int) + 1) = (M : Int) + 1 ∧ wrap64 ((M : Int) - 1) = ((N + 1 : Nat) : Int) ∧ (M : Int) + 1 = ((N + 3 : Nat) : Int) ∧ (M : Int) = ((N + 2 : Nat) : Int) ∧ (0 : Int) ≤ ((N + 1 : Nat) : Int) ∧ ((N + 1 : Nat) : Int) < (M : Int) := by
  subst h
  refine ⟨?_, ?_, ?_, by omega, rfl, by omega, by omega⟩
  · rw [i64w (by unfold top; omega) (by unfold top; omega)]; omega
  · exact i64w (by unfold top; omega) (by unfold top; omega)
  · rw [i64w (by unfold top; omega) (by unfold top; omega)]; omega
theorem ku8_of {n : Int} (h : (Lit.int .u8 n).wf = true) : ∃ N : Nat, n = N ∧ N < 256 := by
  simp only [Lit.wf, IntKind.min, IntKind.max, IntKind.signed, IntKind.bits, Bool.and_eq_true] at h
  refine ⟨n.toNat, ?_, ?_⟩ <;> simp at h <;> omega
end Go.Proofs.YtomonhghioamfaaGreatDoor
