/- Tables of texts: rows stored, a row behind; csv's own table. A count's digits. StockCount: the walk. -/
import Derived.Test.YthhblaagdakdmaaDoorSkL1
set_option linter.unusedVariables false
namespace Go.Proofs.YthhblaagdakdmaaDoor
open Go.ChangeShapes Go.WideShapes Go.ChangeAt Go.RowKit Ky Rw Csv

theorem skSliK_row (vs : List Sl3) : skSliK.row vs = vs.map slV := by
  unfold RowK.row
  induction vs with
  | nil => rfl
  | cons x r ih => rw [List.flatMap_cons, ih]; rfl
theorem sl_list : ∀ vals : List Value, (∀ u ∈ vals, ∃ x : Sl3, u = slV x) → ∃ vs : List Sl3, vals = vs.map slV
  | [], _ => ⟨[], rfl⟩
  | u :: r, h => by
    obtain ⟨x, rfl⟩ := h u (by simp)
    obtain ⟨vs, rfl⟩ := sl_list r fun u hu => h u (List.mem_cons_of_mem _ hu)
    exact ⟨x :: vs, rfl⟩
/-- csv's own table. -/
theorem own_tbl {B : Nat} {W : World} {v : Value} {T : List (List (List UInt8))} (h : OwnTable B W v T) : ∃ vs, TblO B W v vs T := by
  obtain ⟨B', vr, row, hB, vals, h1, h2, h3⟩ := h
  have hl : vals.length = T.length := by have := h1.1; omega
  obtain ⟨vs, rfl⟩ := sl_list vals (fun u hu => by
    obtain ⟨j, hj⟩ := List.mem_iff_getElem?.1 hu
    have hjl := (List.getElem?_eq_some_iff.1 hj).1
    obtain ⟨u', e1, e2, _⟩ := h3 j (T[j]'(by omega)) (List.getElem?_eq_getElem _)
    rw [hj] at e1; cases e1
    obtain ⟨p, c, e⟩ := RowK.own_shape skStrK e2
    exact ⟨(p, _, c), e⟩)
  have hl2 : vs.length = T.length := by simpa using hl
  refine ⟨vs, ?_, hl2, fun j F hF => ?_⟩
  · have o : skSliK.Own B' W v vs := by
      show W.ownsRow B' tR 1 v vs.length (skSliK.row vs)
      rw [skSliK_row, hl2]; exact h1
    exact skSliK.own_base o fun g hg => Nat.le_trans hB (skSliK.own_lt o g hg).1
  · obtain ⟨u, e1, e2, _⟩ := h3 j F hF
    rw [List.getElem?_map] at e1
    obtain ⟨x, hx, rfl⟩ := Option.map_eq_some_iff.1 e1
    have o : skStrK.Own B' W (slV x) F := by
      show W.ownsRow B' tS 1 (slV x) F.length (skStrK.row F)
      rw [skStrK_row]; exact e2
    exact ⟨x, hx, skStrK.own_base o fun g hg => Nat.le_trans hB (skStrK.own_lt o g hg).1⟩
/-- A row behind a table's copy. -/
theorem tbl_behind {B B2 : Nat} {W W2 : World} {v v2 : Value} {vs : List Sl3} {T : List (List (List UInt8))} {x : Sl3} {F : List (List UInt8)} (h : TblO B W v vs T) (hF : StrsAt W (slV x) F) (k : Keeps W W2) (ho : skSliK.Own B2 W2 v2 (vs ++ [x])) (hm : T.length < 100000) : RowsAt W2 v2 (T ++ [F]) := by
  obtain ⟨p, c, e, e0, hs⟩ := RowK.own_src skSliK ho
  have hl := h.2.1
  refine ⟨p, c, by rw [e]; simp [hl], by simp [maxLen]; omega, fun j G hG => ?_⟩
  have key : ∃ y, (vs ++ [x])[j]? = some y ∧ StrsAt W2 (slV y) G := by
    by_cases hj : j < T.length
    · rw [List.getElem?_append_left hj] at hG
      obtain ⟨y, hy, oy⟩ := h.2.2 j G hG
      exact ⟨y, by rw [List.getElem?_append_left (by omega)]; exact hy, (skStrK_strs oy).keeps k⟩
    · have hj2 : j = T.length := by
        have := (List.getElem?_eq_some_iff.1 hG).1
        simp at this; omega
      subst hj2
      simp at hG
      subst hG
      exact ⟨x, by rw [← hl]; simp, hF.keeps k⟩
  obtain ⟨y, hy, hsy⟩ := key
  cases p with
  | none => exact absurd (e0 rfl).1 (by simp)
  | some a => exact ⟨a, slV y, rfl, hs a rfl j (slV y) (by rw [skSliK_row, List.getElem?_map, hy]; rfl), hsy⟩
theorem sl_set {B g n c i : Nat} {W : World} {vs : List Sl3} {y : Sl3} (h : skSliK.Own B W (.slice (some ⟨g, 0, none⟩) n c) vs) : skSliK.Own B (W.setCell ⟨g, i, none⟩ (slV y)) (.slice (some ⟨g, 0, none⟩) n c) (vs.set i y) := by
  obtain ⟨h1, h2⟩ := h
  refine ⟨skSliK.row_len _, ?_⟩
  rcases h2 with ⟨e, _⟩ | ⟨g', cap, cur, e, hb, hg, r1, r2, r3, r4⟩
  · cases e
  · simp only [Value.slice.injEq, Option.some.injEq, Addr.mk.injEq] at e
    obtain ⟨⟨rfl, _, _⟩, rfl, rfl⟩ := e
    right
    refine ⟨g, c, _, by rw [List.length_set], hb, Joins.block_setCell hg _, by rw [List.length_set]; exact r1, r2, by simpa using r3, ?_⟩
    have e1 : skSliK.sz = 1 := rfl
    rw [skSliK_row, e1, Nat.mul_one] at r4
    rw [skSliK_row, e1, Nat.mul_one, List.length_set, Array.toList_setIfInBounds, List.take_set, r4, List.map_set]
/-- A row of the table stored. -/
theorem TblO.set {B g n c i : Nat} {W : World} {vs : List Sl3} {T : List (List (List UInt8))} {y : Sl3} {G : List (List UInt8)} (h : TblO B W (.slice (some ⟨g, 0, none⟩) n c) vs T) (hG : skStrK.Own B W (slV y) G) :
    TblO B (W.setCell ⟨g, i, none⟩ (slV y)) (.slice (some ⟨g, 0, none⟩) n c) (vs.set i y) (T.set i G) := by
  have far : ∀ {x : Sl3} {F : List (List UInt8)}, skStrK.Own B W (slV x) F → skStrK.Own B (W.setCell ⟨g, i, none⟩ (slV y)) (slV x) F := fun {x F} hx => by
    refine skStrK.own_local hx fun g2 hg2 => Below.heap_setCell _ ⟨g, i, none⟩ _ _ ?_
    have hne := own_ne (e := tS) (e' := tR) hx h.1 (by decide)
    rcases hne with hne | hne
    · rw [hne] at hg2; cases hg2
    · intro e
      subst e
      exact hne (by rw [hg2]; rfl)
  refine ⟨sl_set h.1, by simpa using h.2.1, fun j F hF => ?_⟩
  have hl := h.2.1
  by_cases hj : j = i
  · subst hj
    have hlt : j < T.length := by
      have := (List.getElem?_eq_some_iff.1 hF).1
      simpa using this
    rw [List.getElem?_set_self hlt] at hF
    cases hF
    exact ⟨y, List.getElem?_set_self (by omega), far hG⟩
  · rw [List.getElem?_set_ne (Ne.symm hj)] at hF
    obtain ⟨x, hx, ox⟩ := h.2.2 j F hF
    exact ⟨x, by rw [List.getElem?_set_ne (Ne.symm hj)]; exact hx, far ox⟩
/-- Where a table lies. -/
theorem TblO.lies {B : Nat} {W : World} {v : Value} {vs : List Sl3} {T : List (List (List UInt8))} (h : TblO B W v vs T) (hT : T ≠ []) : ∃ g c, v = .slice (some ⟨g, 0, none⟩) T.length c ∧ B ≤ g ∧ g < W.heap.size ∧ T.length ≤ c ∧ c ≤ maxLen ∧ ∀ i, i < T.length → ∃ x, vs[i]? = some x ∧ W.cell? ⟨g, i, none⟩ = some (slV x) ∧ W.frozen? ⟨g, i, none⟩ = false := by
  obtain ⟨h1, h2, h3⟩ := h
  have hh := h1
  rcases h1.2 with ⟨rfl, h0⟩ | ⟨g, cap, cur, rfl, hb, hg, r1, r2, r3, r4⟩
  · exact absurd (List.length_eq_zero_iff.1 (by omega)) hT
  · refine ⟨g, cap, by rw [h2], hb, (Array.getElem?_eq_some_iff.1 hg).1, by omega, r2, fun i hi => ?_⟩
    obtain ⟨x, hx⟩ : ∃ x, vs[i]? = some x := ⟨_, List.getElem?_eq_getElem (by omega)⟩
    refine ⟨x, hx, ?_, Joins.unfrozen_of_block hg i⟩
    have := RowK.own_at skSliK hh hx (j := 0) (u := slV x) rfl
    simpa [skSliK] using this

/-! ### A count's digits -/
theorem put_small : ∀ n : Fin 256, Mon.put ((n.val : Nat) : Int) = if 10 ≤ n.val then Mon.put ((n.val / 10 : Nat) : Int) ++ [Mon.dg n.val] else [Mon.dg n.val] := by decide +kernel
theorem put_len256 : ∀ n : Fin 256, (Mon.put ((n.val : Nat) : Int)).length ≤ 3 := by decide +kernel
set_option maxHeartbeats 2000000 in
theorem sk_count3 (n : Nat) (hn : n < 256) (w : World) : Calls Tryd.prog 19 #[.int .u8 (n : Int)] w fun e w' => e = .returned (.string ⟨(Mon.put (n : Int)).toArray⟩) ∧ Keeps w w' := by
  induction n using Nat.strongRecOn generalizing w with
  | ind n ih =>
  have P := Lib.hid (put_small ⟨n, hn⟩)
  have hcv := byte_string (P := Tryd.prog) w 66 5 Tryd.underlying66 Tryd.underlying5 _ _ (Mon.byte_digit n) 9 Tryd.underlying9
  have e1 : IntKind.u8.wrap ((n : Int) % 10) = (n : Int) % 10 := IntWalk.u8_in _ ⟨by omega, by omega⟩
  have e2 : IntKind.u8.wrap (48 + (n : Int) % 10) = 48 + (n : Int) % 10 := IntWalk.u8_in _ ⟨by omega, by omega⟩
  have e3 : IntKind.u8.wrap ((n : Int) / 10) = ((n / 10 : Nat) : Int) := by rw [IntWalk.u8_in _ ⟨by omega, by omega⟩]; omega
  by_cases hb : 10 ≤ n
  · have hlt : n / 10 < n := by omega
    have IH := Lib.hid fun W => ih (n / 10) hlt (by omega) W
    have hp := P.out
    simp only [if_pos hb] at hp
    have HP := Lib.hid hp
    have hz : (Mon.put ((n / 10 : Nat) : Int)).length ≤ 3 := put_len256 ⟨n / 10, by omega⟩
    obtain ⟨Y, hY⟩ : ∃ Y : ByteArray, ⟨(Mon.put ((n / 10 : Nat) : Int)).toArray⟩ = Y := ⟨_, rfl⟩
    have HY := Lib.hid hY
    have zY : Y.size ≤ 3 := by rw [← hY, size_mk]; exact hz
    have nf : ¬ (9223372036854775807 < Y.size + 1) := by omega
    have hge : (10 : Int) ≤ (n : Int) := by omega
    have KB := Lib.hid (ky_box w (.cells #[.int .u8 (48 + (n : Int) % 10)] 5))
    rw [hY] at IH
    clear hp ih hY hz hlt
    go_enter Tryd.func19, Tryd.ntmps19
    go_wp2_with fail
    refine (IH.out _).mono ?_
    rintro e w1 ⟨rfl, k1⟩
    have K1 := Lib.hid (Keeps.trans KB.out k1)
    clear k1
    go_wp2
    go_ret
    refine ⟨ret_str ?_, K1.out⟩
    rw [HP.out, ← HY.out]
    exact ByteArray.mk_append_mk _ _
  · have hp := P.out
    simp only [if_neg hb] at hp
    have HP := Lib.hid hp
    have hge : ¬ ((10 : Int) ≤ (n : Int)) := by omega
    have KB := Lib.hid (ky_box w (.cells #[.int .u8 (48 + (n : Int) % 10)] 5))
    clear hp ih
    go_enter Tryd.func19, Tryd.ntmps19
    go_wp2
    go_ret
    exact ⟨ret_str (by rw [HP.out]), KB.out⟩
end Go.Proofs.YthhblaagdakdmaaDoor
namespace Go.Proofs.YthhblaagdakdmaaDoor
open Go.ChangeShapes Go.WideShapes Go.ChangeAt Go.RowKit Ky Rw Stk

namespace Stk
theorem sk_fits_behind {s : Int} {L : List R} (h : Valid 1 s L) (hN : L.length ≤ 60) {F : List Bt} (hF : F.length ≤ 5) (hf : ∀ f ∈ F, f.length ≤ 20) : (Csv.prRows (tableL s L ++ [F])).length ≤ 65536 ∧ Fits (tableL s L ++ [F]) := by
  have h1 : ∀ G ∈ tableL s L ++ [F], G.length ≤ 5 ∧ ∀ f ∈ G, f.length ≤ 20 := fun G hG => by
    rcases List.mem_append.1 hG with hG | hG
    · have := plain_table h G hG
      exact ⟨Nat.le_trans this.2.1 (by decide), fun f hf => Nat.le_trans (this.2.2 f hf).2 (by decide)⟩
    · rw [List.mem_singleton.1 hG]; exact ⟨hF, hf⟩
  have h2 := rows_short _ 20 5 h1
  have h3 : (tableL s L ++ [F]).length = L.length + 3 := by rw [List.length_append, table_len]; rfl
  rw [h3] at h2
  have h4 : (L.length + 3) * (5 * (2 * 20 + 3) + 1) ≤ 63 * 216 := Nat.mul_le_mul (by omega) (by omega)
  have h5 := Nat.le_trans h2 h4
  exact ⟨Nat.le_trans h5 (by decide), ⟨fun G hG f hf => Nat.le_trans ((h1 G hG).2 f hf) (by decide), Nat.le_trans h5 (by decide)⟩⟩
theorem tableC_is (s : Int) (L : List R) (c : Nat) : (tableL s L).set (L.length + 1) (endT c) = tableC s L c := by
  unfold tableL tableC
  rw [List.set_cons_succ]
  congr 1
  rw [show L.length = (L.map rowT).length by simp, List.set_append_right _ _ (Nat.le_refl _)]
  simp
theorem sk_fits_count {s : Int} {L : List R} (h : Valid 1 s L) (hN : L.length ≤ 60) {c : Nat} (hc : (Mon.put (c : Int)).length ≤ 3) : (Csv.prRows (tableC s L c)).length ≤ 65536 ∧ Fits (tableC s L c) := by
  have h1 : ∀ G ∈ tableC s L c, G.length ≤ 5 ∧ ∀ f ∈ G, f.length ≤ 20 := fun G hG => by
    have e : tableC s L c = headT s :: L.map rowT ++ [endT c] := by simp [tableC]
    rw [e] at hG
    rcases List.mem_append.1 hG with hG | hG
    · have := plain_table h G (by rw [show tableL s L = headT s :: L.map rowT ++ [endT L.length] by simp [tableL]]; exact List.mem_append_left _ hG)
      exact ⟨Nat.le_trans this.2.1 (by decide), fun f hf => Nat.le_trans (this.2.2 f hf).2 (by decide)⟩
    · rw [List.mem_singleton.1 hG]
      refine ⟨by simp [endT], fun f hf => ?_⟩
      simp only [endT, List.mem_cons, List.not_mem_nil, or_false] at hf
      rcases hf with rfl | rfl
      · decide
      · exact Nat.le_trans hc (by decide)
  have h2 := rows_short _ 20 5 h1
  have h3 : (tableC s L c).length = L.length + 2 := by simp [tableC]
  rw [h3] at h2
  have h4 : (L.length + 2) * (5 * (2 * 20 + 3) + 1) ≤ 63 * 216 := Nat.mul_le_mul (by omega) (by omega)
  have h5 := Nat.le_trans h2 h4
  exact ⟨Nat.le_trans h5 (by decide), ⟨fun G hG f hf => Nat.le_trans ((h1 G hG).2 f hf) (by decide), Nat.le_trans h5 (by decide)⟩⟩
end Stk
theorem csv_own (T : ByteArray) {s : Int} {L : List R} (h : Valid 1 s L) (hT : T.data.toList = fileL s L) (hz : T.size ≤ maxLen) (W : World) (hm : HasMax W) :
    Calls Tryd.prog 16 #[.string T] W fun e w' => ∃ v, e = .returned (.tuple #[v, .agg #[.int .i64 0, .int .i64 0, .int .i64 0]]) ∧ OwnTable W.heap.size w' v (tableL s L) ∧ Keeps W w' := by
  refine (parse_all T W hz hm).mono ?_
  rintro e w' ⟨k, v, line, col, code, rfl, ho⟩
  rcases ho with ⟨T', h1, _, _, h4, rfl, rfl, rfl⟩ | ⟨a, b, h1, _⟩
  · rw [hT, run_file h] at h1
    cases h1
    exact ⟨v, rfl, h4, k⟩
  · rw [hT, parse_file h] at h1; cases h1
theorem n_two {N M : Nat} (h : M = N + 2) (hN : N ≤ 60) : wrap64 ((N : Int) + 2) = (M : Int) ∧ wrap64 ((M : Int) + 1) = (M : Int) + 1 ∧ wrap64 ((M : Int) - 1) = ((N + 1 : Nat) : Int) ∧ (M : Int) + 1 = ((N + 3 : Nat) : Int) ∧ (M : Int) = ((N + 2 : Nat) : Int) ∧ (0 : Int) ≤ ((N + 1 : Nat) : Int) ∧ ((N + 1 : Nat) : Int) < (M : Int) := by
  subst h
  refine ⟨?_, ?_, ?_, by omega, rfl, by omega, by omega⟩
  · rw [i64w (by unfold top; omega) (by unfold top; omega)]; omega
  · exact i64w (by unfold top; omega) (by unfold top; omega)
  · rw [i64w (by unfold top; omega) (by unfold top; omega)]; omega
set_option maxHeartbeats 16000000 in
set_option maxRecDepth 100000 in
theorem stockCount_go (p s : Int) (v : Value) (L : List R) (cnt : Nat) (vb : Value) (F : List Bt) (w : World) (hp : HasS w) (hl : RowsIn w v L) (hc : cnt < 256) (hF : StrsAt w vb F) :
    Calls Tryd.prog 7 #[stV p s v, .int .u8 (cnt : Int), vb] w fun e w' => e = .returned (.bool true) ∧ Keeps w w' := by
  have HCU := Lib.hid hc
  have I1 := Lib.hid hl
  obtain ⟨q, c, rfl, hmx, _, _⟩ := hl
  have F1 : Hid (∀ W, Keeps w W → StrsAt W vb F) := Lib.hid fun W k => hF.keeps k
  obtain ⟨pb, cb, rfl, hmb, _⟩ := hF
  obtain ⟨N, hN⟩ : ∃ N, L.length = N := ⟨_, rfl⟩
  have HN := Lib.hid hN
  obtain ⟨NB, hNB⟩ : ∃ N, F.length = N := ⟨_, rfl⟩
  have HNB := Lib.hid hNB
  rw [hN] at hmx I1 ⊢
  rw [hNB] at hmb F1 ⊢
  clear hN hc hNB
  have KB := Lib.hid (ky_box w (stBox p s (.slice q N c)))
  have SB := Lib.hid (sk_st_box w p s (.slice q N c))
  have IB := Lib.hid (I1.out.keeps KB.out)
  have HP : Hid (∀ W, Keeps w W → HasS W) := Lib.hid fun W k => hp.keeps k
  have HS : Hid (∀ W, Keeps w W → Calls Tryd.prog 8 #[] W fun e w' => e = .returned (.bool true) ∧ Keeps W w') := Lib.hid fun W k => sk_stocked W (hp.keeps k)
  unfold maxLen at hmx hmb
  unfold stV
  unfold stBox at KB SB IB
  clear hp
  obtain ⟨w1, hw1⟩ : ∃ W, w.alloc (.cells #[.int .i64 p, .int .i64 s, .slice q N c] tSt) = W := ⟨_, rfl⟩
  have Z1 : Hid (w.heap.size < w1.heap.size) := Lib.hid (by rw [← hw1]; simp)
  rw [hw1] at KB SB IB
  obtain ⟨x0, x1, x2⟩ := (sk_three_atG (SB.out _ (Keeps.refl _))).1
  go_enter Tryd.func7, Tryd.ntmps7
  by_cases hbig : N ≤ 60
  rotate_left
  · go_wp2_with fail
    refine (HS.out _ KB.out).mono ?_
    rintro e w2 ⟨rfl, k2⟩
    go_wp2
    go_ret
    exact ⟨rfl, KB.out.trans k2⟩
  by_cases hbb : NB ≤ 5
  rotate_left
  · go_wp2_with fail
    refine (HS.out _ KB.out).mono ?_
    rintro e w2 ⟨rfl, k2⟩
    go_wp2
    go_ret
    exact ⟨rfl, KB.out.trans k2⟩
  have HBIG := Lib.hid hbig
  have HBB := Lib.hid hbb
  go_wp2_with fail
  go_loopg [7] NB (fun g v7 W => ∃ i : Nat, i + g = NB ∧ v7 = .int .i64 (i : Int) ∧ (∀ (j : Nat) (f : Bt), j < i → F[j]? = some f → f.length ≤ 20) ∧ W = w1)
  case atStart => exact ⟨0, by omega, rfl, fun j f hj => absurd hj (Nat.not_lt_zero j), rfl⟩
  case round =>
    obtain ⟨i, hi, rfl, hs, rfl⟩ := hrel
    have HI := Lib.hid hi
    have HSH := Lib.hid hs
    clear hs
    cases gk with
    | succ g =>
      have hlt : i < NB := by as_aux_lemma => (omega)
      obtain ⟨f, hf⟩ : ∃ f, F[i]? = some f := ⟨_, List.getElem?_eq_getElem (by rw [HNB.out]; exact hlt)⟩
      have HF := Lib.hid hf
      obtain ⟨pf, cf, ef, _, hcf⟩ := F1.out wr KB.out
      rw [HNB.out] at ef
      simp only [Value.slice.injEq] at ef
      obtain ⟨rfl, _, rfl⟩ := ef
      obtain ⟨af, rfl, hcx⟩ := hcf i f hf
      obtain ⟨S, hS⟩ : ∃ S : ByteArray, ⟨f.toArray⟩ = S := ⟨_, rfl⟩
      have SS : Hid (S.size = f.length) := Lib.hid (by rw [← hS, size_mk])
      unfold sv at hcx
      rw [hS] at hcx
      have hi1 : (i : Int) < (NB : Int) := by as_aux_lemma => (omega)
      have hi0 : (0 : Int) ≤ (i : Int) := by as_aux_lemma => (omega)
      have wi : wrap64 ((i : Int) + 1) = (i : Int) + 1 := i64w (by as_aux_lemma => (unfold top; omega)) (by as_aux_lemma => (unfold top; have := HBB.out; omega))
      clear hf hcf hS hlt
      by_cases hz : S.size ≤ 20
      · have NX : Hid (∀ (j : Nat) (f : Bt), j < i + 1 → F[j]? = some f → f.length ≤ 20) := Lib.hid (fun j g hj hg => by
          rcases Nat.lt_or_ge j i with h | h
          · exact HSH.out j g h hg
          · have e : j = i := Nat.le_antisymm (Nat.le_of_lt_succ hj) h
            subst e
            rw [HF.out] at hg
            cases hg
            exact SS.out ▸ hz)
        go_wp2_with fail
        go_roundg g
        case measure => omega
        case rel => exact ⟨i + 1, by as_aux_lemma => (have := HI.out; omega), by first | (rw [wi]; rfl) | rfl | go_num, NX.out, rfl⟩
      · go_wp2_with fail
        refine (HS.out _ KB.out).mono ?_
        rintro e w2 ⟨rfl, k2⟩
        go_wp2
        go_ret
        exact ⟨rfl, KB.out.trans k2⟩
    | zero =>
      obtain rfl : i = NB := by as_aux_lemma => (omega)
      have hd : decide ((i : Int) < (i : Int)) = false := decide_eq_false (by as_aux_lemma => (omega))
      have hzz : ¬ ((i : Int) < (i : Int)) := by as_aux_lemma => (omega)
      have HF20 : Hid (∀ f ∈ F, f.length ≤ 20) := Lib.hid (fun f hf => by
        obtain ⟨j, hj⟩ := List.mem_iff_getElem?.1 hf
        have hlt := (List.getElem?_eq_some_iff.1 hj).1
        rw [HNB.out] at hlt
        exact HSH.out j f hlt hj)
      have C1 := Lib.hid (sp_print p s _ L wr IB.out (HP.out _ KB.out).p (HP.out _ KB.out).m)
      by_cases hv : p = 1 ∧ validB p s L = true
      rotate_left
      · have PT : Hid (skPrtS p s L = ⟨#[]⟩ ∧ prtC p s L = 2) := Lib.hid (by unfold skPrtS Stk.prt prtC; rw [if_neg hv, if_neg hv]; exact ⟨rfl, rfl⟩)
        rw [PT.out.1, PT.out.2] at C1
        unfold stV at C1
        go_wp2_with fail
        refine C1.out.mono ?_
        rintro e w2 ⟨rfl, k2⟩
        have K2 := Lib.hid (KB.out.trans k2)
        clear k2 C1 x0 x1 x2
        go_wp2_with fail
        refine (HS.out _ K2.out).mono ?_
        rintro e w4 ⟨rfl, k4⟩
        go_wp2
        go_ret
        exact ⟨rfl, Keeps.trans K2.out k4⟩
      obtain ⟨rfl, hvb⟩ := hv
      have VA := Lib.hid (valid_iff.1 hvb)
      obtain ⟨T, hT⟩ : ∃ T, skPrtS 1 s L = T := ⟨_, rfl⟩
      have HTL : Hid (T.data.toList = fileL s L) := Lib.hid (by
        have hv : (1 : Int) = 1 ∧ validB 1 s L = true := ⟨rfl, hvb⟩
        rw [← hT]
        unfold skPrtS Stk.prt
        rw [if_pos hv, data_mk])
      have PC : prtC 1 s L = 0 := by unfold prtC; rw [if_pos ⟨rfl, hvb⟩]
      rw [hT, PC] at C1
      have ZT : Hid (T.size ≤ maxLen) := Lib.hid (Nat.le_trans (by rw [← len_data, HTL.out]; exact file_small VA.out) (by unfold maxLen; decide))
      unfold stV at C1
      clear hT PC hvb
      go_wp2_with fail
      refine C1.out.mono ?_
      rintro e w2 ⟨rfl, k2⟩
      have K2 := Lib.hid k2
      clear k2 C1 x0 x1 x2
      go_wp2_with fail
      refine (csv_own T VA.out HTL.out ZT.out w2 (HP.out _ (KB.out.trans K2.out)).m).mono ?_
      rintro e w3 ⟨vt, rfl, ot, k3⟩
      have K3 := Lib.hid (K2.out.trans k3)
      have OT := Lib.hid ot
      have K23 := Lib.hid k3
      clear ot k3
      go_upto_region 12 with (fail)
      obtain ⟨w4, hw4⟩ : ∃ W, w3.alloc (.cells #[.int .i64 0, .int .i64 0, .int .i64 0] skRj) = W := ⟨_, rfl⟩
      have k34 : Keeps w3 w4 := hw4 ▸ kept_alloc (Keeps.refl w3) _
      have K4 := Lib.hid (K3.out.trans k34)
      obtain ⟨vs, tb⟩ := own_tbl (OT.out.keeps k34)
      have TB := Lib.hid tb
      obtain ⟨M, hM⟩ : ∃ M, (tableL s L).length = M := ⟨_, rfl⟩
      have hM2 : M = N + 2 := by rw [← hM, table_len, HN.out]
      have hTne : tableL s L ≠ [] := by simp [tableL]
      obtain ⟨tg, tc, rfl, hg0, hg1, hg2, hg3, hg4⟩ := tb.lies hTne
      rw [hM] at hg2 hg4 TB ⊢
      obtain ⟨m1, m2, m3, m4, m5, m6, m7⟩ := n_two hM2 HBIG.out
      have HMI := Lib.hid (And.intro m4 m5)
      have q1 : ((M : Int) == (N : Int) + 2) = true := by rw [beq_iff_eq, m5]; rfl
      have q2 : ((M : Int) != (N : Int) + 2) = false := by rw [bne, q1]; rfl
      have HM := Lib.hid hM
      have HM2 := Lib.hid hM2
      have HMS : M ≤ 62 := by rw [hM2]; exact Nat.add_le_add_right HBIG.out 2
      have HVL : Hid (vs.length = M) := Lib.hid (tb.2.1.trans hM)
      have B4 : Hid (w2.heap.size ≤ w4.heap.size) := Lib.hid (Nat.le_trans K23.out.size k34.size)
      have G4 : Hid (w2.heap.size ≤ tg ∧ tg < w4.heap.size) := Lib.hid ⟨hg0, hg1⟩
      have hS4 := SB.out w4 K4.out
      obtain ⟨x0, x1, x2⟩ := (sk_three_atG hS4).1
      -- the table's copy, and the row behind it
      obtain ⟨p5, c5, w5, R1, R2, R3⟩ := skSliK.copy_row w4 (.slice (some ⟨tg, 0, none⟩) M tc) vs (RowK.own_src skSliK TB.out.1) (HVL.out ▸ Nat.le_trans HMS (by decide))
      rw [HVL.out] at R1 R2
      obtain ⟨p6, c6, w6, Q1, Q2, Q3⟩ := skSliK.app_row (w5.alloc (.cells #[slV (pb, i, cb)] tR)) w4.heap.size (.slice p5 M c5) vs (.slice (some ⟨w5.heap.size, 0, none⟩) 1 1) [(pb, i, cb)] (skSliK.own_keeps R2 (kept_alloc (Keeps.refl w5) _)) (sk_src1 w5 (pb, i, cb)) (HVL.out ▸ Nat.le_trans (Nat.succ_le_succ HMS) (by decide)) (Nat.le_trans R3.size (by simp))
      have e6 : vs.length + [(pb, i, cb)].length = M + 1 := by rw [HVL.out]; rfl
      rw [e6] at Q1 Q2
      have HR1 : Hid ((Builtin.append_ #[skSliK.ts, skSliK.ts] skSliK.ts #[.slice none 0 0, .slice (some ⟨tg, 0, none⟩) M tc]).run Tryd.prog w4 = .ok (.slice p5 M c5) w5) := Lib.hid R1
      have HR2 : Hid ((Builtin.append_ #[skSliK.ts, skSliK.ts] skSliK.ts #[.slice p5 M c5, .slice (some ⟨w5.heap.size, 0, none⟩) 1 1]).run Tryd.prog (w5.alloc (.cells #[.slice pb i cb] tR)) = .ok (.slice p6 (M + 1) c6) w6) := Lib.hid Q1
      have K46 : Hid (Keeps w4 w6) := Lib.hid (sk_mono (v := .slice p5 M c5) (kept_alloc R3 _) Q3 fun j hj => (skSliK.own_lt R2 j hj).1)
      have RB : Hid (RowsAt w6 (.slice p6 (M + 1) c6) (tableL s L ++ [F])) := Lib.hid (tbl_behind TB.out (show StrsAt w4 (slV (pb, i, cb)) F from F1.out w4 (KB.out.trans K4.out)) K46.out Q2 (HM.out ▸ Nat.lt_of_le_of_lt HMS (by decide)))
      have FB := Lib.hid (sk_fits_behind VA.out (by rw [HN.out]; exact HBIG.out) (by rw [HNB.out]; exact HBB.out) HF20.out)
      obtain ⟨X, hX⟩ : ∃ X : ByteArray, ⟨(Csv.prRows (tableL s L ++ [F])).toArray⟩ = X := ⟨_, rfl⟩
      have CX : Hid (∀ W, Keeps w6 W → Calls Tryd.prog 18 #[.slice p6 (M + 1) c6] W fun e w' => e = .returned (.string X) ∧ Keeps W w') := Lib.hid fun W k => by
        rw [← hX]
        exact csPrint_any _ _ W (RB.out.keeps k) FB.out.2 (HP.out _ ((KB.out.trans (K4.out.trans K46.out)).trans k)).m
      have CXB : Hid (∀ W, Keeps w6 W → Calls Tryd.prog 17 #[.string X, .int .i64 ((M : Int) + 1), .int .i64 1, .int .i64 7] W fun e w' => e = .returned (.bool true) ∧ Keeps W w') := Lib.hid fun W k => by
        refine skBad X (N + 3) 1 7 W (HP.out _ ((KB.out.trans (K4.out.trans K46.out)).trans k)) ?_ ?_ _ _ HMI.out.1 rfl
        · rw [← hX, size_mk]; exact Nat.le_trans FB.out.1 (by unfold maxLen; decide)
        · rw [← hX, data_mk, ← HN.out]; exact parse_behind VA.out FB.out.1
      clear R1 R2 R3 Q1 Q2 Q3 e6 hX k34 tb hTne hM hM2 hg0 hg1 hg2 hg3 hg4 m4 m5 hS4
      rw [hw4]
      clear hw4 m1 m2 m3 m6 m7 hi hd hzz
      go_wp2_with (at_builtin; first | refine wpAppKnown rfl _ _ _ _ rfl _ _ _ _ rfl rfl HR1.out ?_ | refine wpAppKnown rfl _ _ _ _ rfl _ _ _ _ rfl rfl HR2.out ?_)
      refine (CX.out _ (Keeps.refl _)).mono ?_
      rintro e w7 ⟨rfl, k7⟩
      have K7 := Lib.hid k7
      clear k7 CX HR1 HR2 x0 x1 x2
      go_wp2_with fail
      refine (CXB.out _ K7.out).mono ?_
      rintro e w8 ⟨rfl, k8⟩
      have K8 := Lib.hid (K46.out.trans (K7.out.trans k8))
      clear k8 CXB
      -- the end row, stored
      have CC := Lib.hid (fun W => sk_count3 cnt HCU.out W)
      obtain ⟨Y, hY⟩ : ∃ Y : ByteArray, ⟨(Mon.put (cnt : Int)).toArray⟩ = Y := ⟨_, rfl⟩
      rw [hY] at CC
      go_wp2_with fail
      refine (CC.out _).mono ?_
      rintro e w9 ⟨rfl, k9⟩
      have K9 := Lib.hid (K8.out.trans k9)
      clear k9 CC
      obtain ⟨w10, hw10⟩ : ∃ W, w9.alloc (.cells #[.string ⟨#[101, 110, 100]⟩, .string Y] tS) = W := ⟨_, rfl⟩
      have k10 : Keeps w9 w10 := hw10 ▸ kept_alloc (Keeps.refl w9) _
      have K10 := Lib.hid (K9.out.trans k10)
      have OE : Hid (skStrK.Own w2.heap.size w10 (slV (some ⟨w9.heap.size, 0, none⟩, 2, 2)) (endT cnt)) := Lib.hid (by
        rw [← hw10]
        exact sk_lit (G := endT cnt) (by rw [← hY]; rfl) rfl (show 2 ≤ maxLen by unfold maxLen; decide) w2.heap.size (Nat.le_trans B4.out K9.out.size))
      have T10 := Lib.hid (TB.out.keeps K10.out)
      have e1 : M - 1 = N + 1 := by rw [HM2.out]; rfl
      obtain ⟨z, hz2, hz3⟩ : ∃ z, w10.cell? ⟨tg, M - 1, none⟩ = some (slV z) ∧ w10.frozen? ⟨tg, M - 1, none⟩ = false := by
        obtain ⟨g', c', e', _, _, _, _, h5⟩ := T10.out.lies (by simp [tableL])
        rw [HM.out] at e' h5
        simp only [Value.slice.injEq, Option.some.injEq, Addr.mk.injEq] at e'
        obtain ⟨⟨rfl, _, _⟩, _, _⟩ := e'
        obtain ⟨z, _, h6, h7⟩ := h5 (M - 1) (by rw [e1, HM2.out]; exact Nat.lt_succ_self _)
        exact ⟨z, h6, h7⟩
      obtain ⟨w11, hw11⟩ : ∃ W, w10.setCell ⟨tg, M - 1, none⟩ (.slice (some ⟨w9.heap.size, 0, none⟩) 2 2) = W := ⟨_, rfl⟩
      have T11 : Hid (RowsAt w11 (.slice (some ⟨tg, 0, none⟩) M tc) (tableC s L cnt)) := Lib.hid (by
        rw [← hw11, ← tableC_is, HN.out, e1]
        refine TblO.rows (TblO.set (y := (some ⟨w9.heap.size, 0, none⟩, 2, 2)) T10.out OE.out) ?_
        rw [List.length_set, HM.out]; exact Nat.le_trans HMS (by decide))
      have K11 : Hid (Keeps wr w11) := Lib.hid (by
        rw [← hw11]
        exact (K4.out.trans K10.out).setCell (p := ⟨tg, M - 1, none⟩) (Nat.le_trans K2.out.size G4.out.1) _)
      have r0 : 0 < M := HM2.out ▸ Nat.succ_pos _
      have r1 : (0 : Int) ≤ (M : Int) - 1 := by as_aux_lemma => (omega)
      have r2 : (M : Int) - 1 < (M : Int) := by as_aux_lemma => (omega)
      clear e1
      clear k10
      go_upto_region 18 with (fail)
      try rw [hw11]
      have FC := Lib.hid (sk_fits_count VA.out (by rw [HN.out]; exact HBIG.out) (c := cnt) (put_len256 ⟨cnt, HCU.out⟩))
      have HS11 := Lib.hid (HS.out w11 (KB.out.trans K11.out))
      obtain ⟨y0, y1, y2⟩ := (sk_three_atG (SB.out w11 K11.out)).1
      clear hw10 hw11 hz2 hz3 hY
      by_cases hcn : cnt = N
      · subst hcn
        have q3 : ((cnt : Int) == (cnt : Int)) = true := beq_self_eq_true _
        clear q1 q2 r0 r1 r2
        go_wp2_with fail
        refine HS11.out.mono ?_
        rintro e w12 ⟨rfl, k12⟩
        go_wp2
        go_ret
        exact ⟨rfl, (KB.out.trans K11.out).trans k12⟩
      · have q3 : ((cnt : Int) == (N : Int)) = false := by rw [beq_eq_false_iff_ne]; exact fun e => hcn (Int.ofNat.inj e)
        have q4 : ¬ (cnt : Int) = (N : Int) := fun e => hcn (Int.ofNat.inj e)
        have NE : Hid (cnt ≠ L.length) := Lib.hid (by rw [HN.out]; exact hcn)
        obtain ⟨X2, hX2⟩ : ∃ X : ByteArray, ⟨(Csv.prRows (tableC s L cnt)).toArray⟩ = X := ⟨_, rfl⟩
        have CY : Hid (Calls Tryd.prog 18 #[.slice (some ⟨tg, 0, none⟩) M tc] w11 fun e w' => e = .returned (.string X2) ∧ Keeps w11 w') := Lib.hid (by
          rw [← hX2]
          exact csPrint_any _ _ w11 T11.out FC.out.2 (HP.out _ (KB.out.trans K11.out)).m)
        have CYB : Hid (∀ W, Keeps w11 W → Calls Tryd.prog 17 #[.string X2, .int .i64 (M : Int), .int .i64 2, .int .i64 4] W fun e w' => e = .returned (.bool true) ∧ Keeps W w') := Lib.hid fun W k => by
          refine skBad X2 (N + 2) 2 4 W (HP.out _ ((KB.out.trans K11.out).trans k)) ?_ ?_ _ _ HMI.out.2 rfl
          · rw [← hX2, size_mk]; exact Nat.le_trans FC.out.1 (by unfold maxLen; decide)
          · rw [← hX2, data_mk, ← HN.out]; exact parse_count VA.out (Nat.le_trans (Nat.le_of_lt HCU.out) (by decide)) NE.out FC.out.1
        have hc := HCU.out
        clear q1 q2 hX2 hcn r0 r1 r2
        go_wp2_with fail
        refine CY.out.mono ?_
        rintro e w12 ⟨rfl, k12⟩
        have K12 := Lib.hid k12
        clear k12 CY y0 y1 y2
        go_wp2_with fail
        refine (CYB.out _ K12.out).mono ?_
        rintro e w13 ⟨rfl, k13⟩
        have K13 := Lib.hid (K11.out.trans (K12.out.trans k13))
        clear k13 CYB
        go_wp2_with fail
        refine (HS.out _ (KB.out.trans K13.out)).mono ?_
        rintro e w14 ⟨rfl, k14⟩
        go_wp2
        go_ret
        exact ⟨rfl, (KB.out.trans K13.out).trans k14⟩
theorem ku8_of {n : Int} (h : (Lit.int .u8 n).wf = true) : ∃ N : Nat, n = N ∧ N < 256 := by
  simp only [Lit.wf, IntKind.min, IntKind.max, IntKind.signed, IntKind.bits, Bool.and_eq_true] at h
  refine ⟨n.toNat, ?_, ?_⟩ <;> simp at h <;> omega
theorem stockCount_go' (p s : Int) (v : Value) (L : List R) (n : Int) (vb : Value) (F : List Bt) (w : World) (hp : HasS w) (hl : RowsIn w v L) (hn : (Lit.int .u8 n).wf = true) (hF : StrsAt w vb F) (_ : ∀ f ∈ F, f.length ≤ maxLen) :
    Calls Tryd.prog 7 #[stV p s v, .int .u8 n, vb] w fun e w' => e = .returned (.bool true) ∧ Keeps w w' := by
  obtain ⟨C, rfl, hC⟩ := ku8_of hn
  exact stockCount_go p s v L C vb F w hp hl hC hF
end Go.Proofs.YthhblaagdakdmaaDoor
