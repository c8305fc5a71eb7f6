
/- Tables of texts: rows and fields stored, a row left out, or twice; csv's own table of a file of the carrier. Cells that came in, opened. -/
import Derived.Test.YtnkcbefamajghaaDoorMfL1
import Derived.Test.YtnkcbefamajghaaDoorOpenSt
import Derived.Deep.Slices
import Derived.SliceStrings
import Derived.Test.YtnkcbefamajghaaDoorHeldSteps
set_option linter.unusedVariables false
namespace Go.Proofs.YtnkcbefamajghaaDoor
open Go.ChangeShapes Go.WideShapes Go.ChangeAt Go.RowKit Ky Rw Csv

theorem skSliK_row (vs : List Sl3) : skSliK.row vs = vs.map slV := by
  unfold RowK.row
  induction vs with
  | nil => rfl
  | cons x r ih => rw [List.flatMap_cons, ih]; rfl
theorem sl_list : ∀ vals : List Value, (∀ u ∈ vals, ∃ x : Sl3, u = slV x) → ∃ vs : List Sl3, vals = vs.map slV
  | [], _ => ⟨[], rfl⟩
  | u :: r, h => by
    obtain ⟨x, rfl⟩ := h u (by simp)
    obtain ⟨vs, rfl⟩ := sl_list r fun u hu => h u (List.mem_cons_of_mem _ hu)
    exact ⟨x :: vs, rfl⟩
/-- csv's own table. -/
theorem own_tbl {B : Nat} {W : World} {v : Value} {T : List (List (List UInt8))} (h : OwnTable B W v T) : ∃ vs, TblO B W v vs T := by
  obtain ⟨B', vr, row, hB, vals, h1, h2, h3⟩ := h
  have hl : vals.length = T.length := by have := h1.1; omega
  obtain ⟨vs, rfl⟩ := sl_list vals (fun u hu => by
    obtain ⟨j, hj⟩ := List.mem_iff_getElem?.1 hu
    have hjl := (List.getElem?_eq_some_iff.1 hj).1
    obtain ⟨u', e1, e2, _⟩ := h3 j (T[j]'(by omega)) (List.getElem?_eq_getElem _)
    rw [hj] at e1; cases e1
    obtain ⟨p, c, e⟩ := RowK.own_shape skStrK e2
    exact ⟨(p, _, c), e⟩)
  have hl2 : vs.length = T.length := by simpa using hl
  refine ⟨vs, ?_, hl2, fun j F hF => ?_⟩
  · have o : skSliK.Own B' W v vs := by
      show W.ownsRow B' tR 1 v vs.length (skSliK.row vs)
      rw [skSliK_row, hl2]; exact h1
    exact skSliK.own_base o fun g hg => Nat.le_trans hB (skSliK.own_lt o g hg).1
  · obtain ⟨u, e1, e2, _⟩ := h3 j F hF
    rw [List.getElem?_map] at e1
    obtain ⟨x, hx, rfl⟩ := Option.map_eq_some_iff.1 e1
    have o : skStrK.Own B' W (slV x) F := by
      show W.ownsRow B' tS 1 (slV x) F.length (skStrK.row F)
      rw [skStrK_row]; exact e2
    exact ⟨x, hx, skStrK.own_base o fun g hg => Nat.le_trans hB (skStrK.own_lt o g hg).1⟩
/-- A row behind a table's copy. -/
theorem tbl_behind {B B2 : Nat} {W W2 : World} {v v2 : Value} {vs : List Sl3} {T : List (List (List UInt8))} {x : Sl3} {F : List (List UInt8)} (h : TblO B W v vs T) (hF : StrsAt W (slV x) F) (k : Keeps W W2) (ho : skSliK.Own B2 W2 v2 (vs ++ [x])) (hm : T.length < 100000) : RowsAt W2 v2 (T ++ [F]) := by
  obtain ⟨p, c, e, e0, hs⟩ := RowK.own_src skSliK ho
  have hl := h.2.1
  refine ⟨p, c, by rw [e]; simp [hl], by simp [maxLen]; omega, fun j G hG => ?_⟩
  have key : ∃ y, (vs ++ [x])[j]? = some y ∧ StrsAt W2 (slV y) G := by
    by_cases hj : j < T.length
    · rw [List.getElem?_append_left hj] at hG
      obtain ⟨y, hy, oy⟩ := h.2.2 j G hG
      exact ⟨y, by rw [List.getElem?_append_left (by omega)]; exact hy, (skStrK_strs oy).keeps k⟩
    · have hj2 : j = T.length := by
        have := (List.getElem?_eq_some_iff.1 hG).1
        simp at this; omega
      subst hj2
      simp at hG
      subst hG
      exact ⟨x, by rw [← hl]; simp, hF.keeps k⟩
  obtain ⟨y, hy, hsy⟩ := key
  cases p with
  | none => exact absurd (e0 rfl).1 (by simp)
  | some a => exact ⟨a, slV y, rfl, hs a rfl j (slV y) (by rw [skSliK_row, List.getElem?_map, hy]; rfl), hsy⟩
theorem sl_set {B g n c i : Nat} {W : World} {vs : List Sl3} {y : Sl3} (h : skSliK.Own B W (.slice (some ⟨g, 0, none⟩) n c) vs) : skSliK.Own B (W.setCell ⟨g, i, none⟩ (slV y)) (.slice (some ⟨g, 0, none⟩) n c) (vs.set i y) := by
  obtain ⟨h1, h2⟩ := h
  refine ⟨skSliK.row_len _, ?_⟩
  rcases h2 with ⟨e, _⟩ | ⟨g', cap, cur, e, hb, hg, r1, r2, r3, r4⟩
  · cases e
  · simp only [Value.slice.injEq, Option.some.injEq, Addr.mk.injEq] at e
    obtain ⟨⟨rfl, _, _⟩, rfl, rfl⟩ := e
    right
    refine ⟨g, c, _, by rw [List.length_set], hb, Joins.block_setCell hg _, by rw [List.length_set]; exact r1, r2, by simpa using r3, ?_⟩
    have e1 : skSliK.sz = 1 := rfl
    rw [skSliK_row, e1, Nat.mul_one] at r4
    rw [skSliK_row, e1, Nat.mul_one, List.length_set, Array.toList_setIfInBounds, List.take_set, r4, List.map_set]
/-- A row of the table stored. -/
theorem TblO.set {B g n c i : Nat} {W : World} {vs : List Sl3} {T : List (List (List UInt8))} {y : Sl3} {G : List (List UInt8)} (h : TblO B W (.slice (some ⟨g, 0, none⟩) n c) vs T) (hG : skStrK.Own B W (slV y) G) :
    TblO B (W.setCell ⟨g, i, none⟩ (slV y)) (.slice (some ⟨g, 0, none⟩) n c) (vs.set i y) (T.set i G) := by
  have far : ∀ {x : Sl3} {F : List (List UInt8)}, skStrK.Own B W (slV x) F → skStrK.Own B (W.setCell ⟨g, i, none⟩ (slV y)) (slV x) F := fun {x F} hx => by
    refine skStrK.own_local hx fun g2 hg2 => Below.heap_setCell _ ⟨g, i, none⟩ _ _ ?_
    have hne := own_ne (e := tS) (e' := tR) hx h.1 (by decide)
    rcases hne with hne | hne
    · rw [hne] at hg2; cases hg2
    · intro e
      subst e
      exact hne (by rw [hg2]; rfl)
  refine ⟨sl_set h.1, by simpa using h.2.1, fun j F hF => ?_⟩
  have hl := h.2.1
  by_cases hj : j = i
  · subst hj
    have hlt : j < T.length := by
      have := (List.getElem?_eq_some_iff.1 hF).1
      simpa using this
    rw [List.getElem?_set_self hlt] at hF
    cases hF
    exact ⟨y, List.getElem?_set_self (by omega), far hG⟩
  · rw [List.getElem?_set_ne (Ne.symm hj)] at hF
    obtain ⟨x, hx, ox⟩ := h.2.2 j F hF
    exact ⟨x, by rw [List.getElem?_set_ne (Ne.symm hj)]; exact hx, far ox⟩
/-- Where a table lies. -/
theorem TblO.lies {B : Nat} {W : World} {v : Value} {vs : List Sl3} {T : List (List (List UInt8))} (h : TblO B W v vs T) (hT : T ≠ []) : ∃ g c, v = .slice (some ⟨g, 0, none⟩) T.length c ∧ B ≤ g ∧ g < W.heap.size ∧ T.length ≤ c ∧ c ≤ maxLen ∧ ∀ i, i < T.length → ∃ x, vs[i]? = some x ∧ W.cell? ⟨g, i, none⟩ = some (slV x) ∧ W.frozen? ⟨g, i, none⟩ = false := by
  obtain ⟨h1, h2, h3⟩ := h
  have hh := h1
  rcases h1.2 with ⟨rfl, h0⟩ | ⟨g, cap, cur, rfl, hb, hg, r1, r2, r3, r4⟩
  · exact absurd (List.length_eq_zero_iff.1 (by omega)) hT
  · refine ⟨g, cap, by rw [h2], hb, (Array.getElem?_eq_some_iff.1 hg).1, by omega, r2, fun i hi => ?_⟩
    obtain ⟨x, hx⟩ : ∃ x, vs[i]? = some x := ⟨_, List.getElem?_eq_getElem (by omega)⟩
    refine ⟨x, hx, ?_, Joins.unfrozen_of_block hg i⟩
    have := RowK.own_at skSliK hh hx (j := 0) (u := slV x) rfl
    simpa [skSliK] using this
end Go.Proofs.YtnkcbefamajghaaDoor
namespace Go.Proofs.YtnkcbefamajghaaDoor
open Go.ChangeShapes Go.WideShapes Go.ChangeAt Go.RowKit Csv Go.Deep Ky Rw
section Open
variable {H : Type} {enc : TypeId × Value → H} {w : World} {base : Nat} {held : Bool}

abbrev tCe : TypeId := 42
structure CeM where
  r : Nat
  c : Nat
  s : ByteArray
/-- A cell that is read. -/
def CeAt (w : World) (a : Addr) (x : CeM) : Prop := w.cell? a = some (.int .u8 (x.r : Int)) ∧ w.cell? ⟨a.block, a.off + 1, none⟩ = some (.int .u8 (x.c : Int)) ∧ w.cell? ⟨a.block, a.off + 2, none⟩ = some (.string x.s)
theorem CeAt.keeps {w w' : World} {a : Addr} {x : CeM} (h : CeAt w a x) (k : Keeps w w') : CeAt w' a x := ⟨cell_keeps k h.1, cell_keeps k h.2.1, cell_keeps k h.2.2⟩
def CesIn (w : World) (v : Value) (L : List CeM) : Prop := ∃ p c, v = .slice p L.length c ∧ L.length ≤ maxLen ∧ ∀ j x, L[j]? = some x → (x.r < 256 ∧ x.c < 256) ∧ ∃ a : Addr, p = some a ∧ CeAt w (a.add (j * 3)) x
theorem CesIn.keeps {w w' : World} {v : Value} {L : List CeM} (h : CesIn w v L) (k : Keeps w w') : CesIn w' v L := by
  obtain ⟨p, c, h1, h2, h3⟩ := h
  refine ⟨p, c, h1, h2, fun j x hx => ?_⟩
  obtain ⟨hb, a, ha, hr⟩ := h3 j x hx
  exact ⟨hb, a, ha, hr.keeps k⟩
theorem ce_str : Tryd.prog.cellsOf 9 = 1 := by kernel_rfl
theorem ce_u8 : Tryd.prog.cellsOf 5 = 1 := by kernel_rfl
theorem sc_ce : Tryd.prog.cellsOf tCe = 3 := by kernel_rfl
theorem su8_nat {n : Int} (h : (Lit.int .u8 n).wf = true) : ∃ N : Nat, n = N ∧ N < 256 := by
  simp only [Lit.wf, IntKind.min, IntKind.max, IntKind.signed, IntKind.bits, Bool.and_eq_true] at h
  refine ⟨n.toNat, ?_, ?_⟩ <;> simp at h <;> omega
theorem ce_of {fuel : Nat} {cs : List Value} {x : DataW H × List MemPlace} (h : DataW.trod enc Tryd.prog w base (fun _ => true) held fuel tCe cs = some x) : ∃ a : CeM, cs = [.int .u8 (a.r : Int), .int .u8 (a.c : Int), .string a.s] ∧ a.r < 256 ∧ a.c < 256 := by
  obtain ⟨ys, n, _, _, hlen, hyl, hf⟩ := DataW.trod_struct Tryd.underlying42 h
  rw [sc_ce] at hlen
  obtain ⟨c0, c1, c2, rfl⟩ := sl3 hlen
  have hys : ys.length = 3 := hyl
  have g : ∀ i, i < 3 → ∃ y, ys[i]? = some y := fun i hi => ⟨_, List.getElem?_eq_getElem (by omega)⟩
  have f0 : DataW.trod enc Tryd.prog w base (fun _ => true) held n 5 (([c0, c1, c2].drop 0).take (Tryd.prog.cellsOf 5)) = ys[0]? := hf 0 _ rfl
  have f1 : DataW.trod enc Tryd.prog w base (fun _ => true) held n 5 (([c0, c1, c2].drop 1).take (Tryd.prog.cellsOf 5)) = ys[1]? := hf 1 _ rfl
  have f2 : DataW.trod enc Tryd.prog w base (fun _ => true) held n 9 (([c0, c1, c2].drop 2).take (Tryd.prog.cellsOf 9)) = ys[2]? := hf 2 _ rfl
  simp only [ce_u8, ce_str, List.drop_zero, List.take_succ_cons, List.take_zero, List.drop_succ_cons] at f0 f1 f2
  obtain ⟨y0, e0⟩ := g 0 (by omega)
  obtain ⟨y1, e1⟩ := g 1 (by omega)
  obtain ⟨y2, e2⟩ := g 2 (by omega)
  rw [e0] at f0
  rw [e1] at f1
  rw [e2] at f2
  obtain ⟨k0, q0, _, w0⟩ := DataW.trod_int Tryd.underlying5 f0
  obtain ⟨k1, q1, _, w1⟩ := DataW.trod_int Tryd.underlying5 f1
  obtain ⟨s, q2, _, _⟩ := DataW.trod_string Tryd.underlying9 f2
  obtain rfl := (List.cons.inj q0).1
  obtain rfl := (List.cons.inj q1).1
  obtain rfl := (List.cons.inj q2).1
  obtain ⟨N0, rfl, h0⟩ := su8_nat w0
  obtain ⟨N1, rfl, h1⟩ := su8_nat w1
  exact ⟨⟨N0, N1, s⟩, rfl, h0, h1⟩
theorem open_cells_in {p : Option Addr} {n c : Nat} {v : Value} {d : DataW H} {ps : List MemPlace} (e : v = .slice p n c) (h : DataW.Trod enc Tryd.prog w base (fun _ => true) held 36 v d ps) : ∃ L : List CeM, CesIn w v L := by
  obtain ⟨fuel, h⟩ := h
  subst e
  rcases open_slice Tryd.underlying36 h with ⟨hcs, _⟩ | ⟨a, len, cap, m, n', D, Pl, hcs, _, hl, hm, hz, _, hi⟩
  · rw [(List.cons.inj hcs).1]
    exact ⟨[], none, 0, rfl, by simp [maxLen], fun j x hx => by simp at hx⟩
  · rw [(List.cons.inj hcs).1]
    simp only [if_true] at hz
    have key : ∀ i, i < len → ∃ x : CeM, (x.r < 256 ∧ x.c < 256) ∧ CeAt w (a.add (i * 3)) x := by
      intro i hil
      obtain ⟨cs', h1, h2⟩ := hi i (by omega)
      rw [sc_ce] at h1
      obtain ⟨x, rfl, hb⟩ := ce_of h2
      obtain ⟨_, _, hat⟩ := World.cells?_some h1
      have far : ∀ k, 0 < k → (a.add (i * 3)).add k = ⟨(a.add (i * 3)).block, (a.add (i * 3)).off + k, none⟩ := fun k hk => by
        unfold Addr.add
        rw [if_neg (by omega : ¬ k = 0)]
      refine ⟨x, hb, ?_, ?_, ?_⟩
      · have h0 := hat 0 (by decide)
        have e : (a.add (i * 3)).add 0 = a.add (i * 3) := rfl
        rw [e] at h0
        exact h0
      · have h0 := hat 1 (by decide)
        rw [far 1 (by omega)] at h0
        exact h0
      · have h0 := hat 2 (by decide)
        rw [far 2 (by omega)] at h0
        exact h0
    have hall : ∃ L : List CeM, L.length = len ∧ ∀ j x, L[j]? = some x → (x.r < 256 ∧ x.c < 256) ∧ CeAt w (a.add (j * 3)) x := by
      refine ⟨(List.range len).map fun i => if hi : i < len then (key i hi).choose else ⟨0, 0, ByteArray.empty⟩, by simp, fun j x hx => ?_⟩
      rw [List.getElem?_map] at hx
      have hj : j < len := by
        rcases Nat.lt_or_ge j len with h | h
        · exact h
        · rw [List.getElem?_eq_none (by simpa using h)] at hx
          cases hx
      rw [List.getElem?_range hj] at hx
      simp only [Option.map_some, hj, dif_pos, Option.some.injEq] at hx
      rw [← hx]
      exact (key j hj).choose_spec
    obtain ⟨L, hL, hR⟩ := hall
    exact ⟨L, some a, cap, by rw [hL], by omega, fun j x hx => ⟨(hR j x hx).1, a, rfl, (hR j x hx).2⟩⟩
end Open
end Go.Proofs.YtnkcbefamajghaaDoor
namespace Go.Proofs.YtnkcbefamajghaaDoor
open Go.ChangeShapes Go.WideShapes Go.ChangeAt Go.RowKit Ky Rw Mft
open Stk (Bt)

theorem str_set {B g n c i : Nat} {W : World} {F : List Bt} {f : Bt} (h : skStrK.Own B W (.slice (some ⟨g, 0, none⟩) n c) F) : skStrK.Own B (W.setCell ⟨g, i, none⟩ (sv f)) (.slice (some ⟨g, 0, none⟩) n c) (F.set i f) := by
  obtain ⟨h1, h2⟩ := h
  refine ⟨skStrK.row_len _, ?_⟩
  rcases h2 with ⟨e, _⟩ | ⟨g', cap, cur, e, hb, hg, r1, r2, r3, r4⟩
  · cases e
  · simp only [Value.slice.injEq, Option.some.injEq, Addr.mk.injEq] at e
    obtain ⟨⟨rfl, _, _⟩, rfl, rfl⟩ := e
    right
    refine ⟨g, c, _, by rw [List.length_set], hb, Joins.block_setCell hg _, by rw [List.length_set]; exact r1, r2, by simpa using r3, ?_⟩
    have e1 : skStrK.sz = 1 := rfl
    rw [skStrK_row, e1, Nat.mul_one] at r4
    rw [skStrK_row, e1, Nat.mul_one, List.length_set, Array.toList_setIfInBounds, List.take_set, r4]
    unfold svs
    rw [List.map_set]
theorem str_lies {B : Nat} {W : World} {v : Value} {F : List Bt} (h : skStrK.Own B W v F) {i : Nat} (hi : i < F.length) : ∃ g c x, v = .slice (some ⟨g, 0, none⟩) F.length c ∧ B ≤ g ∧ W.cell? ⟨g, i, none⟩ = some x ∧ W.frozen? ⟨g, i, none⟩ = false := by
  have hh := h
  rcases h.2 with ⟨rfl, h0⟩ | ⟨g, cap, cur, rfl, hb, hg, r1, r2, r3, r4⟩
  · omega
  · obtain ⟨x, hx⟩ : ∃ x, F[i]? = some x := ⟨_, List.getElem?_eq_getElem hi⟩
    refine ⟨g, cap, sv x, rfl, hb, ?_, Joins.unfrozen_of_block hg i⟩
    have := RowK.own_at skStrK hh hx (j := 0) (u := sv x) rfl
    simpa [skStrK] using this
theorem sv_of (S : ByteArray) : Value.string S = sv S.data.toList := by
  unfold sv; congr 1
/-- Rows that are few, and not long. -/
def SmallT (T : List (List Bt)) (i : Nat) : Prop := ∀ F ∈ T, F.length ≤ 4 + i ∧ ∀ f ∈ F, f.length ≤ 24
theorem SmallT.set {T : List (List Bt)} {i k : Nat} {G : List Bt} (h : SmallT T i) (h1 : G.length ≤ 4 + (i + 1)) (h2 : ∀ f ∈ G, f.length ≤ 24) : SmallT (T.set k G) (i + 1) := fun F hF => by
  rcases List.mem_or_eq_of_mem_set hF with hF | rfl
  · exact ⟨Nat.le_succ_of_le (h F hF).1, (h F hF).2⟩
  · exact ⟨h1, h2⟩
theorem SmallT.fits {T : List (List Bt)} {i : Nat} (h : SmallT T i) (hi : i ≤ 5) (hT : T.length ≤ 63) : (Csv.prRows T).length ≤ 65536 ∧ Fits T := by
  have h2 := Stk.rows_short T 24 9 fun F hF => ⟨Nat.le_trans (h F hF).1 (by omega), (h F hF).2⟩
  have h4 : T.length * (9 * (2 * 24 + 3) + 1) ≤ 63 * 460 := Nat.mul_le_mul hT (by omega)
  have h5 := Nat.le_trans h2 h4
  exact ⟨Nat.le_trans h5 (by decide), ⟨fun G hG f hf => Nat.le_trans ((h G hG).2 f hf) (by decide), Nat.le_trans h5 (by decide)⟩⟩
theorem small_table {s : Int} {L : List R} (h : Valid 2 s L) : SmallT (Mft.tableL s L) 0 := fun F hF => ⟨Nat.le_trans (table_plain h F hF).2.1 (by decide), fun f hf => ((table_plain h F hF).2.2 f hf).2⟩
theorem small_twice {T : List (List Bt)} {i a b : Nat} (h : SmallT T i) : SmallT (T.take a ++ T.drop b) i := fun F hF => by
  rcases List.mem_append.1 hF with hF | hF
  · exact h F (List.mem_of_mem_take hF)
  · exact h F (List.mem_of_mem_drop hF)
theorem csv_own (T : ByteArray) {s : Int} {L : List R} (h : Valid 2 s L) (hT : T.data.toList = Mft.fileL s L) (hz : T.size ≤ maxLen) (W : World) (hm : HasMax W) :
    Calls Tryd.prog 19 #[.string T] W fun e w' => ∃ v, e = .returned (.tuple #[v, .agg #[.int .i64 0, .int .i64 0, .int .i64 0]]) ∧ OwnTable W.heap.size w' v (Mft.tableL s L) ∧ Keeps W w' := by
  refine (mf_csv T W hz hm).mono ?_
  rintro e w' ⟨k, v, line, col, code, rfl, ho⟩
  rcases ho with ⟨T', h1, _, _, h4, rfl, rfl, rfl⟩ | ⟨a, b, h1, _⟩
  · rw [hT, run_file h] at h1
    cases h1
    exact ⟨v, rfl, h4, k⟩
  · rw [hT, parse_file h] at h1; cases h1
theorem rcsv_own (T : ByteArray) {s : Int} {L : List R} (h : Valid 2 s L) (hT : T.data.toList = Mft.fileL s L) (hz : T.size ≤ maxLen) (W : World) :
    Calls Tryd.prog 15 #[.string T] W fun e w' => ∃ v, e = .returned (.tuple #[v, .agg #[.int .i64 0, .int .i64 0, .int .i64 0]]) ∧ OwnTable W.heap.size w' v (Mft.tableL s L) ∧ Keeps W w' := by
  refine (mf_rcsv T W hz).mono ?_
  rintro e w' ⟨k, v, line, col, code, rfl, ho⟩
  rcases ho with ⟨T', h1, _, _, h4, rfl, rfl, rfl⟩ | ⟨a, b, h1, _⟩
  · rw [hT, run_file h] at h1
    cases h1
    exact ⟨v, rfl, h4, k⟩
  · rw [hT, parse_file h] at h1; cases h1
/-- Rows out of a table of the call's own, by their headers. -/
theorem tbl_rows {B B2 : Nat} {W W2 : World} {v v2 : Value} {vs vs2 : List Sl3} {T T2 : List (List Bt)} (h : TblO B W v vs T) (k : Keeps W W2) (ho : skSliK.Own B2 W2 v2 vs2) (hl : vs2.length = T2.length) (hm : T2.length ≤ 100000)
    (hs : ∀ (j : Nat) (G : List Bt), T2[j]? = some G → ∃ i : Nat, T[i]? = some G ∧ vs2[j]? = vs[i]?) : RowsAt W2 v2 T2 := by
  obtain ⟨p, c, e, e0, hsrc⟩ := RowK.own_src skSliK ho
  refine ⟨p, c, by rw [e, hl], by unfold maxLen; omega, fun j G hG => ?_⟩
  obtain ⟨i, hi, hv⟩ := hs j G hG
  obtain ⟨y, hy, oy⟩ := h.2.2 i G hi
  rw [hy] at hv
  cases p with
  | none =>
    have := (e0 rfl).1
    rw [this] at hv; cases hv
  | some a => exact ⟨a, slV y, rfl, hsrc a rfl j (slV y) (by rw [skSliK_row, List.getElem?_map, hv]; rfl), (skStrK_strs oy).keeps k⟩
theorem twice_at {α β : Type} {T : List α} {vs : List β} (hl : vs.length = T.length) {a b : Nat} {j : Nat} {G : α} (h : (T.take a ++ T.drop b)[j]? = some G) : ∃ i : Nat, T[i]? = some G ∧ (vs.take a ++ vs.drop b)[j]? = vs[i]? := by
  have e1 : (vs.take a).length = (T.take a).length := by rw [List.length_take, List.length_take, hl]
  by_cases hj : j < (T.take a).length
  · rw [List.getElem?_append_left hj] at h
    have hja : j < a := by rw [List.length_take] at hj; omega
    rw [List.getElem?_take_of_lt hja] at h
    exact ⟨j, h, by rw [List.getElem?_append_left (by rw [e1]; exact hj), List.getElem?_take_of_lt hja]⟩
  · have hj2 : (T.take a).length ≤ j := Nat.le_of_not_lt hj
    rw [List.getElem?_append_right hj2, List.getElem?_drop] at h
    exact ⟨_, h, by rw [List.getElem?_append_right (by rw [e1]; exact hj2), List.getElem?_drop, e1]⟩
theorem sl_front {B g n c m : Nat} {W : World} {vs : List Sl3} (h : skSliK.Own B W (.slice (some ⟨g, 0, none⟩) n c) vs) (hm : m ≤ vs.length) : skSliK.Src W (.slice (some ⟨g, 0, none⟩) m c) (vs.take m) := by
  refine ⟨_, c, by rw [List.length_take, Nat.min_eq_left hm], (fun e => by cases e), fun a ha j u hu => ?_⟩
  obtain ⟨p, c', e, e0, hs⟩ := RowK.own_src skSliK h
  simp only [Value.slice.injEq] at e
  obtain ⟨rfl, _, rfl⟩ := e
  refine hs a ha j u ?_
  rw [skSliK_row] at hu ⊢
  rw [List.map_take, List.getElem?_take] at hu
  split at hu
  · exact hu
  · cases hu
theorem sl_back {B g n c m : Nat} {W : World} {vs : List Sl3} (h : skSliK.Own B W (.slice (some ⟨g, 0, none⟩) n c) vs) (c2 : Nat) : skSliK.Src W (.slice (some ⟨g, m, none⟩) (vs.length - m) c2) (vs.drop m) := by
  refine ⟨_, c2, by rw [List.length_drop], (fun e => by cases e), fun a ha j u hu => ?_⟩
  cases ha
  obtain ⟨p, c', e, e0, hs⟩ := RowK.own_src skSliK h
  simp only [Value.slice.injEq] at e
  obtain ⟨rfl, _, rfl⟩ := e
  rw [skSliK_row, List.map_drop, List.getElem?_drop, ← skSliK_row] at hu
  have := hs _ rfl (m + j) u hu
  rw [addr_of] at this
  rw [← this]
  congr 1
  unfold Addr.add
  split
  · rename_i h0; subst h0; rfl
  · rfl
theorem twice_nums {k k1 d e M tc : Nat} (h1 : k + 1 = k1) (hd : M - k = d) (he : tc - k = e) (hk : k < M) (hM : M ≤ 62) (hc : M ≤ tc) (hx : tc ≤ maxLen) :
    IntKind.i64.wrap ((k : Int) + 1) = (k1 : Int) ∧ k1 ≤ tc ∧ k ≤ M ∧ k < tc ∧ (¬ tc = k) ∧ (M : Int) - (k : Int) = (d : Int) ∧ (tc : Int) - (k : Int) = (e : Int) ∧ k1 ≤ M ∧ k1 + d ≤ 100000 ∧ k1 + d ≤ 63 := by
  refine ⟨?_, by omega, by omega, by omega, by omega, by omega, by omega, by omega, by omega, by omega⟩
  rw [IntWalk.i64_in _ ⟨by omega, by omega⟩]; omega
theorem less_nums {k k1 d M tc : Nat} (h1 : k + 1 = k1) (hd : M - k1 = d) (hk : k < M) (hM : M ≤ 62) (hc : M ≤ tc) (hx : tc ≤ maxLen) :
    IntKind.i64.wrap ((k : Int) + 1) = (k1 : Int) ∧ k ≤ tc ∧ k1 ≤ M ∧ k1 ≤ tc ∧ (M : Int) - (k1 : Int) = (d : Int) ∧ k + d ≤ 100000 ∧ k + d ≤ 63 := by
  refine ⟨?_, by omega, by omega, by omega, by omega, by omega, by omega⟩
  rw [IntWalk.i64_in _ ⟨by omega, by omega⟩]; omega
theorem sl_nil_any (W : World) (a : Addr) (c : Nat) : skSliK.Src W (.slice (some a) 0 c) [] := ⟨_, c, rfl, (fun e => by cases e), fun b hb j u hu => by simp [RowK.row] at hu⟩
theorem less_at {α β : Type} {T : List α} {vs : List β} (hl : vs.length = T.length) {a b : Nat} {j : Nat} {G : α} (h : (T.take a ++ T.drop b)[j]? = some G) : ∃ i : Nat, T[i]? = some G ∧ (vs.take a ++ vs.drop b)[j]? = vs[i]? := twice_at hl h
end Go.Proofs.YtnkcbefamajghaaDoor
