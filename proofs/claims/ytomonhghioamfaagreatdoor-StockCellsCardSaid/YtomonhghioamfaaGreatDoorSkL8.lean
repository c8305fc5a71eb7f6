
/- Cells that came in, opened. StockCells: the walk. StockCells: the walk. -/
import Derived.Test.YtomonhghioamfaaGreatDoorSkL6
import Derived.Test.YtomonhghioamfaaGreatDoorOpenSt
import Derived.Test.YtomonhghioamfaaGreatDoorOpenArgs
import Derived.Test.YtomonhghioamfaaGreatDoorHeldSteps
set_option linter.unusedVariables false
namespace Go.Proofs.YtomonhghioamfaaGreatDoor
open Go.ChangeShapes Go.WideShapes Go.ChangeAt Go.RowKit Csv Go.Deep Ky Rw
section Open
variable {H : Type} {enc : TypeId × Value → H} {w : World} {base : Nat} {held : Bool}

abbrev tCe : TypeId := 46
structure CeM where
  r : Nat
  c : Nat
  s : ByteArray
/-- A cell that is read. -/
def CeAt (w : World) (a : Addr) (x : CeM) : Prop := w.cell? a = some (.int .u8 (x.r : Int)) ∧ w.cell? ⟨a.block, a.off + 1, none⟩ = some (.int .u8 (x.c : Int)) ∧ w.cell? ⟨a.block, a.off + 2, none⟩ = some (.string x.s)
theorem CeAt.keeps {w w' : World} {a : Addr} {x : CeM} (h : CeAt w a x) (k : Keeps w w') : CeAt w' a x := ⟨cell_keeps k h.1, cell_keeps k h.2.1, cell_keeps k h.2.2⟩
def CesIn (w : World) (v : Value) (L : List CeM) : Prop := ∃ p c, v = .slice p L.length c ∧ L.length ≤ maxLen ∧ ∀ j x, L[j]? = some x → (x.r < 256 ∧ x.c < 256) ∧ ∃ a : Addr, p = some a ∧ CeAt w (a.add (j * 3)) x
theorem CesIn.keeps {w w' : World} {v : Value} {L : List CeM} (h : CesIn w v L) (k : Keeps w w') : CesIn w' v L := by
  obtain ⟨p, c, h1, h2, h3⟩ := h
  refine ⟨p, c, h1, h2, fun j x hx => ?_⟩
  obtain ⟨hb, a, ha, hr⟩ := h3 j x hx
  exact ⟨hb, a, ha, hr.keeps k⟩
theorem sc_ce : Tryz.prog.cellsOf tCe = 3 := by kernel_rfl
theorem su8_nat {n : Int} (h : (Lit.int .u8 n).wf = true) : ∃ N : Nat, n = N ∧ N < 256 := by
  simp only [Lit.wf, IntKind.min, IntKind.max, IntKind.signed, IntKind.bits, Bool.and_eq_true] at h
  refine ⟨n.toNat, ?_, ?_⟩ <;> simp at h <;> omega
theorem ce_of {fuel : Nat} {cs : List Value} {x : DataW H × List MemPlace} (h : DataW.trod enc Tryz.prog w base (fun _ => true) held fuel tCe cs = some x) : ∃ a : CeM, cs = [.int .u8 (a.r : Int), .int .u8 (a.c : Int), .string a.s] ∧ a.r < 256 ∧ a.c < 256 := by
  obtain ⟨ys, n, _, _, hlen, hyl, hf⟩ := DataW.trod_struct Tryz.underlying46 h
  rw [sc_ce] at hlen
  obtain ⟨c0, c1, c2, rfl⟩ := sl3 hlen
  have hys : ys.length = 3 := hyl
  have g : ∀ i, i < 3 → ∃ y, ys[i]? = some y := fun i hi => ⟨_, List.getElem?_eq_getElem (by omega)⟩
  have f0 : DataW.trod enc Tryz.prog w base (fun _ => true) held n 5 (([c0, c1, c2].drop 0).take (Tryz.prog.cellsOf 5)) = ys[0]? := hf 0 _ rfl
  have f1 : DataW.trod enc Tryz.prog w base (fun _ => true) held n 5 (([c0, c1, c2].drop 1).take (Tryz.prog.cellsOf 5)) = ys[1]? := hf 1 _ rfl
  have f2 : DataW.trod enc Tryz.prog w base (fun _ => true) held n 9 (([c0, c1, c2].drop 2).take (Tryz.prog.cellsOf 9)) = ys[2]? := hf 2 _ rfl
  simp only [cells_u8, cells_str, List.drop_zero, List.take_succ_cons, List.take_zero, List.drop_succ_cons] at f0 f1 f2
  obtain ⟨y0, e0⟩ := g 0 (by omega)
  obtain ⟨y1, e1⟩ := g 1 (by omega)
  obtain ⟨y2, e2⟩ := g 2 (by omega)
  rw [e0] at f0
  rw [e1] at f1
  rw [e2] at f2
  obtain ⟨k0, q0, _, w0⟩ := DataW.trod_int Tryz.underlying5 f0
  obtain ⟨k1, q1, _, w1⟩ := DataW.trod_int Tryz.underlying5 f1
  obtain ⟨s, q2, _, _⟩ := DataW.trod_string Tryz.underlying9 f2
  obtain rfl := (List.cons.inj q0).1
  obtain rfl := (List.cons.inj q1).1
  obtain rfl := (List.cons.inj q2).1
  obtain ⟨N0, rfl, h0⟩ := su8_nat w0
  obtain ⟨N1, rfl, h1⟩ := su8_nat w1
  exact ⟨⟨N0, N1, s⟩, rfl, h0, h1⟩
theorem open_cells_in {p : Option Addr} {n c : Nat} {v : Value} {d : DataW H} {ps : List MemPlace} (e : v = .slice p n c) (h : DataW.Trod enc Tryz.prog w base (fun _ => true) held 40 v d ps) : ∃ L : List CeM, CesIn w v L := by
  obtain ⟨fuel, h⟩ := h
  subst e
  rcases open_slice Tryz.underlying40 h with ⟨hcs, _⟩ | ⟨a, len, cap, m, n', D, Pl, hcs, _, hl, hm, hz, _, hi⟩
  · rw [(List.cons.inj hcs).1]
    exact ⟨[], none, 0, rfl, by simp [maxLen], fun j x hx => by simp at hx⟩
  · rw [(List.cons.inj hcs).1]
    simp only [if_true] at hz
    have key : ∀ i, i < len → ∃ x : CeM, (x.r < 256 ∧ x.c < 256) ∧ CeAt w (a.add (i * 3)) x := by
      intro i hil
      obtain ⟨cs', h1, h2⟩ := hi i (by omega)
      rw [sc_ce] at h1
      obtain ⟨x, rfl, hb⟩ := ce_of h2
      obtain ⟨_, _, hat⟩ := World.cells?_some h1
      have far : ∀ k, 0 < k → (a.add (i * 3)).add k = ⟨(a.add (i * 3)).block, (a.add (i * 3)).off + k, none⟩ := fun k hk => by
        unfold Addr.add
        rw [if_neg (by omega : ¬ k = 0)]
      refine ⟨x, hb, ?_, ?_, ?_⟩
      · have h0 := hat 0 (by decide)
        have e : (a.add (i * 3)).add 0 = a.add (i * 3) := rfl
        rw [e] at h0
        exact h0
      · have h0 := hat 1 (by decide)
        rw [far 1 (by omega)] at h0
        exact h0
      · have h0 := hat 2 (by decide)
        rw [far 2 (by omega)] at h0
        exact h0
    have hall : ∃ L : List CeM, L.length = len ∧ ∀ j x, L[j]? = some x → (x.r < 256 ∧ x.c < 256) ∧ CeAt w (a.add (j * 3)) x := by
      refine ⟨(List.range len).map fun i => if hi : i < len then (key i hi).choose else ⟨0, 0, ByteArray.empty⟩, by simp, fun j x hx => ?_⟩
      rw [List.getElem?_map] at hx
      have hj : j < len := by
        rcases Nat.lt_or_ge j len with h | h
        · exact h
        · rw [List.getElem?_eq_none (by simpa using h)] at hx
          cases hx
      rw [List.getElem?_range hj] at hx
      simp only [Option.map_some, hj, dif_pos, Option.some.injEq] at hx
      rw [← hx]
      exact (key j hj).choose_spec
    obtain ⟨L, hL, hR⟩ := hall
    exact ⟨L, some a, cap, by rw [hL], by omega, fun j x hx => ⟨(hR j x hx).1, a, rfl, (hR j x hx).2⟩⟩
end Open
end Go.Proofs.YtomonhghioamfaaGreatDoor
namespace Go.Proofs.YtomonhghioamfaaGreatDoor
open Go.ChangeShapes Go.WideShapes Go.ChangeAt Go.RowKit Ky Rw Stk

theorem str_set {B g n c i : Nat} {W : World} {F : List Bt} {f : Bt} (h : skStrK.Own B W (.slice (some ⟨g, 0, none⟩) n c) F) : skStrK.Own B (W.setCell ⟨g, i, none⟩ (sv f)) (.slice (some ⟨g, 0, none⟩) n c) (F.set i f) := by
  obtain ⟨h1, h2⟩ := h
  refine ⟨skStrK.row_len _, ?_⟩
  rcases h2 with ⟨e, _⟩ | ⟨g', cap, cur, e, hb, hg, r1, r2, r3, r4⟩
  · cases e
  · simp only [Value.slice.injEq, Option.some.injEq, Addr.mk.injEq] at e
    obtain ⟨⟨rfl, _, _⟩, rfl, rfl⟩ := e
    right
    refine ⟨g, c, _, by rw [List.length_set], hb, Joins.block_setCell hg _, by rw [List.length_set]; exact r1, r2, by simpa using r3, ?_⟩
    have e1 : skStrK.sz = 1 := rfl
    rw [skStrK_row, e1, Nat.mul_one] at r4
    rw [skStrK_row, e1, Nat.mul_one, List.length_set, Array.toList_setIfInBounds, List.take_set, r4]
    unfold svs
    rw [List.map_set]
theorem str_lies {B : Nat} {W : World} {v : Value} {F : List Bt} (h : skStrK.Own B W v F) {i : Nat} (hi : i < F.length) : ∃ g c x, v = .slice (some ⟨g, 0, none⟩) F.length c ∧ B ≤ g ∧ W.cell? ⟨g, i, none⟩ = some x ∧ W.frozen? ⟨g, i, none⟩ = false := by
  have hh := h
  rcases h.2 with ⟨rfl, h0⟩ | ⟨g, cap, cur, rfl, hb, hg, r1, r2, r3, r4⟩
  · omega
  · obtain ⟨x, hx⟩ : ∃ x, F[i]? = some x := ⟨_, List.getElem?_eq_getElem hi⟩
    refine ⟨g, cap, sv x, rfl, hb, ?_, Joins.unfrozen_of_block hg i⟩
    have := RowK.own_at skStrK hh hx (j := 0) (u := sv x) rfl
    simpa [skStrK] using this
theorem sv_of (S : ByteArray) : Value.string S = sv S.data.toList := by
  unfold sv; congr 1
/-- Rows that are few, and not long. -/
def SmallT (T : List (List Bt)) (i : Nat) : Prop := ∀ F ∈ T, F.length ≤ 4 + i ∧ ∀ f ∈ F, f.length ≤ 20
theorem SmallT.set {T : List (List Bt)} {i k : Nat} {G : List Bt} (h : SmallT T i) (h1 : G.length ≤ 4 + (i + 1)) (h2 : ∀ f ∈ G, f.length ≤ 20) : SmallT (T.set k G) (i + 1) := fun F hF => by
  rcases List.mem_or_eq_of_mem_set hF with hF | rfl
  · exact ⟨Nat.le_succ_of_le (h F hF).1, (h F hF).2⟩
  · exact ⟨h1, h2⟩
theorem SmallT.fits {T : List (List Bt)} {i : Nat} (h : SmallT T i) (hi : i ≤ 5) (hT : T.length ≤ 63) : (Csv.prRows T).length ≤ 65536 ∧ Fits T := by
  have h2 := rows_short T 20 9 fun F hF => ⟨Nat.le_trans (h F hF).1 (by omega), (h F hF).2⟩
  have h4 : T.length * (9 * (2 * 20 + 3) + 1) ≤ 63 * 388 := Nat.mul_le_mul hT (by omega)
  have h5 := Nat.le_trans h2 h4
  exact ⟨Nat.le_trans h5 (by decide), ⟨fun G hG f hf => Nat.le_trans ((h G hG).2 f hf) (by decide), Nat.le_trans h5 (by decide)⟩⟩
theorem small_table {s : Int} {L : List R} (h : Valid 1 s L) : SmallT (tableL s L) 0 := fun F hF => ⟨(plain_table h F hF).2.1, fun f hf => Nat.le_trans ((plain_table h F hF).2.2 f hf).2 (by decide)⟩
theorem small_twice {T : List (List Bt)} {i a b : Nat} (h : SmallT T i) : SmallT (T.take a ++ T.drop b) i := fun F hF => by
  rcases List.mem_append.1 hF with hF | hF
  · exact h F (List.mem_of_mem_take hF)
  · exact h F (List.mem_of_mem_drop hF)
theorem rcsv_own (T : ByteArray) {s : Int} {L : List R} (h : Valid 1 s L) (hT : T.data.toList = fileL s L) (hz : T.size ≤ maxLen) (W : World) :
    Calls Tryz.prog 12 #[.string T] W fun e w' => ∃ v, e = .returned (.tuple #[v, .agg #[.int .i64 0, .int .i64 0, .int .i64 0]]) ∧ OwnTable W.heap.size w' v (tableL s L) ∧ Keeps W w' := by
  refine (rparse_all T W hz).mono ?_
  rintro e w' ⟨k, v, line, col, code, rfl, ho⟩
  rcases ho with ⟨T', h1, _, _, h4, rfl, rfl, rfl⟩ | ⟨a, b, h1, _⟩
  · rw [hT, run_file h] at h1
    cases h1
    exact ⟨v, rfl, h4, k⟩
  · rw [hT, parse_file h] at h1; cases h1
/-- Rows out of a table of the call's own, by their headers. -/
theorem tbl_rows {B B2 : Nat} {W W2 : World} {v v2 : Value} {vs vs2 : List Sl3} {T T2 : List (List Bt)} (h : TblO B W v vs T) (k : Keeps W W2) (ho : skSliK.Own B2 W2 v2 vs2) (hl : vs2.length = T2.length) (hm : T2.length ≤ 100000)
    (hs : ∀ (j : Nat) (G : List Bt), T2[j]? = some G → ∃ i : Nat, T[i]? = some G ∧ vs2[j]? = vs[i]?) : RowsAt W2 v2 T2 := by
  obtain ⟨p, c, e, e0, hsrc⟩ := RowK.own_src skSliK ho
  refine ⟨p, c, by rw [e, hl], by unfold maxLen; omega, fun j G hG => ?_⟩
  obtain ⟨i, hi, hv⟩ := hs j G hG
  obtain ⟨y, hy, oy⟩ := h.2.2 i G hi
  rw [hy] at hv
  cases p with
  | none =>
    have := (e0 rfl).1
    rw [this] at hv; cases hv
  | some a => exact ⟨a, slV y, rfl, hsrc a rfl j (slV y) (by rw [skSliK_row, List.getElem?_map, hv]; rfl), (skStrK_strs oy).keeps k⟩
theorem twice_at {α β : Type} {T : List α} {vs : List β} (hl : vs.length = T.length) {a b : Nat} {j : Nat} {G : α} (h : (T.take a ++ T.drop b)[j]? = some G) : ∃ i : Nat, T[i]? = some G ∧ (vs.take a ++ vs.drop b)[j]? = vs[i]? := by
  have e1 : (vs.take a).length = (T.take a).length := by rw [List.length_take, List.length_take, hl]
  by_cases hj : j < (T.take a).length
  · rw [List.getElem?_append_left hj] at h
    have hja : j < a := by rw [List.length_take] at hj; omega
    rw [List.getElem?_take_of_lt hja] at h
    exact ⟨j, h, by rw [List.getElem?_append_left (by rw [e1]; exact hj), List.getElem?_take_of_lt hja]⟩
  · have hj2 : (T.take a).length ≤ j := Nat.le_of_not_lt hj
    rw [List.getElem?_append_right hj2, List.getElem?_drop] at h
    exact ⟨_, h, by rw [List.getElem?_append_right (by rw [e1]; exact hj2), List.getElem?_drop, e1]⟩
theorem sl_front {B g n c m : Nat} {W : World} {vs : List Sl3} (h : skSliK.Own B W (.slice (some ⟨g, 0, none⟩) n c) vs) (hm : m ≤ vs.length) : skSliK.Src W (.slice (some ⟨g, 0, none⟩) m c) (vs.take m) := by
  refine ⟨_, c, by rw [List.length_take, Nat.min_eq_left hm], (fun e => by cases e), fun a ha j u hu => ?_⟩
  obtain ⟨p, c', e, e0, hs⟩ := RowK.own_src skSliK h
  simp only [Value.slice.injEq] at e
  obtain ⟨rfl, _, rfl⟩ := e
  refine hs a ha j u ?_
  rw [skSliK_row] at hu ⊢
  rw [List.map_take, List.getElem?_take] at hu
  split at hu
  · exact hu
  · cases hu
theorem sl_back {B g n c m : Nat} {W : World} {vs : List Sl3} (h : skSliK.Own B W (.slice (some ⟨g, 0, none⟩) n c) vs) (c2 : Nat) : skSliK.Src W (.slice (some ⟨g, m, none⟩) (vs.length - m) c2) (vs.drop m) := by
  refine ⟨_, c2, by rw [List.length_drop], (fun e => by cases e), fun a ha j u hu => ?_⟩
  cases ha
  obtain ⟨p, c', e, e0, hs⟩ := RowK.own_src skSliK h
  simp only [Value.slice.injEq] at e
  obtain ⟨rfl, _, rfl⟩ := e
  rw [skSliK_row, List.map_drop, List.getElem?_drop, ← skSliK_row] at hu
  have := hs _ rfl (m + j) u hu
  rw [addr_of] at this
  rw [← this]
  congr 1
  unfold Addr.add
  split
  · rename_i h0; subst h0; rfl
  · rfl
end Go.Proofs.YtomonhghioamfaaGreatDoor
set_option linter.unusedSimpArgs false
namespace Go.Proofs.YtomonhghioamfaaGreatDoor
open Go.ChangeShapes Go.WideShapes Go.ChangeAt Go.RowKit Ky Rw Stk

theorem twice_nums {k k1 d e M tc : Nat} (h1 : k + 1 = k1) (hd : M - k = d) (he : tc - k = e) (hk : k < M) (hM : M ≤ 62) (hc : M ≤ tc) (hx : tc ≤ maxLen) :
    IntKind.i64.wrap ((k : Int) + 1) = (k1 : Int) ∧ k1 ≤ tc ∧ k ≤ M ∧ k < tc ∧ (¬ tc = k) ∧ (M : Int) - (k : Int) = (d : Int) ∧ (tc : Int) - (k : Int) = (e : Int) ∧ k1 ≤ M ∧ k1 + d ≤ 100000 ∧ k1 + d ≤ 63 := by
  refine ⟨?_, by omega, by omega, by omega, by omega, by omega, by omega, by omega, by omega, by omega⟩
  rw [IntWalk.i64_in _ ⟨by omega, by omega⟩]; omega
theorem less_nums {k k1 d M tc : Nat} (h1 : k + 1 = k1) (hd : M - k1 = d) (hk : k < M) (hM : M ≤ 62) (hc : M ≤ tc) (hx : tc ≤ maxLen) :
    IntKind.i64.wrap ((k : Int) + 1) = (k1 : Int) ∧ k ≤ tc ∧ k1 ≤ M ∧ k1 ≤ tc ∧ (M : Int) - (k1 : Int) = (d : Int) ∧ k + d ≤ 100000 ∧ k + d ≤ 63 := by
  refine ⟨?_, by omega, by omega, by omega, by omega, by omega, by omega⟩
  rw [IntWalk.i64_in _ ⟨by omega, by omega⟩]; omega
theorem sl_nil_any (W : World) (a : Addr) (c : Nat) : skSliK.Src W (.slice (some a) 0 c) [] := ⟨_, c, rfl, (fun e => by cases e), fun b hb j u hu => by simp [RowK.row] at hu⟩
theorem less_at {α β : Type} {T : List α} {vs : List β} (hl : vs.length = T.length) {a b : Nat} {j : Nat} {G : α} (h : (T.take a ++ T.drop b)[j]? = some G) : ∃ i : Nat, T[i]? = some G ∧ (vs.take a ++ vs.drop b)[j]? = vs[i]? := twice_at hl h
set_option maxHeartbeats 32000000 in
set_option maxRecDepth 100000 in
theorem stockCells_go (p s : Int) (v : Value) (L : List R) (vl : Value) (CL : List CeM) (n : Int) (w : World) (hp : HasS w) (hl : RowsIn w v L) (hcl : CesIn w vl CL) (hn : -128 ≤ n ∧ n ≤ 127) :
    Calls Tryz.prog 4 #[stV p s v, vl, .int .i8 n] w fun e w' => e = .returned (.bool true) ∧ Keeps w w' := by
  have HNN := Lib.hid hn
  have I1 := Lib.hid hl
  obtain ⟨q, c, rfl, hmx, -, -⟩ := hl
  have F1 : Hid (∀ W, Keeps w W → CesIn W vl CL) := Lib.hid fun W k => hcl.keeps k
  obtain ⟨pb, cb, rfl, hmb, -⟩ := hcl
  obtain ⟨N, hN⟩ : ∃ N, L.length = N := ⟨_, rfl⟩
  have HN := Lib.hid hN
  obtain ⟨NB, hNB⟩ : ∃ N, CL.length = N := ⟨_, rfl⟩
  have HNB := Lib.hid hNB
  rw [hN] at hmx I1 ⊢
  rw [hNB] at hmb F1 ⊢
  clear hN hNB hn
  have KB := Lib.hid (ky_box w (stBox p s (.slice q N c)))
  have SB := Lib.hid (sk_st_box w p s (.slice q N c))
  have IB := Lib.hid (I1.out.keeps KB.out)
  have HP : Hid (∀ W, Keeps w W → HasS W) := Lib.hid fun W k => hp.keeps k
  have HS : Hid (∀ W, Keeps w W → Calls Tryz.prog 10 #[] W fun e w' => e = .returned (.bool true) ∧ Keeps W w') := Lib.hid fun W k => sk_stocked W (hp.keeps k)
  unfold maxLen at hmx hmb
  unfold stV
  unfold stBox at KB SB IB
  clear hp
  obtain ⟨w1, hw1⟩ : ∃ W, w.alloc (.cells #[.int .i64 p, .int .i64 s, .slice q N c] tSt) = W := ⟨_, rfl⟩
  rw [hw1] at KB SB IB
  obtain ⟨x0, x1, x2⟩ := (sk_three_atG (SB.out _ (Keeps.refl _))).1
  go_enter Tryz.func4, Tryz.ntmps4
  by_cases hbig : N ≤ 60
  rotate_left
  · go_wp2_with fail
    refine (HS.out _ KB.out).mono ?_
    rintro e w2 ⟨rfl, k2⟩
    go_wp2
    go_ret
    exact ⟨rfl, KB.out.trans k2⟩
  by_cases hbb : NB ≤ 5
  rotate_left
  · go_wp2_with fail
    refine (HS.out _ KB.out).mono ?_
    rintro e w2 ⟨rfl, k2⟩
    go_wp2
    go_ret
    exact ⟨rfl, KB.out.trans k2⟩
  have HBIG := Lib.hid hbig
  have HBB := Lib.hid hbb
  have C1 := Lib.hid (sk_rprint p s _ L w1 IB.out)
  by_cases hv : p = 1 ∧ validB p s L = true
  rotate_left
  · have PT : Hid (skPrtS p s L = ⟨#[]⟩ ∧ prtC p s L = 2) := Lib.hid (by unfold skPrtS Stk.prt prtC; rw [if_neg hv, if_neg hv]; exact ⟨rfl, rfl⟩)
    rw [PT.out.1, PT.out.2] at C1
    unfold stV at C1
    go_wp2_with fail
    refine C1.out.mono ?_
    rintro e w2 ⟨rfl, k2⟩
    have K2 := Lib.hid (KB.out.trans k2)
    clear k2 C1 x0 x1 x2
    go_wp2_with fail
    refine (HS.out _ K2.out).mono ?_
    rintro e w4 ⟨rfl, k4⟩
    go_wp2
    go_ret
    exact ⟨rfl, Keeps.trans K2.out k4⟩
  obtain ⟨rfl, hvb⟩ := hv
  have VA := Lib.hid (valid_iff.1 hvb)
  obtain ⟨T, hT⟩ : ∃ T, skPrtS 1 s L = T := ⟨_, rfl⟩
  have HTL : Hid (T.data.toList = fileL s L) := Lib.hid (by
    have hv : (1 : Int) = 1 ∧ validB 1 s L = true := ⟨rfl, hvb⟩
    rw [← hT]
    unfold skPrtS Stk.prt
    rw [if_pos hv, data_mk])
  have PC : prtC 1 s L = 0 := by unfold prtC; rw [if_pos ⟨rfl, hvb⟩]
  rw [hT, PC] at C1
  have ZT : Hid (T.size ≤ maxLen) := Lib.hid (Nat.le_trans (by rw [← len_data, HTL.out]; exact file_small VA.out) (by unfold maxLen; decide))
  unfold stV at C1
  clear hT PC hvb
  go_wp2_with fail
  refine C1.out.mono ?_
  rintro e w2 ⟨rfl, k2⟩
  have K2 := Lib.hid (KB.out.trans k2)
  clear k2 C1 x0 x1 x2
  go_wp2_with fail
  refine (rcsv_own T VA.out HTL.out ZT.out w2).mono ?_
  rintro e w3 ⟨vt, rfl, ot, k3⟩
  have K3 := Lib.hid k3
  have OT := Lib.hid ot
  clear ot k3
  go_upto_region 7 with (fail)
  obtain ⟨w4, hw4⟩ : ∃ W, w3.alloc (.cells #[.int .i64 0, .int .i64 0, .int .i64 0] skRj) = W := ⟨_, rfl⟩
  have k34 : Keeps w3 w4 := hw4 ▸ kept_alloc (Keeps.refl w3) _
  have K24 := Lib.hid (K3.out.trans k34)
  obtain ⟨vs0, tb⟩ := own_tbl (OT.out.keeps k34)
  obtain ⟨M, hM⟩ : ∃ M, (tableL s L).length = M := ⟨_, rfl⟩
  have hM2 : M = N + 2 := by rw [← hM, table_len, HN.out]
  obtain ⟨tg, tc, rfl, hg0, hg1, hg2, hg3, -⟩ := tb.lies (show tableL s L ≠ [] by simp [tableL])
  rw [hM] at hg2 tb ⊢
  have TB := Lib.hid tb
  have HM := Lib.hid hM
  have HMS : M ≤ 62 := by rw [hM2]; exact Nat.add_le_add_right HBIG.out 2
  have HM0 : 0 < M := by rw [hM2]; exact Nat.succ_pos _
  have G0 := Lib.hid hg0
  have G2 := Lib.hid hg2
  have G3 := Lib.hid hg3
  have HMS2 := Lib.hid HMS
  rw [hw4]
  clear hw4 hM hM2 hg0 hg1 hg2 hg3 tb k34
  go_wp2_with fail
  go_loopg [11] NB (fun g v11 W => ∃ (i : Nat) (vs : List Sl3) (T : List (List Bt)), i + g = NB ∧ v11 = .int .i64 (i : Int) ∧ TblO w2.heap.size W (.slice (some ⟨tg, 0, none⟩) M tc) vs T ∧ T.length = M ∧ SmallT T i ∧ Keeps w2 W)
  case atStart => exact ⟨0, vs0, tableL s L, by omega, rfl, TB.out, HM.out, small_table VA.out, K24.out⟩
  case round =>
    obtain ⟨i, vs, T, hi, rfl, tbo, htl, hsm, kw⟩ := hrel
    have HI := Lib.hid hi
    have TBO := Lib.hid tbo
    have HTL2 := Lib.hid htl
    have SM := Lib.hid hsm
    have KW := Lib.hid kw
    clear tbo htl hsm kw hi
    cases gk with
    | succ g =>
      have hlt : i < NB := by have := HI.out; as_aux_lemma => (omega)
      obtain ⟨x, hx⟩ : ∃ x, CL[i]? = some x := ⟨_, List.getElem?_eq_getElem (by rw [HNB.out]; exact hlt)⟩
      obtain ⟨pf, cf, ef, -, hcf⟩ := F1.out wr (K2.out.trans KW.out)
      rw [HNB.out] at ef
      simp only [Value.slice.injEq] at ef
      obtain ⟨rfl, -, rfl⟩ := ef
      obtain ⟨⟨hr1, hr2⟩, af, rfl, d0, d1, d2⟩ := hcf i x hx
      obtain ⟨xr, xc, S⟩ := x
      simp only at hr1 hr2 d0 d1 d2
      have hi1 : (i : Int) < (NB : Int) := by as_aux_lemma => (omega)
      have hi0 : (0 : Int) ≤ (i : Int) := by as_aux_lemma => (omega)
      clear hx hcf hlt
      by_cases hz : S.size ≤ 20
      rotate_left
      · clear hr1 hr2 d0 d1
        go_wp2_with fail
        refine (HS.out _ (K2.out.trans KW.out)).mono ?_
        rintro e w5 ⟨rfl, k5⟩
        go_wp2
        go_ret
        exact ⟨rfl, (K2.out.trans KW.out).trans k5⟩
      obtain ⟨k, hk⟩ : ∃ k, xr % M = k := ⟨_, rfl⟩
      have hkM : k < M := by rw [← hk]; exact Nat.mod_lt _ HM0
      have hk2 : (xr : Int) % (M : Int) = (k : Int) := by rw [← hk]; first | exact (Int.natCast_emod _ _).symm | exact (Int.ofNat_emod _ _).symm
      have HKM := Lib.hid hkM
      obtain ⟨F, hF⟩ : ∃ F, T[k]? = some F := ⟨_, List.getElem?_eq_getElem (by rw [HTL2.out]; exact hkM)⟩
      have SF := Lib.hid (SM.out F (List.mem_of_getElem? hF))
      obtain ⟨y, hy, oy⟩ := TBO.out.2.2 k F hF
      obtain ⟨FL, hFL⟩ : ∃ n, F.length = n := ⟨_, rfl⟩
      have HFL := Lib.hid hFL
      have hFL9 : FL ≤ 9 := by rw [← hFL]; exact Nat.le_trans SF.out.1 (by have := HI.out; have := HBB.out; as_aux_lemma => (omega))
      obtain ⟨py, ny, cy⟩ := y
      obtain ⟨p', c', es⟩ := RowK.own_shape skStrK oy
      have es2 : ny = FL := by
        unfold slV at es
        simp only [Value.slice.injEq] at es
        rw [es.2.1, hFL]
      subst es2
      have OY := Lib.hid oy
      obtain ⟨tcell, tfro⟩ : wr.cell? ⟨tg, k, none⟩ = some (.slice py ny cy) ∧ wr.frozen? ⟨tg, k, none⟩ = false := by
        obtain ⟨g', c'', e', _, _, _, _, h5⟩ := TBO.out.lies (fun e => by rw [e] at hF; cases hF)
        rw [HTL2.out] at e' h5
        simp only [Value.slice.injEq, Option.some.injEq, Addr.mk.injEq] at e'
        obtain ⟨⟨rfl, _, _⟩, _, _⟩ := e'
        obtain ⟨z, h6, h7, h8⟩ := h5 k hkM
        rw [hy] at h6
        cases h6
        exact ⟨h7, h8⟩
      obtain ⟨p5, c5, w5, R1, R2, R3⟩ := skStrK.copy_row wr (.slice py ny cy) F (RowK.own_src skStrK OY.out) (HFL.out ▸ Nat.le_trans hFL9 (by decide))
      rw [HFL.out] at R1 R2
      have HR1 : Hid ((Builtin.append_ #[skStrK.ts, skStrK.ts] skStrK.ts #[.slice none 0 0, .slice py ny cy]).run Tryz.prog wr = .ok (.slice p5 ny c5) w5) := Lib.hid R1
      have K5 := Lib.hid R3
      have O5 := Lib.hid R2
      have TB5 := Lib.hid (TBO.out.keeps R3)
      have HB := Lib.hid (Nat.le_trans KW.out.size (Nat.le_refl wr.heap.size))
      obtain ⟨cc, hcc⟩ : ∃ k, xc % (ny + 1) = k := ⟨_, rfl⟩
      have hccM : cc < ny + 1 := by rw [← hcc]; exact Nat.mod_lt _ (Nat.succ_pos _)
      have hcc2 : (xc : Int) % ((ny : Int) + 1) = (cc : Int) := by rw [← hcc]; first | exact (Int.natCast_emod _ _).symm | exact (Int.ofNat_emod _ _).symm
      have tc5 : w5.cell? ⟨tg, k, none⟩ = some (.slice py ny cy) := cell_keeps R3 tcell
      have d15 := cell_keeps R3 d1
      have d25 := cell_keeps R3 d2
      have tf5 : ∀ (W : World), TblO w2.heap.size W (.slice (some ⟨tg, 0, none⟩) M tc) vs T → W.frozen? ⟨tg, k, none⟩ = false := fun W tbw => by
        obtain ⟨g', c'', e', _, _, _, _, h5⟩ := tbw.lies (fun e => by rw [e] at hF; cases hF)
        rw [HTL2.out] at e' h5
        simp only [Value.slice.injEq, Option.some.injEq, Addr.mk.injEq] at e'
        obtain ⟨⟨rfl, _, _⟩, _, _⟩ := e'
        obtain ⟨z, h6, h7, h8⟩ := h5 k hkM
        exact h8
      have TF5 := Lib.hid tf5
      clear R1 R2 R3 hF hy oy es hk hcc tf5 hFL
      by_cases hcE : cc = ny
      · subst hcE
        have hq : ((cc : Int) == (cc : Int)) = true := beq_self_eq_true _
        obtain ⟨p6, c6, w6, Q1, Q2, Q3⟩ := skStrK.app_row (w5.alloc (.cells #[.string S] tS)) wr.heap.size (.slice p5 cc c5) F (.slice (some ⟨w5.heap.size, 0, none⟩) 1 1) [S.data.toList] (skStrK.own_keeps O5.out (kept_alloc (Keeps.refl w5) _)) (RowK.own_src skStrK (sk_lit (G := [S.data.toList]) (by rw [sv_of S]; rfl) rfl (show 1 ≤ maxLen by unfold maxLen; decide) w5.heap.size (Nat.le_refl _))) (by rw [HFL.out]; exact Nat.le_trans (Nat.succ_le_succ hFL9) (by decide)) (Nat.le_trans K5.out.size (by simp))
        have e6 : F.length + [S.data.toList].length = cc + 1 := by rw [HFL.out]; rfl
        rw [e6] at Q1 Q2
        have HR2 : Hid ((Builtin.append_ #[skStrK.ts, skStrK.ts] skStrK.ts #[.slice p5 cc c5, .slice (some ⟨w5.heap.size, 0, none⟩) 1 1]).run Tryz.prog (w5.alloc (.cells #[.string S] tS)) = .ok (.slice p6 (cc + 1) c6) w6) := Lib.hid Q1
        have K6 : Hid (Keeps wr w6) := Lib.hid (sk_mono (v := .slice p5 cc c5) (kept_alloc K5.out _) Q3 fun j hj => (skStrK.own_lt O5.out j hj).1)
        have O6 : Hid (skStrK.Own w2.heap.size w6 (slV (p6, cc + 1, c6)) (F ++ [S.data.toList])) := Lib.hid (skStrK.own_base Q2 fun j hj => Nat.le_trans HB.out (skStrK.own_lt Q2 j hj).1)
        have tc6 : w6.cell? ⟨tg, k, none⟩ = some (.slice py cc cy) := cell_keeps K6.out tcell
        have tf6 := TF5.out w6 (TBO.out.keeps K6.out)
        clear Q1 Q2 Q3 e6 tfro
        go_upto_region 14 with (at_builtin; refine wpAppKnown rfl _ _ _ _ rfl _ _ _ _ rfl rfl HR1.out ?_)
        clear HR1
        go_wp2_with (at_builtin; refine wpAppKnown rfl _ _ _ _ rfl _ _ _ _ rfl rfl HR2.out ?_)
        go_roundg g
        case measure => omega
        case rel =>
          refine ⟨i + 1, vs.set k (p6, cc + 1, c6), T.set k (F ++ [S.data.toList]), by have := HI.out; as_aux_lemma => (omega), by first | rfl | go_num, TblO.set (TBO.out.keeps K6.out) O6.out, by rw [List.length_set]; exact HTL2.out, ?_, ?_⟩
          · refine SM.out.set ?_ ?_
            · rw [List.length_append, HFL.out]
              have := SF.out.1
              rw [HFL.out] at this
              exact Nat.succ_le_succ this
            · intro f hf
              rcases List.mem_append.1 hf with hf | hf
              · exact SF.out.2 f hf
              · rw [List.mem_singleton.1 hf, len_data]; exact hz
          · exact (KW.out.trans K6.out).setCell (p := ⟨tg, k, none⟩) G0.out _
      · have hq : ((cc : Int) == (ny : Int)) = false := by rw [beq_eq_false_iff_ne]; exact fun e => hcE (Int.ofNat.inj e)
        have hq2 : ¬ (cc : Int) = (ny : Int) := fun e => hcE (Int.ofNat.inj e)
        have hccL : cc < ny := Nat.lt_of_le_of_ne (Nat.le_of_lt_succ hccM) hcE
        obtain ⟨g5, c5', z5, e5, hg5, z1, z2⟩ := str_lies O5.out (i := cc) (by rw [HFL.out]; exact hccL)
        rw [HFL.out] at e5
        simp only [Value.slice.injEq] at e5
        obtain ⟨rfl, -, rfl⟩ := e5
        obtain ⟨w6, hw6⟩ : ∃ W, w5.setCell ⟨g5, cc, none⟩ (.string S) = W := ⟨_, rfl⟩
        have K6 : Hid (Keeps wr w6) := Lib.hid (hw6 ▸ K5.out.setCell (p := ⟨g5, cc, none⟩) hg5 _)
        have O6 : Hid (skStrK.Own w2.heap.size w6 (slV (some ⟨g5, 0, none⟩, ny, c5)) (F.set cc S.data.toList)) := Lib.hid (by
          rw [← hw6, sv_of S]
          exact skStrK.own_base (str_set O5.out) fun j hj => Nat.le_trans HB.out (skStrK.own_lt O5.out j hj).1)
        have tc6 : w6.cell? ⟨tg, k, none⟩ = some (.slice py ny cy) := cell_keeps K6.out tcell
        have tf6 := TF5.out w6 (TBO.out.keeps K6.out)
        clear tfro hcE
        go_wp2_with (at_builtin; refine wpAppKnown rfl _ _ _ _ rfl _ _ _ _ rfl rfl HR1.out ?_)
        go_roundg g
        case measure => omega
        case rel =>
          refine ⟨i + 1, vs.set k (some ⟨g5, 0, none⟩, ny, c5), T.set k (F.set cc S.data.toList), by have := HI.out; as_aux_lemma => (omega), by first | rfl | go_num, TblO.set (TBO.out.keeps K6.out) O6.out, by rw [List.length_set]; exact HTL2.out, ?_, ?_⟩
          · refine SM.out.set ?_ ?_
            · rw [List.length_set]
              exact Nat.le_succ_of_le SF.out.1
            · intro f hf
              rcases List.mem_or_eq_of_mem_set hf with hf | rfl
              · exact SF.out.2 f hf
              · rw [len_data]; exact hz
          · exact (KW.out.trans K6.out).setCell (p := ⟨tg, k, none⟩) G0.out _
    | zero =>
      obtain rfl : i = NB := by have := HI.out; as_aux_lemma => (omega)
      have hd : decide ((i : Int) < (i : Int)) = false := decide_eq_false (by as_aux_lemma => (omega))
      have hzz : ¬ ((i : Int) < (i : Int)) := by as_aux_lemma => (omega)
      have KWW := Lib.hid (K2.out.trans KW.out)
      rcases Int.lt_trichotomy n 0 with hn | hn | hn
      rotate_left
      · subst hn
        obtain ⟨T6, rfl⟩ : ∃ X, X = T := ⟨_, rfl⟩
        obtain ⟨w6, rfl⟩ : ∃ X, X = wr := ⟨_, rfl⟩
        have RB := Lib.hid (TBO.out.rows (by rw [HTL2.out]; exact Nat.le_trans HMS2.out (by decide)))
        have FB := Lib.hid (SM.out.fits HBB.out (by rw [HTL2.out]; exact Nat.le_trans HMS2.out (by decide)))
        have K6 := KWW
        obtain ⟨X, hX⟩ : ∃ X : ByteArray, ⟨(Csv.prRows T6).toArray⟩ = X := ⟨_, rfl⟩
        have CX := Lib.hid (rprint_any _ _ w6 RB.out FB.out.2)
        rw [hX] at CX
        have HZ : Hid (X.size ≤ maxLen) := Lib.hid (by rw [← hX, size_mk]; exact Nat.le_trans FB.out.1 (by unfold maxLen; decide))
        clear hX
        go_wp2_with fail
        refine CX.out.mono ?_
        rintro e w7 ⟨rfl, rfl⟩
        clear CX
        cases hP : parseM X.data.toList with
        | ok r =>
          obtain ⟨q, L⟩ := r
          have C1 := Lib.hid (skYes X q L w6 (HP.out _ K6.out) HZ.out hP)
          have C2 : Hid (∀ W, Calls Tryz.prog 15 #[.string X] W fun e w' => ∃ v, e = .returned (.tuple #[stV 1 q v, .agg #[.int .i64 0, .int .i64 0, .int .i64 0]]) ∧ RowsIn w' v L ∧ Keeps W w') := Lib.hid fun W => skrYes X q L W HZ.out hP
          unfold stV at C1 C2
          obtain ⟨NP, hNP⟩ : ∃ N, L.length = N := ⟨_, rfl⟩
          have HNP := Lib.hid hNP
          clear hP hNP
          go_wp2_with fail
          refine C1.out.mono ?_
          rintro e w1 ⟨v1, rfl, i1, k1⟩
          have I1 : Hid (∀ W, Keeps w1 W → RowsIn W v1 L) := Lib.hid fun W k => i1.keeps k
          obtain ⟨p1, c1, e1, -⟩ := i1
          rw [HNP.out] at e1
          subst e1
          have K1 := Lib.hid k1
          clear k1 C1
          go_upto_region 28 with (fail)
          have T1 := Lib.hid (skTwo w1 (.int .i64 1) (.int .i64 q) (.slice p1 NP c1) (.int .i64 0) (.int .i64 0) (.int .i64 0))
          obtain ⟨U1, hU⟩ : ∃ U, (w1.alloc (.cells #[.int .i64 1, .int .i64 q, .slice p1 NP c1] tSt)).alloc (.cells #[.int .i64 0, .int .i64 0, .int .i64 0] skRj) = U := ⟨_, rfl⟩
          rw [hU] at T1 ⊢
          clear hU
          go_wp2_with fail
          refine (C2.out _).mono ?_
          rintro e w2 ⟨v2, rfl, i2, k2⟩
          have I2 : Hid (∀ W, Keeps w2 W → RowsIn W v2 L) := Lib.hid fun W k => i2.keeps k
          obtain ⟨p2, c2, e2, -⟩ := i2
          rw [HNP.out] at e2
          subst e2
          have K2 := Lib.hid k2
          clear k2 C2
          go_upto_region 29 with (fail)
          have T2 := Lib.hid (skTwo w2 (.int .i64 1) (.int .i64 q) (.slice p2 NP c2) (.int .i64 0) (.int .i64 0) (.int .i64 0))
          obtain ⟨U2, hU⟩ : ∃ U, (w2.alloc (.cells #[.int .i64 1, .int .i64 q, .slice p2 NP c2] tSt)).alloc (.cells #[.int .i64 0, .int .i64 0, .int .i64 0] skRj) = U := ⟨_, rfl⟩
          rw [hU] at T2 ⊢
          clear hU
          obtain ⟨⟨⟨b0, b1, b2⟩, y0, y1, y2⟩, ku2⟩ := T2.out U2 (Keeps.refl _)
          obtain ⟨⟨⟨a0, a1, a2⟩, x0, x1, x2⟩, ku1⟩ := T1.out U2 (Keeps.trans K2.out ku2)
          have CM : Hid (Calls Tryz.prog 9 #[stV 1 q (.slice p1 NP c1), stV 1 q (.slice p2 NP c2)] U2 fun e w' => e = .returned (.bool true) ∧ Keeps U2 w') := Lib.hid (by
            have := rr_same 1 q 1 q (.slice p1 NP c1) (.slice p2 NP c2) L L U2 (I1.out U2 ku1) (I2.out U2 ku2)
            rwa [sk_same_self] at this)
          unfold stV at CM
          have KU2 := Lib.hid ku2
          clear ku1 ku2
          go_wp2_with fail
          refine CM.out.mono ?_
          rintro e w3 ⟨rfl, k3⟩
          have K3 := Lib.hid k3
          clear k3 CM a0 a1 a2 b0 b1 b2 x0 x1 x2 y0 y1 y2
          obtain ⟨⟨_, y0, y1, y2⟩, ku2⟩ := T2.out w3 K3.out
          obtain ⟨⟨_, x0, x1, x2⟩, ku1⟩ := T1.out w3 (Keeps.trans K2.out ku2)
          have K4 := Lib.hid (Keeps.trans K6.out (Keeps.trans K1.out ku1))
          clear ku1 ku2
          go_wp2_with fail
          refine (HS.out _ K4.out).mono ?_
          rintro e w5 ⟨rfl, k5⟩
          go_wp2
          go_ret
          exact ⟨rfl, Keeps.trans K4.out k5⟩
        | error r =>
          obtain ⟨a, b, c⟩ := r
          have C1 := Lib.hid (skNo X a b c w6 (HP.out _ K6.out) HZ.out hP)
          have C2 : Hid (∀ W, Calls Tryz.prog 15 #[.string X] W fun e w' => e = .returned (.tuple #[stV 0 0 (.slice none 0 0), .agg #[.int .i64 (a : Int), .int .i64 (b : Int), .int .i64 c]]) ∧ Keeps W w') := Lib.hid fun W => skrNo X a b c W HZ.out hP
          have CM : Hid (∀ W, Calls Tryz.prog 9 #[stV 0 0 (.slice none 0 0), stV 0 0 (.slice none 0 0)] W fun e w' => e = .returned (.bool true) ∧ Keeps W w') := Lib.hid fun W => sk_same_zero ▸ rr_same 0 0 0 0 _ _ [] [] W (rows_nil W) (rows_nil W)
          unfold stV at C1 C2 CM
          clear hP
          go_wp2_with fail
          refine C1.out.mono ?_
          rintro e w1 ⟨rfl, k1⟩
          have K1 := Lib.hid k1
          clear k1 C1
          go_upto_region 28 with (fail)
          have T1 := Lib.hid (skTwo w1 (.int .i64 0) (.int .i64 0) (.slice none 0 0) (.int .i64 (a : Int)) (.int .i64 (b : Int)) (.int .i64 c))
          obtain ⟨U1, hU⟩ : ∃ U, (w1.alloc (.cells #[.int .i64 0, .int .i64 0, .slice none 0 0] tSt)).alloc (.cells #[.int .i64 (a : Int), .int .i64 (b : Int), .int .i64 c] skRj) = U := ⟨_, rfl⟩
          rw [hU] at T1 ⊢
          clear hU
          go_wp2_with fail
          refine (C2.out _).mono ?_
          rintro e w2 ⟨rfl, k2⟩
          have K2 := Lib.hid k2
          clear k2 C2
          go_upto_region 29 with (fail)
          have T2 := Lib.hid (skTwo w2 (.int .i64 0) (.int .i64 0) (.slice none 0 0) (.int .i64 (a : Int)) (.int .i64 (b : Int)) (.int .i64 c))
          obtain ⟨U2, hU⟩ : ∃ U, (w2.alloc (.cells #[.int .i64 0, .int .i64 0, .slice none 0 0] tSt)).alloc (.cells #[.int .i64 (a : Int), .int .i64 (b : Int), .int .i64 c] skRj) = U := ⟨_, rfl⟩
          rw [hU] at T2 ⊢
          clear hU
          obtain ⟨⟨⟨b0, b1, b2⟩, y0, y1, y2⟩, ku2⟩ := T2.out U2 (Keeps.refl _)
          obtain ⟨⟨⟨a0, a1, a2⟩, x0, x1, x2⟩, ku1⟩ := T1.out U2 (Keeps.trans K2.out ku2)
          clear ku1 ku2
          go_wp2_with fail
          refine (CM.out _).mono ?_
          rintro e w3 ⟨rfl, k3⟩
          have K3 := Lib.hid k3
          clear k3 CM a0 a1 a2 b0 b1 b2 x0 x1 x2 y0 y1 y2
          obtain ⟨⟨_, y0, y1, y2⟩, ku2⟩ := T2.out w3 K3.out
          obtain ⟨⟨_, x0, x1, x2⟩, ku1⟩ := T1.out w3 (Keeps.trans K2.out ku2)
          have K4 := Lib.hid (Keeps.trans K6.out (Keeps.trans K1.out ku1))
          clear ku1 ku2
          go_wp2_with fail
          refine (HS.out _ K4.out).mono ?_
          rintro e w5 ⟨rfl, k5⟩
          go_wp2
          go_ret
          exact ⟨rfl, Keeps.trans K4.out k5⟩
      · obtain ⟨m, rfl⟩ := Int.eq_ofNat_of_zero_le (Int.le_of_lt hn)
        obtain ⟨k, hk⟩ : ∃ k, m % M = k := ⟨_, rfl⟩
        have hkM : k < M := by rw [← hk]; exact Nat.mod_lt _ HM0
        have hk2 : (m : Int) % (M : Int) = (k : Int) := by rw [← hk]; first | exact (Int.natCast_emod _ _).symm | exact (Int.ofNat_emod _ _).symm
        have hn127 := HNN.out.2
        have HKM := Lib.hid hkM
        have HVS : Hid (vs.length = M) := Lib.hid (TBO.out.2.1.trans HTL2.out)
        obtain ⟨k1, hk1⟩ : ∃ j, k + 1 = j := ⟨_, rfl⟩
        obtain ⟨d, hd1⟩ : ∃ j, M - k = j := ⟨_, rfl⟩
        obtain ⟨e, he⟩ : ∃ j, tc - k = j := ⟨_, rfl⟩
        obtain ⟨u1, g1, g2, g3, g4, g5, g6, l1, l2, l3⟩ := twice_nums hk1 hd1 he hkM HMS2.out G2.out G3.out
        have S1 : Hid (skSliK.Src wr (.slice (some ⟨tg, 0, none⟩) k1 tc) (vs.take k1)) := Lib.hid (sl_front TBO.out.1 (by rw [HVS.out]; exact l1))
        have S2 : Hid (skSliK.Src wr (.slice (some ⟨tg, k, none⟩) d e) (vs.drop k)) := Lib.hid (by
          have := sl_back (m := k) TBO.out.1 e
          rwa [HVS.out, hd1] at this)
        have S3 : Hid (skSliK.Src wr (.slice (some ⟨tg, k, none⟩) (M - k) (tc - k)) (vs.drop k)) := Lib.hid (by
          have := sl_back (m := k) TBO.out.1 (tc - k)
          rwa [HVS.out] at this)
        have L1 : Hid ((vs.take k1).length = k1) := Lib.hid (by rw [List.length_take, HVS.out, Nat.min_eq_left l1])
        have L2 : Hid ((vs.take k1).length ≤ 100000) := Lib.hid (by rw [L1.out]; exact Nat.le_trans l1 (Nat.le_trans HMS2.out (by decide)))
        have L3 : Hid ((vs.take k1).length + (vs.drop k).length = k1 + d) := Lib.hid (by rw [L1.out, List.length_drop, HVS.out, hd1])
        have L4 : Hid ((vs.take k1).length + (vs.drop k).length ≤ 100000) := Lib.hid (by rw [L3.out]; exact l2)
        have TW : Hid ((vs.take k1 ++ vs.drop k).length = (T.take k1 ++ T.drop k).length ∧ (T.take k1 ++ T.drop k).length ≤ 63) := Lib.hid (by
          have a1 : (T.take k1 ++ T.drop k).length = k1 + d := by rw [List.length_append, List.length_take, List.length_drop, HTL2.out, Nat.min_eq_left l1, hd1]
          refine ⟨by rw [List.length_append, L3.out, a1], by rw [a1]; exact l3⟩)
        clear hk hk1 hd1 he l1 l2 l3
        go_upto_region 22 with (fail)
        refine wp_region_held_drew (S := fun W => True) (by kernel_rfl) trivial (fun hHeld => ?_)
        refine takeH (i := 0) (d := some 116) (v := ?va0) rfl rfl (by kernel_rfl) (by kernel_rfl) (by kernel_rfl) (fun _ _ _ h => h) (Or.inl ⟨by rfl, ?ya0⟩) (by assumption) ?ra0
        case ya0 => (intro W hSw; go_simp; try with_reducible rfl)
        try simp only [Act.put, List.setIfInBounds_toArray, List.set_cons_zero, List.set_cons_succ]
        refine takeH (i := 1) (d := some 117) (v := ?va1) rfl rfl (by kernel_rfl) (by kernel_rfl) (by kernel_rfl) (fun _ _ _ h => h) (Or.inl ⟨by rfl, ?ya1⟩) (by assumption) ?ra1
        case ya1 => (intro W hSw; go_simp; try with_reducible rfl)
        try simp only [Act.put, List.setIfInBounds_toArray, List.set_cons_zero, List.set_cons_succ]
        refine takeH (i := 2) (d := some 118) (v := ?va2) rfl rfl (by kernel_rfl) (by kernel_rfl) (by kernel_rfl) (fun _ _ _ h => h) (Or.inl ⟨by rfl, ?ya2⟩) (by assumption) ?ra2
        case ya2 => (intro W hSw; go_simp; try with_reducible rfl)
        try simp only [Act.put, List.setIfInBounds_toArray, List.set_cons_zero, List.set_cons_succ]
        refine takeH (i := 3) (d := some 119) (v := ?va3) rfl rfl (by kernel_rfl) (by kernel_rfl) (by kernel_rfl) (fun _ _ _ h => h) (Or.inl ⟨by rfl, ?ya3⟩) (by assumption) ?ra3
        case ya3 => (intro W hSw; go_simp; try with_reducible rfl)
        try simp only [Act.put, List.setIfInBounds_toArray, List.set_cons_zero, List.set_cons_succ]
        refine takeH (i := 5) (d := some 121) (v := ?va5) rfl rfl (by kernel_rfl) (by kernel_rfl) (by kernel_rfl) (fun _ _ _ h => h) (Or.inl ⟨by rfl, ?ya5⟩) (by assumption) ?ra5
        case ya5 => (intro W hSw; go_simp; try with_reducible rfl)
        try simp only [Act.put, List.setIfInBounds_toArray, List.set_cons_zero, List.set_cons_succ]
        refine takeH (i := 6) (d := some 122) (v := ?va6) rfl rfl (by kernel_rfl) (by kernel_rfl) (by kernel_rfl) (fun _ _ _ h => h) (Or.inl ⟨by rfl, ?ya6⟩) (by assumption) ?ra6
        case ya6 => (intro W hSw; go_simp; try with_reducible rfl)
        try simp only [Act.put, List.setIfInBounds_toArray, List.set_cons_zero, List.set_cons_succ]
        refine takeH (i := 7) (d := some 123) (v := ?va7) rfl rfl (by kernel_rfl) (by kernel_rfl) (by kernel_rfl) (fun _ _ _ h => h) (Or.inl ⟨by rfl, ?ya7⟩) (by assumption) ?ra7
        case ya7 => (intro W hSw; go_simp; try with_reducible rfl)
        try simp only [Act.put, List.setIfInBounds_toArray, List.set_cons_zero, List.set_cons_succ]
        refine wpAnyH_ready (rs := [4]) (by kernel_rfl) (by simp) ?_
        refine AllReadyH.cons rfl (fun K hK => ?_) AllReadyH.nil
        refine stepCopyK skSliK rfl _ _ rfl rfl wr (ky_drew wr) (.slice (some ⟨tg, 0, none⟩) k1 tc) (vs.take k1) k1 L1.out rfl rfl S1.out L2.out ?_
        intro p5 c5 w5 o5 b5 _
        have O5 := Lib.hid o5
        have B5 := Lib.hid b5
        clear o5 b5
        refine hK.out _ _ trivial (fun hHeld => ?_)
        clear hK K
        try simp only [Act.put, List.setIfInBounds_toArray, List.set_cons_zero, List.set_cons_succ]
        refine wpAnyH_ready (rs := [8]) (by kernel_rfl) (by simp) ?_
        refine AllReadyH.cons rfl (fun K hK => ?_) AllReadyH.nil
        refine stepAppOwnK skSliK rfl _ _ rfl rfl wr.heap.size B5.out.size _ _ (vs.take k1) (vs.drop k) (k1 + d) L3.out rfl rfl O5.out ?hsrca L4.out ?_
        case hsrca => first | exact RowK.Src.keeps skSliK S2.out B5.out | exact RowK.Src.keeps skSliK S3.out B5.out
        intro p6 c6 w6 o6 b6
        have O6 := Lib.hid o6
        have hO5 : skSliK.Own wr.heap.size w5 (.slice p5 (vs.take k1).length c5) (vs.take k1) := by rw [L1.out]; exact O5.out
        have B6 : Hid (Keeps wr w6) := Lib.hid (sk_mono B5.out b6 (fun j hj => (skSliK.own_lt hO5 j (by rw [L1.out]; exact hj)).1))
        clear hO5
        clear o6 b6
        refine hK.out _ _ trivial (fun hHeld => ?_)
        clear hK K
        try simp only [Act.put, List.setIfInBounds_toArray, List.set_cons_zero, List.set_cons_succ]
        refine wpAnyH_ready (rs := [9]) (by kernel_rfl) (by simp) ?_
        refine AllReadyH.cons rfl (fun K hK => ?_) AllReadyH.nil
        go_simp
        refine hK.out _ _ trivial (fun hHeld => ?_)
        clear hK K
        try simp only [Act.put, List.setIfInBounds_toArray, List.set_cons_zero, List.set_cons_succ]
        refine wpAnyH_done (by kernel_rfl) ?_ _
        clear hHeld
        have K6 := Lib.hid (KWW.out.trans B6.out)
        clear S1 S2 S3 O5 B5
        have RB : Hid (RowsAt w6 (.slice p6 (k1 + d) c6) (T.take k1 ++ T.drop k)) := Lib.hid (tbl_rows TBO.out B6.out O6.out TW.out.1 (Nat.le_trans TW.out.2 (by decide)) fun j G hG => twice_at TBO.out.2.1 hG)
        have FB := Lib.hid (SmallT.fits (small_twice (a := k1) (b := k) SM.out) HBB.out TW.out.2)
        obtain ⟨T6, hT6⟩ : ∃ X, T.take k1 ++ T.drop k = X := ⟨_, rfl⟩
        rw [hT6] at RB FB
        clear hT6 L1 L2 L3 L4 TW O6 B6 u1 g1 g2 g3 g4 g5 g6 hk2
        obtain ⟨X, hX⟩ : ∃ X : ByteArray, ⟨(Csv.prRows T6).toArray⟩ = X := ⟨_, rfl⟩
        have CX := Lib.hid (rprint_any _ _ w6 RB.out FB.out.2)
        rw [hX] at CX
        have HZ : Hid (X.size ≤ maxLen) := Lib.hid (by rw [← hX, size_mk]; exact Nat.le_trans FB.out.1 (by unfold maxLen; decide))
        clear hX
        go_wp2_with fail
        refine CX.out.mono ?_
        rintro e w7 ⟨rfl, rfl⟩
        clear CX
        cases hP : parseM X.data.toList with
        | ok r =>
          obtain ⟨q, L⟩ := r
          have C1 := Lib.hid (skYes X q L w6 (HP.out _ K6.out) HZ.out hP)
          have C2 : Hid (∀ W, Calls Tryz.prog 15 #[.string X] W fun e w' => ∃ v, e = .returned (.tuple #[stV 1 q v, .agg #[.int .i64 0, .int .i64 0, .int .i64 0]]) ∧ RowsIn w' v L ∧ Keeps W w') := Lib.hid fun W => skrYes X q L W HZ.out hP
          unfold stV at C1 C2
          obtain ⟨NP, hNP⟩ : ∃ N, L.length = N := ⟨_, rfl⟩
          have HNP := Lib.hid hNP
          clear hP hNP
          go_wp2_with fail
          refine C1.out.mono ?_
          rintro e w1 ⟨v1, rfl, i1, k1⟩
          have I1 : Hid (∀ W, Keeps w1 W → RowsIn W v1 L) := Lib.hid fun W k => i1.keeps k
          obtain ⟨p1, c1, e1, -⟩ := i1
          rw [HNP.out] at e1
          subst e1
          have K1 := Lib.hid k1
          clear k1 C1
          go_upto_region 28 with (fail)
          have T1 := Lib.hid (skTwo w1 (.int .i64 1) (.int .i64 q) (.slice p1 NP c1) (.int .i64 0) (.int .i64 0) (.int .i64 0))
          obtain ⟨U1, hU⟩ : ∃ U, (w1.alloc (.cells #[.int .i64 1, .int .i64 q, .slice p1 NP c1] tSt)).alloc (.cells #[.int .i64 0, .int .i64 0, .int .i64 0] skRj) = U := ⟨_, rfl⟩
          rw [hU] at T1 ⊢
          clear hU
          go_wp2_with fail
          refine (C2.out _).mono ?_
          rintro e w2 ⟨v2, rfl, i2, k2⟩
          have I2 : Hid (∀ W, Keeps w2 W → RowsIn W v2 L) := Lib.hid fun W k => i2.keeps k
          obtain ⟨p2, c2, e2, -⟩ := i2
          rw [HNP.out] at e2
          subst e2
          have K2 := Lib.hid k2
          clear k2 C2
          go_upto_region 29 with (fail)
          have T2 := Lib.hid (skTwo w2 (.int .i64 1) (.int .i64 q) (.slice p2 NP c2) (.int .i64 0) (.int .i64 0) (.int .i64 0))
          obtain ⟨U2, hU⟩ : ∃ U, (w2.alloc (.cells #[.int .i64 1, .int .i64 q, .slice p2 NP c2] tSt)).alloc (.cells #[.int .i64 0, .int .i64 0, .int .i64 0] skRj) = U := ⟨_, rfl⟩
          rw [hU] at T2 ⊢
          clear hU
          obtain ⟨⟨⟨b0, b1, b2⟩, y0, y1, y2⟩, ku2⟩ := T2.out U2 (Keeps.refl _)
          obtain ⟨⟨⟨a0, a1, a2⟩, x0, x1, x2⟩, ku1⟩ := T1.out U2 (Keeps.trans K2.out ku2)
          have CM : Hid (Calls Tryz.prog 9 #[stV 1 q (.slice p1 NP c1), stV 1 q (.slice p2 NP c2)] U2 fun e w' => e = .returned (.bool true) ∧ Keeps U2 w') := Lib.hid (by
            have := rr_same 1 q 1 q (.slice p1 NP c1) (.slice p2 NP c2) L L U2 (I1.out U2 ku1) (I2.out U2 ku2)
            rwa [sk_same_self] at this)
          unfold stV at CM
          have KU2 := Lib.hid ku2
          clear ku1 ku2
          go_wp2_with fail
          refine CM.out.mono ?_
          rintro e w3 ⟨rfl, k3⟩
          have K3 := Lib.hid k3
          clear k3 CM a0 a1 a2 b0 b1 b2 x0 x1 x2 y0 y1 y2
          obtain ⟨⟨_, y0, y1, y2⟩, ku2⟩ := T2.out w3 K3.out
          obtain ⟨⟨_, x0, x1, x2⟩, ku1⟩ := T1.out w3 (Keeps.trans K2.out ku2)
          have K4 := Lib.hid (Keeps.trans K6.out (Keeps.trans K1.out ku1))
          clear ku1 ku2
          go_wp2_with fail
          refine (HS.out _ K4.out).mono ?_
          rintro e w5 ⟨rfl, k5⟩
          go_wp2
          go_ret
          exact ⟨rfl, Keeps.trans K4.out k5⟩
        | error r =>
          obtain ⟨a, b, c⟩ := r
          have C1 := Lib.hid (skNo X a b c w6 (HP.out _ K6.out) HZ.out hP)
          have C2 : Hid (∀ W, Calls Tryz.prog 15 #[.string X] W fun e w' => e = .returned (.tuple #[stV 0 0 (.slice none 0 0), .agg #[.int .i64 (a : Int), .int .i64 (b : Int), .int .i64 c]]) ∧ Keeps W w') := Lib.hid fun W => skrNo X a b c W HZ.out hP
          have CM : Hid (∀ W, Calls Tryz.prog 9 #[stV 0 0 (.slice none 0 0), stV 0 0 (.slice none 0 0)] W fun e w' => e = .returned (.bool true) ∧ Keeps W w') := Lib.hid fun W => sk_same_zero ▸ rr_same 0 0 0 0 _ _ [] [] W (rows_nil W) (rows_nil W)
          unfold stV at C1 C2 CM
          clear hP
          go_wp2_with fail
          refine C1.out.mono ?_
          rintro e w1 ⟨rfl, k1⟩
          have K1 := Lib.hid k1
          clear k1 C1
          go_upto_region 28 with (fail)
          have T1 := Lib.hid (skTwo w1 (.int .i64 0) (.int .i64 0) (.slice none 0 0) (.int .i64 (a : Int)) (.int .i64 (b : Int)) (.int .i64 c))
          obtain ⟨U1, hU⟩ : ∃ U, (w1.alloc (.cells #[.int .i64 0, .int .i64 0, .slice none 0 0] tSt)).alloc (.cells #[.int .i64 (a : Int), .int .i64 (b : Int), .int .i64 c] skRj) = U := ⟨_, rfl⟩
          rw [hU] at T1 ⊢
          clear hU
          go_wp2_with fail
          refine (C2.out _).mono ?_
          rintro e w2 ⟨rfl, k2⟩
          have K2 := Lib.hid k2
          clear k2 C2
          go_upto_region 29 with (fail)
          have T2 := Lib.hid (skTwo w2 (.int .i64 0) (.int .i64 0) (.slice none 0 0) (.int .i64 (a : Int)) (.int .i64 (b : Int)) (.int .i64 c))
          obtain ⟨U2, hU⟩ : ∃ U, (w2.alloc (.cells #[.int .i64 0, .int .i64 0, .slice none 0 0] tSt)).alloc (.cells #[.int .i64 (a : Int), .int .i64 (b : Int), .int .i64 c] skRj) = U := ⟨_, rfl⟩
          rw [hU] at T2 ⊢
          clear hU
          obtain ⟨⟨⟨b0, b1, b2⟩, y0, y1, y2⟩, ku2⟩ := T2.out U2 (Keeps.refl _)
          obtain ⟨⟨⟨a0, a1, a2⟩, x0, x1, x2⟩, ku1⟩ := T1.out U2 (Keeps.trans K2.out ku2)
          clear ku1 ku2
          go_wp2_with fail
          refine (CM.out _).mono ?_
          rintro e w3 ⟨rfl, k3⟩
          have K3 := Lib.hid k3
          clear k3 CM a0 a1 a2 b0 b1 b2 x0 x1 x2 y0 y1 y2
          obtain ⟨⟨_, y0, y1, y2⟩, ku2⟩ := T2.out w3 K3.out
          obtain ⟨⟨_, x0, x1, x2⟩, ku1⟩ := T1.out w3 (Keeps.trans K2.out ku2)
          have K4 := Lib.hid (Keeps.trans K6.out (Keeps.trans K1.out ku1))
          clear ku1 ku2
          go_wp2_with fail
          refine (HS.out _ K4.out).mono ?_
          rintro e w5 ⟨rfl, k5⟩
          go_wp2
          go_ret
          exact ⟨rfl, Keeps.trans K4.out k5⟩
      · obtain ⟨m, hm⟩ : ∃ m : Nat, -n = (m : Int) := ⟨(-n).toNat, by have := HNN.out; as_aux_lemma => (omega)⟩
        obtain ⟨k, hk⟩ : ∃ k, m % M = k := ⟨_, rfl⟩
        have hkM : k < M := by rw [← hk]; exact Nat.mod_lt _ HM0
        have hk2 : (m : Int) % (M : Int) = (k : Int) := by rw [← hk]; first | exact (Int.natCast_emod _ _).symm | exact (Int.ofNat_emod _ _).symm
        have hn128 := HNN.out.1
        have hp0 : ¬ 0 < n := Int.not_lt.2 (Int.le_of_lt hn)
        have HKM := Lib.hid hkM
        have HVS : Hid (vs.length = M) := Lib.hid (TBO.out.2.1.trans HTL2.out)
        obtain ⟨k1, hk1⟩ : ∃ j, k + 1 = j := ⟨_, rfl⟩
        obtain ⟨d, hd1⟩ : ∃ j, M - k1 = j := ⟨_, rfl⟩
        obtain ⟨u1, g1, g2, g3, g5, l2, l3⟩ := less_nums hk1 hd1 hkM HMS2.out G2.out G3.out
        have S1 : Hid (skSliK.Src wr (.slice (some ⟨tg, 0, none⟩) k tc) (vs.take k)) := Lib.hid (sl_front TBO.out.1 (by rw [HVS.out]; exact Nat.le_of_lt hkM))
        have S2 : Hid (∀ e, skSliK.Src wr (.slice (some ⟨tg, k1, none⟩) (M - k1) e) (vs.drop k1)) := Lib.hid (fun e => by
          have := sl_back (m := k1) TBO.out.1 e
          rwa [HVS.out] at this)
        have L1 : Hid ((vs.take k).length = k) := Lib.hid (by rw [List.length_take, HVS.out, Nat.min_eq_left (Nat.le_of_lt hkM)])
        have L2 : Hid ((vs.take k).length ≤ 100000) := Lib.hid (by rw [L1.out]; exact Nat.le_trans (Nat.le_of_lt hkM) (Nat.le_trans HMS2.out (by decide)))
        have L3 : Hid ((vs.take k).length + (vs.drop k1).length = k + d) := Lib.hid (by rw [L1.out, List.length_drop, HVS.out, hd1])
        have L4 : Hid ((vs.take k).length + (vs.drop k1).length ≤ 100000) := Lib.hid (by rw [L3.out]; exact l2)
        have TW : Hid ((vs.take k ++ vs.drop k1).length = (T.take k ++ T.drop k1).length ∧ (T.take k ++ T.drop k1).length ≤ 63) := Lib.hid (by
          have a1 : (T.take k ++ T.drop k1).length = k + d := by rw [List.length_append, List.length_take, List.length_drop, HTL2.out, Nat.min_eq_left (Nat.le_of_lt hkM), hd1]
          refine ⟨by rw [List.length_append, L3.out, a1], by rw [a1]; exact l3⟩)
        have HD : Hid (tc = k1 → vs.drop k1 = []) := Lib.hid (fun e => List.drop_eq_nil_of_le (by rw [HVS.out, ← e]; exact G2.out))
        clear hk hk1 hd1 l2 l3
        by_cases hE : tc = k1
        · have HD2 := Lib.hid (HD.out hE)
          subst hE
          have HMT : Hid (M - tc = 0) := Lib.hid (Nat.sub_eq_zero_of_le G2.out)
          clear g3
          go_upto_region 25 with (fail)
          refine wp_region_held_drew (S := fun W => True) (by kernel_rfl) trivial (fun hHeld => ?_)
          refine takeH (i := 0) (d := some 132) (v := ?vb0) rfl rfl (by kernel_rfl) (by kernel_rfl) (by kernel_rfl) (fun _ _ _ h => h) (Or.inl ⟨by rfl, ?yb0⟩) (by assumption) ?rb0
          case yb0 => (intro W hSw; go_simp; try with_reducible rfl)
          try simp only [Act.put, List.setIfInBounds_toArray, List.set_cons_zero, List.set_cons_succ]
          refine takeH (i := 1) (d := some 133) (v := ?vb1) rfl rfl (by kernel_rfl) (by kernel_rfl) (by kernel_rfl) (fun _ _ _ h => h) (Or.inl ⟨by rfl, ?yb1⟩) (by assumption) ?rb1
          case yb1 => (intro W hSw; go_simp; try with_reducible rfl)
          try simp only [Act.put, List.setIfInBounds_toArray, List.set_cons_zero, List.set_cons_succ]
          refine takeH (i := 2) (d := some 134) (v := ?vb2) rfl rfl (by kernel_rfl) (by kernel_rfl) (by kernel_rfl) (fun _ _ _ h => h) (Or.inl ⟨by rfl, ?yb2⟩) (by assumption) ?rb2
          case yb2 => (intro W hSw; go_simp; try with_reducible rfl)
          try simp only [Act.put, List.setIfInBounds_toArray, List.set_cons_zero, List.set_cons_succ]
          refine takeH (i := 4) (d := some 136) (v := ?vb4) rfl rfl (by kernel_rfl) (by kernel_rfl) (by kernel_rfl) (fun _ _ _ h => h) (Or.inl ⟨by rfl, ?yb4⟩) (by assumption) ?rb4
          case yb4 => (intro W hSw; go_simp; try with_reducible rfl)
          try simp only [Act.put, List.setIfInBounds_toArray, List.set_cons_zero, List.set_cons_succ]
          refine takeH (i := 5) (d := some 137) (v := ?vb5) rfl rfl (by kernel_rfl) (by kernel_rfl) (by kernel_rfl) (fun _ _ _ h => h) (Or.inl ⟨by rfl, ?yb5⟩) (by assumption) ?rb5
          case yb5 => (intro W hSw; go_simp; try with_reducible rfl)
          try simp only [Act.put, List.setIfInBounds_toArray, List.set_cons_zero, List.set_cons_succ]
          refine takeH (i := 6) (d := some 138) (v := ?vb6) rfl rfl (by kernel_rfl) (by kernel_rfl) (by kernel_rfl) (fun _ _ _ h => h) (Or.inl ⟨by rfl, ?yb6⟩) (by assumption) ?rb6
          case yb6 => (intro W hSw; go_simp; try with_reducible rfl)
          try simp only [Act.put, List.setIfInBounds_toArray, List.set_cons_zero, List.set_cons_succ]
          refine takeH (i := 7) (d := some 139) (v := ?vb7) rfl rfl (by kernel_rfl) (by kernel_rfl) (by kernel_rfl) (fun _ _ _ h => h) (Or.inl ⟨by rfl, ?yb7⟩) (by assumption) ?rb7
          case yb7 => (intro W hSw; go_simp; try with_reducible rfl)
          try simp only [Act.put, List.setIfInBounds_toArray, List.set_cons_zero, List.set_cons_succ]
          refine wpAnyH_ready (rs := [3]) (by kernel_rfl) (by simp) ?_
          refine AllReadyH.cons rfl (fun K hK => ?_) AllReadyH.nil
          refine stepCopyK skSliK rfl _ _ rfl rfl wr (ky_drew wr) (.slice (some ⟨tg, 0, none⟩) k tc) (vs.take k) k L1.out rfl rfl S1.out L2.out ?_
          intro p5 c5 w5 o5 b5 _
          have O5 := Lib.hid o5
          have B5 := Lib.hid b5
          clear o5 b5
          refine hK.out _ _ trivial (fun hHeld => ?_)
          clear hK K
          try simp only [Act.put, List.setIfInBounds_toArray, List.set_cons_zero, List.set_cons_succ]
          refine wpAnyH_ready (rs := [8]) (by kernel_rfl) (by simp) ?_
          refine AllReadyH.cons rfl (fun K hK => ?_) AllReadyH.nil
          refine stepAppOwnK skSliK rfl _ _ rfl rfl wr.heap.size B5.out.size _ _ (vs.take k) (vs.drop tc) (k + d) L3.out rfl rfl O5.out ?hsrcb L4.out ?_
          case hsrcb => (go_simp; rw [HD2.out, HMT.out]; exact sl_nil_any _ _ _)
          intro p6 c6 w6 o6 b6
          have O6 := Lib.hid o6
          have hO5 : skSliK.Own wr.heap.size w5 (.slice p5 (vs.take k).length c5) (vs.take k) := by rw [L1.out]; exact O5.out
          have B6 : Hid (Keeps wr w6) := Lib.hid (sk_mono B5.out b6 (fun j hj => (skSliK.own_lt hO5 j (by rw [L1.out]; exact hj)).1))
          clear hO5
          clear o6 b6
          refine hK.out _ _ trivial (fun hHeld => ?_)
          clear hK K
          try simp only [Act.put, List.setIfInBounds_toArray, List.set_cons_zero, List.set_cons_succ]
          refine wpAnyH_ready (rs := [9]) (by kernel_rfl) (by simp) ?_
          refine AllReadyH.cons rfl (fun K hK => ?_) AllReadyH.nil
          go_simp
          refine hK.out _ _ trivial (fun hHeld => ?_)
          clear hK K
          try simp only [Act.put, List.setIfInBounds_toArray, List.set_cons_zero, List.set_cons_succ]
          refine wpAnyH_done (by kernel_rfl) ?_ _
          clear hHeld
          have K6 := Lib.hid (KWW.out.trans B6.out)
          clear S1 S2 O5 B5
          have RB : Hid (RowsAt w6 (.slice p6 (k + d) c6) (T.take k ++ T.drop tc)) := Lib.hid (tbl_rows TBO.out B6.out O6.out TW.out.1 (Nat.le_trans TW.out.2 (by decide)) fun j G hG => less_at TBO.out.2.1 hG)
          have FB := Lib.hid (SmallT.fits (small_twice (a := k) (b := tc) SM.out) HBB.out TW.out.2)
          obtain ⟨T6, hT6⟩ : ∃ X, T.take k ++ T.drop tc = X := ⟨_, rfl⟩
          rw [hT6] at RB FB
          clear hT6 L1 L2 L3 L4 TW O6 B6 u1 g1 g2 g5 hk2 HD
          obtain ⟨X, hX⟩ : ∃ X : ByteArray, ⟨(Csv.prRows T6).toArray⟩ = X := ⟨_, rfl⟩
          have CX := Lib.hid (rprint_any _ _ w6 RB.out FB.out.2)
          rw [hX] at CX
          have HZ : Hid (X.size ≤ maxLen) := Lib.hid (by rw [← hX, size_mk]; exact Nat.le_trans FB.out.1 (by unfold maxLen; decide))
          clear hX
          go_wp2_with fail
          refine CX.out.mono ?_
          rintro e w7 ⟨rfl, rfl⟩
          clear CX
          cases hP : parseM X.data.toList with
          | ok r =>
            obtain ⟨q, L⟩ := r
            have C1 := Lib.hid (skYes X q L w6 (HP.out _ K6.out) HZ.out hP)
            have C2 : Hid (∀ W, Calls Tryz.prog 15 #[.string X] W fun e w' => ∃ v, e = .returned (.tuple #[stV 1 q v, .agg #[.int .i64 0, .int .i64 0, .int .i64 0]]) ∧ RowsIn w' v L ∧ Keeps W w') := Lib.hid fun W => skrYes X q L W HZ.out hP
            unfold stV at C1 C2
            obtain ⟨NP, hNP⟩ : ∃ N, L.length = N := ⟨_, rfl⟩
            have HNP := Lib.hid hNP
            clear hP hNP
            go_wp2_with fail
            refine C1.out.mono ?_
            rintro e w1 ⟨v1, rfl, i1, k1⟩
            have I1 : Hid (∀ W, Keeps w1 W → RowsIn W v1 L) := Lib.hid fun W k => i1.keeps k
            obtain ⟨p1, c1, e1, -⟩ := i1
            rw [HNP.out] at e1
            subst e1
            have K1 := Lib.hid k1
            clear k1 C1
            go_upto_region 28 with (fail)
            have T1 := Lib.hid (skTwo w1 (.int .i64 1) (.int .i64 q) (.slice p1 NP c1) (.int .i64 0) (.int .i64 0) (.int .i64 0))
            obtain ⟨U1, hU⟩ : ∃ U, (w1.alloc (.cells #[.int .i64 1, .int .i64 q, .slice p1 NP c1] tSt)).alloc (.cells #[.int .i64 0, .int .i64 0, .int .i64 0] skRj) = U := ⟨_, rfl⟩
            rw [hU] at T1 ⊢
            clear hU
            go_wp2_with fail
            refine (C2.out _).mono ?_
            rintro e w2 ⟨v2, rfl, i2, k2⟩
            have I2 : Hid (∀ W, Keeps w2 W → RowsIn W v2 L) := Lib.hid fun W k => i2.keeps k
            obtain ⟨p2, c2, e2, -⟩ := i2
            rw [HNP.out] at e2
            subst e2
            have K2 := Lib.hid k2
            clear k2 C2
            go_upto_region 29 with (fail)
            have T2 := Lib.hid (skTwo w2 (.int .i64 1) (.int .i64 q) (.slice p2 NP c2) (.int .i64 0) (.int .i64 0) (.int .i64 0))
            obtain ⟨U2, hU⟩ : ∃ U, (w2.alloc (.cells #[.int .i64 1, .int .i64 q, .slice p2 NP c2] tSt)).alloc (.cells #[.int .i64 0, .int .i64 0, .int .i64 0] skRj) = U := ⟨_, rfl⟩
            rw [hU] at T2 ⊢
            clear hU
            obtain ⟨⟨⟨b0, b1, b2⟩, y0, y1, y2⟩, ku2⟩ := T2.out U2 (Keeps.refl _)
            obtain ⟨⟨⟨a0, a1, a2⟩, x0, x1, x2⟩, ku1⟩ := T1.out U2 (Keeps.trans K2.out ku2)
            have CM : Hid (Calls Tryz.prog 9 #[stV 1 q (.slice p1 NP c1), stV 1 q (.slice p2 NP c2)] U2 fun e w' => e = .returned (.bool true) ∧ Keeps U2 w') := Lib.hid (by
              have := rr_same 1 q 1 q (.slice p1 NP c1) (.slice p2 NP c2) L L U2 (I1.out U2 ku1) (I2.out U2 ku2)
              rwa [sk_same_self] at this)
            unfold stV at CM
            have KU2 := Lib.hid ku2
            clear ku1 ku2
            go_wp2_with fail
            refine CM.out.mono ?_
            rintro e w3 ⟨rfl, k3⟩
            have K3 := Lib.hid k3
            clear k3 CM a0 a1 a2 b0 b1 b2 x0 x1 x2 y0 y1 y2
            obtain ⟨⟨_, y0, y1, y2⟩, ku2⟩ := T2.out w3 K3.out
            obtain ⟨⟨_, x0, x1, x2⟩, ku1⟩ := T1.out w3 (Keeps.trans K2.out ku2)
            have K4 := Lib.hid (Keeps.trans K6.out (Keeps.trans K1.out ku1))
            clear ku1 ku2
            go_wp2_with fail
            refine (HS.out _ K4.out).mono ?_
            rintro e w5 ⟨rfl, k5⟩
            go_wp2
            go_ret
            exact ⟨rfl, Keeps.trans K4.out k5⟩
          | error r =>
            obtain ⟨a, b, c⟩ := r
            have C1 := Lib.hid (skNo X a b c w6 (HP.out _ K6.out) HZ.out hP)
            have C2 : Hid (∀ W, Calls Tryz.prog 15 #[.string X] W fun e w' => e = .returned (.tuple #[stV 0 0 (.slice none 0 0), .agg #[.int .i64 (a : Int), .int .i64 (b : Int), .int .i64 c]]) ∧ Keeps W w') := Lib.hid fun W => skrNo X a b c W HZ.out hP
            have CM : Hid (∀ W, Calls Tryz.prog 9 #[stV 0 0 (.slice none 0 0), stV 0 0 (.slice none 0 0)] W fun e w' => e = .returned (.bool true) ∧ Keeps W w') := Lib.hid fun W => sk_same_zero ▸ rr_same 0 0 0 0 _ _ [] [] W (rows_nil W) (rows_nil W)
            unfold stV at C1 C2 CM
            clear hP
            go_wp2_with fail
            refine C1.out.mono ?_
            rintro e w1 ⟨rfl, k1⟩
            have K1 := Lib.hid k1
            clear k1 C1
            go_upto_region 28 with (fail)
            have T1 := Lib.hid (skTwo w1 (.int .i64 0) (.int .i64 0) (.slice none 0 0) (.int .i64 (a : Int)) (.int .i64 (b : Int)) (.int .i64 c))
            obtain ⟨U1, hU⟩ : ∃ U, (w1.alloc (.cells #[.int .i64 0, .int .i64 0, .slice none 0 0] tSt)).alloc (.cells #[.int .i64 (a : Int), .int .i64 (b : Int), .int .i64 c] skRj) = U := ⟨_, rfl⟩
            rw [hU] at T1 ⊢
            clear hU
            go_wp2_with fail
            refine (C2.out _).mono ?_
            rintro e w2 ⟨rfl, k2⟩
            have K2 := Lib.hid k2
            clear k2 C2
            go_upto_region 29 with (fail)
            have T2 := Lib.hid (skTwo w2 (.int .i64 0) (.int .i64 0) (.slice none 0 0) (.int .i64 (a : Int)) (.int .i64 (b : Int)) (.int .i64 c))
            obtain ⟨U2, hU⟩ : ∃ U, (w2.alloc (.cells #[.int .i64 0, .int .i64 0, .slice none 0 0] tSt)).alloc (.cells #[.int .i64 (a : Int), .int .i64 (b : Int), .int .i64 c] skRj) = U := ⟨_, rfl⟩
            rw [hU] at T2 ⊢
            clear hU
            obtain ⟨⟨⟨b0, b1, b2⟩, y0, y1, y2⟩, ku2⟩ := T2.out U2 (Keeps.refl _)
            obtain ⟨⟨⟨a0, a1, a2⟩, x0, x1, x2⟩, ku1⟩ := T1.out U2 (Keeps.trans K2.out ku2)
            clear ku1 ku2
            go_wp2_with fail
            refine (CM.out _).mono ?_
            rintro e w3 ⟨rfl, k3⟩
            have K3 := Lib.hid k3
            clear k3 CM a0 a1 a2 b0 b1 b2 x0 x1 x2 y0 y1 y2
            obtain ⟨⟨_, y0, y1, y2⟩, ku2⟩ := T2.out w3 K3.out
            obtain ⟨⟨_, x0, x1, x2⟩, ku1⟩ := T1.out w3 (Keeps.trans K2.out ku2)
            have K4 := Lib.hid (Keeps.trans K6.out (Keeps.trans K1.out ku1))
            clear ku1 ku2
            go_wp2_with fail
            refine (HS.out _ K4.out).mono ?_
            rintro e w5 ⟨rfl, k5⟩
            go_wp2
            go_ret
            exact ⟨rfl, Keeps.trans K4.out k5⟩
        · have hE2 : k1 < tc := Nat.lt_of_le_of_ne g3 (fun e => hE e.symm)
          go_upto_region 25 with (fail)
          refine wp_region_held_drew (S := fun W => True) (by kernel_rfl) trivial (fun hHeld => ?_)
          refine takeH (i := 0) (d := some 132) (v := ?vc0) rfl rfl (by kernel_rfl) (by kernel_rfl) (by kernel_rfl) (fun _ _ _ h => h) (Or.inl ⟨by rfl, ?yc0⟩) (by assumption) ?rc0
          case yc0 => (intro W hSw; go_simp; try with_reducible rfl)
          try simp only [Act.put, List.setIfInBounds_toArray, List.set_cons_zero, List.set_cons_succ]
          refine takeH (i := 1) (d := some 133) (v := ?vc1) rfl rfl (by kernel_rfl) (by kernel_rfl) (by kernel_rfl) (fun _ _ _ h => h) (Or.inl ⟨by rfl, ?yc1⟩) (by assumption) ?rc1
          case yc1 => (intro W hSw; go_simp; try with_reducible rfl)
          try simp only [Act.put, List.setIfInBounds_toArray, List.set_cons_zero, List.set_cons_succ]
          refine takeH (i := 2) (d := some 134) (v := ?vc2) rfl rfl (by kernel_rfl) (by kernel_rfl) (by kernel_rfl) (fun _ _ _ h => h) (Or.inl ⟨by rfl, ?yc2⟩) (by assumption) ?rc2
          case yc2 => (intro W hSw; go_simp; try with_reducible rfl)
          try simp only [Act.put, List.setIfInBounds_toArray, List.set_cons_zero, List.set_cons_succ]
          refine takeH (i := 4) (d := some 136) (v := ?vc4) rfl rfl (by kernel_rfl) (by kernel_rfl) (by kernel_rfl) (fun _ _ _ h => h) (Or.inl ⟨by rfl, ?yc4⟩) (by assumption) ?rc4
          case yc4 => (intro W hSw; go_simp; try with_reducible rfl)
          try simp only [Act.put, List.setIfInBounds_toArray, List.set_cons_zero, List.set_cons_succ]
          refine takeH (i := 5) (d := some 137) (v := ?vc5) rfl rfl (by kernel_rfl) (by kernel_rfl) (by kernel_rfl) (fun _ _ _ h => h) (Or.inl ⟨by rfl, ?yc5⟩) (by assumption) ?rc5
          case yc5 => (intro W hSw; go_simp; try with_reducible rfl)
          try simp only [Act.put, List.setIfInBounds_toArray, List.set_cons_zero, List.set_cons_succ]
          refine takeH (i := 6) (d := some 138) (v := ?vc6) rfl rfl (by kernel_rfl) (by kernel_rfl) (by kernel_rfl) (fun _ _ _ h => h) (Or.inl ⟨by rfl, ?yc6⟩) (by assumption) ?rc6
          case yc6 => (intro W hSw; go_simp; try with_reducible rfl)
          try simp only [Act.put, List.setIfInBounds_toArray, List.set_cons_zero, List.set_cons_succ]
          refine takeH (i := 7) (d := some 139) (v := ?vc7) rfl rfl (by kernel_rfl) (by kernel_rfl) (by kernel_rfl) (fun _ _ _ h => h) (Or.inl ⟨by rfl, ?yc7⟩) (by assumption) ?rc7
          case yc7 => (intro W hSw; go_simp; try with_reducible rfl)
          try simp only [Act.put, List.setIfInBounds_toArray, List.set_cons_zero, List.set_cons_succ]
          refine wpAnyH_ready (rs := [3]) (by kernel_rfl) (by simp) ?_
          refine AllReadyH.cons rfl (fun K hK => ?_) AllReadyH.nil
          refine stepCopyK skSliK rfl _ _ rfl rfl wr (ky_drew wr) (.slice (some ⟨tg, 0, none⟩) k tc) (vs.take k) k L1.out rfl rfl S1.out L2.out ?_
          intro p5 c5 w5 o5 b5 _
          have O5 := Lib.hid o5
          have B5 := Lib.hid b5
          clear o5 b5
          refine hK.out _ _ trivial (fun hHeld => ?_)
          clear hK K
          try simp only [Act.put, List.setIfInBounds_toArray, List.set_cons_zero, List.set_cons_succ]
          refine wpAnyH_ready (rs := [8]) (by kernel_rfl) (by simp) ?_
          refine AllReadyH.cons rfl (fun K hK => ?_) AllReadyH.nil
          refine stepAppOwnK skSliK rfl _ _ rfl rfl wr.heap.size B5.out.size _ _ (vs.take k) (vs.drop k1) (k + d) L3.out rfl rfl O5.out ?hsrcc L4.out ?_
          case hsrcc => exact RowK.Src.keeps skSliK (S2.out _) B5.out
          intro p6 c6 w6 o6 b6
          have O6 := Lib.hid o6
          have hO5 : skSliK.Own wr.heap.size w5 (.slice p5 (vs.take k).length c5) (vs.take k) := by rw [L1.out]; exact O5.out
          have B6 : Hid (Keeps wr w6) := Lib.hid (sk_mono B5.out b6 (fun j hj => (skSliK.own_lt hO5 j (by rw [L1.out]; exact hj)).1))
          clear hO5
          clear o6 b6
          refine hK.out _ _ trivial (fun hHeld => ?_)
          clear hK K
          try simp only [Act.put, List.setIfInBounds_toArray, List.set_cons_zero, List.set_cons_succ]
          refine wpAnyH_ready (rs := [9]) (by kernel_rfl) (by simp) ?_
          refine AllReadyH.cons rfl (fun K hK => ?_) AllReadyH.nil
          go_simp
          refine hK.out _ _ trivial (fun hHeld => ?_)
          clear hK K
          try simp only [Act.put, List.setIfInBounds_toArray, List.set_cons_zero, List.set_cons_succ]
          refine wpAnyH_done (by kernel_rfl) ?_ _
          clear hHeld
          have K6 := Lib.hid (KWW.out.trans B6.out)
          clear S1 S2 O5 B5
          have RB : Hid (RowsAt w6 (.slice p6 (k + d) c6) (T.take k ++ T.drop k1)) := Lib.hid (tbl_rows TBO.out B6.out O6.out TW.out.1 (Nat.le_trans TW.out.2 (by decide)) fun j G hG => less_at TBO.out.2.1 hG)
          have FB := Lib.hid (SmallT.fits (small_twice (a := k) (b := k1) SM.out) HBB.out TW.out.2)
          obtain ⟨T6, hT6⟩ : ∃ X, T.take k ++ T.drop k1 = X := ⟨_, rfl⟩
          rw [hT6] at RB FB
          clear hT6 L1 L2 L3 L4 TW O6 B6 u1 g1 g2 g3 g5 hk2 hE HD
          obtain ⟨X, hX⟩ : ∃ X : ByteArray, ⟨(Csv.prRows T6).toArray⟩ = X := ⟨_, rfl⟩
          have CX := Lib.hid (rprint_any _ _ w6 RB.out FB.out.2)
          rw [hX] at CX
          have HZ : Hid (X.size ≤ maxLen) := Lib.hid (by rw [← hX, size_mk]; exact Nat.le_trans FB.out.1 (by unfold maxLen; decide))
          clear hX
          go_wp2_with fail
          refine CX.out.mono ?_
          rintro e w7 ⟨rfl, rfl⟩
          clear CX
          cases hP : parseM X.data.toList with
          | ok r =>
            obtain ⟨q, L⟩ := r
            have C1 := Lib.hid (skYes X q L w6 (HP.out _ K6.out) HZ.out hP)
            have C2 : Hid (∀ W, Calls Tryz.prog 15 #[.string X] W fun e w' => ∃ v, e = .returned (.tuple #[stV 1 q v, .agg #[.int .i64 0, .int .i64 0, .int .i64 0]]) ∧ RowsIn w' v L ∧ Keeps W w') := Lib.hid fun W => skrYes X q L W HZ.out hP
            unfold stV at C1 C2
            obtain ⟨NP, hNP⟩ : ∃ N, L.length = N := ⟨_, rfl⟩
            have HNP := Lib.hid hNP
            clear hP hNP
            go_wp2_with fail
            refine C1.out.mono ?_
            rintro e w1 ⟨v1, rfl, i1, k1⟩
            have I1 : Hid (∀ W, Keeps w1 W → RowsIn W v1 L) := Lib.hid fun W k => i1.keeps k
            obtain ⟨p1, c1, e1, -⟩ := i1
            rw [HNP.out] at e1
            subst e1
            have K1 := Lib.hid k1
            clear k1 C1
            go_upto_region 28 with (fail)
            have T1 := Lib.hid (skTwo w1 (.int .i64 1) (.int .i64 q) (.slice p1 NP c1) (.int .i64 0) (.int .i64 0) (.int .i64 0))
            obtain ⟨U1, hU⟩ : ∃ U, (w1.alloc (.cells #[.int .i64 1, .int .i64 q, .slice p1 NP c1] tSt)).alloc (.cells #[.int .i64 0, .int .i64 0, .int .i64 0] skRj) = U := ⟨_, rfl⟩
            rw [hU] at T1 ⊢
            clear hU
            go_wp2_with fail
            refine (C2.out _).mono ?_
            rintro e w2 ⟨v2, rfl, i2, k2⟩
            have I2 : Hid (∀ W, Keeps w2 W → RowsIn W v2 L) := Lib.hid fun W k => i2.keeps k
            obtain ⟨p2, c2, e2, -⟩ := i2
            rw [HNP.out] at e2
            subst e2
            have K2 := Lib.hid k2
            clear k2 C2
            go_upto_region 29 with (fail)
            have T2 := Lib.hid (skTwo w2 (.int .i64 1) (.int .i64 q) (.slice p2 NP c2) (.int .i64 0) (.int .i64 0) (.int .i64 0))
            obtain ⟨U2, hU⟩ : ∃ U, (w2.alloc (.cells #[.int .i64 1, .int .i64 q, .slice p2 NP c2] tSt)).alloc (.cells #[.int .i64 0, .int .i64 0, .int .i64 0] skRj) = U := ⟨_, rfl⟩
            rw [hU] at T2 ⊢
            clear hU
            obtain ⟨⟨⟨b0, b1, b2⟩, y0, y1, y2⟩, ku2⟩ := T2.out U2 (Keeps.refl _)
            obtain ⟨⟨⟨a0, a1, a2⟩, x0, x1, x2⟩, ku1⟩ := T1.out U2 (Keeps.trans K2.out ku2)
            have CM : Hid (Calls Tryz.prog 9 #[stV 1 q (.slice p1 NP c1), stV 1 q (.slice p2 NP c2)] U2 fun e w' => e = .returned (.bool true) ∧ Keeps U2 w') := Lib.hid (by
              have := rr_same 1 q 1 q (.slice p1 NP c1) (.slice p2 NP c2) L L U2 (I1.out U2 ku1) (I2.out U2 ku2)
              rwa [sk_same_self] at this)
            unfold stV at CM
            have KU2 := Lib.hid ku2
            clear ku1 ku2
            go_wp2_with fail
            refine CM.out.mono ?_
            rintro e w3 ⟨rfl, k3⟩
            have K3 := Lib.hid k3
            clear k3 CM a0 a1 a2 b0 b1 b2 x0 x1 x2 y0 y1 y2
            obtain ⟨⟨_, y0, y1, y2⟩, ku2⟩ := T2.out w3 K3.out
            obtain ⟨⟨_, x0, x1, x2⟩, ku1⟩ := T1.out w3 (Keeps.trans K2.out ku2)
            have K4 := Lib.hid (Keeps.trans K6.out (Keeps.trans K1.out ku1))
            clear ku1 ku2
            go_wp2_with fail
            refine (HS.out _ K4.out).mono ?_
            rintro e w5 ⟨rfl, k5⟩
            go_wp2
            go_ret
            exact ⟨rfl, Keeps.trans K4.out k5⟩
          | error r =>
            obtain ⟨a, b, c⟩ := r
            have C1 := Lib.hid (skNo X a b c w6 (HP.out _ K6.out) HZ.out hP)
            have C2 : Hid (∀ W, Calls Tryz.prog 15 #[.string X] W fun e w' => e = .returned (.tuple #[stV 0 0 (.slice none 0 0), .agg #[.int .i64 (a : Int), .int .i64 (b : Int), .int .i64 c]]) ∧ Keeps W w') := Lib.hid fun W => skrNo X a b c W HZ.out hP
            have CM : Hid (∀ W, Calls Tryz.prog 9 #[stV 0 0 (.slice none 0 0), stV 0 0 (.slice none 0 0)] W fun e w' => e = .returned (.bool true) ∧ Keeps W w') := Lib.hid fun W => sk_same_zero ▸ rr_same 0 0 0 0 _ _ [] [] W (rows_nil W) (rows_nil W)
            unfold stV at C1 C2 CM
            clear hP
            go_wp2_with fail
            refine C1.out.mono ?_
            rintro e w1 ⟨rfl, k1⟩
            have K1 := Lib.hid k1
            clear k1 C1
            go_upto_region 28 with (fail)
            have T1 := Lib.hid (skTwo w1 (.int .i64 0) (.int .i64 0) (.slice none 0 0) (.int .i64 (a : Int)) (.int .i64 (b : Int)) (.int .i64 c))
            obtain ⟨U1, hU⟩ : ∃ U, (w1.alloc (.cells #[.int .i64 0, .int .i64 0, .slice none 0 0] tSt)).alloc (.cells #[.int .i64 (a : Int), .int .i64 (b : Int), .int .i64 c] skRj) = U := ⟨_, rfl⟩
            rw [hU] at T1 ⊢
            clear hU
            go_wp2_with fail
            refine (C2.out _).mono ?_
            rintro e w2 ⟨rfl, k2⟩
            have K2 := Lib.hid k2
            clear k2 C2
            go_upto_region 29 with (fail)
            have T2 := Lib.hid (skTwo w2 (.int .i64 0) (.int .i64 0) (.slice none 0 0) (.int .i64 (a : Int)) (.int .i64 (b : Int)) (.int .i64 c))
            obtain ⟨U2, hU⟩ : ∃ U, (w2.alloc (.cells #[.int .i64 0, .int .i64 0, .slice none 0 0] tSt)).alloc (.cells #[.int .i64 (a : Int), .int .i64 (b : Int), .int .i64 c] skRj) = U := ⟨_, rfl⟩
            rw [hU] at T2 ⊢
            clear hU
            obtain ⟨⟨⟨b0, b1, b2⟩, y0, y1, y2⟩, ku2⟩ := T2.out U2 (Keeps.refl _)
            obtain ⟨⟨⟨a0, a1, a2⟩, x0, x1, x2⟩, ku1⟩ := T1.out U2 (Keeps.trans K2.out ku2)
            clear ku1 ku2
            go_wp2_with fail
            refine (CM.out _).mono ?_
            rintro e w3 ⟨rfl, k3⟩
            have K3 := Lib.hid k3
            clear k3 CM a0 a1 a2 b0 b1 b2 x0 x1 x2 y0 y1 y2
            obtain ⟨⟨_, y0, y1, y2⟩, ku2⟩ := T2.out w3 K3.out
            obtain ⟨⟨_, x0, x1, x2⟩, ku1⟩ := T1.out w3 (Keeps.trans K2.out ku2)
            have K4 := Lib.hid (Keeps.trans K6.out (Keeps.trans K1.out ku1))
            clear ku1 ku2
            go_wp2_with fail
            refine (HS.out _ K4.out).mono ?_
            rintro e w5 ⟨rfl, k5⟩
            go_wp2
            go_ret
            exact ⟨rfl, Keeps.trans K4.out k5⟩
theorem si8_of {n : Int} (h : (Lit.int .i8 n).wf = true) : -128 ≤ n ∧ n ≤ 127 := by
  simp only [Lit.wf, IntKind.min, IntKind.max, IntKind.signed, IntKind.bits, Bool.and_eq_true] at h
  simp at h; omega
theorem stockCells_go' (p s : Int) (v : Value) (L : List R) (vl : Value) (CL : List CeM) (n : Int) (w : World) (hp : HasS w) (hl : RowsIn w v L) (hcl : CesIn w vl CL) (hn : (Lit.int .i8 n).wf = true) :
    Calls Tryz.prog 4 #[stV p s v, vl, .int .i8 n] w fun e w' => e = .returned (.bool true) ∧ Keeps w w' := stockCells_go p s v L vl CL n w hp hl hcl (si8_of hn)
end Go.Proofs.YtomonhghioamfaaGreatDoor
