
/- The document's files of the carrier: a cell of rows; Print. -/
import Derived.Test.YtnkcbefamajghaaDoorMfSet
set_option linter.unusedVariables false
namespace Go.Proofs.YtnkcbefamajghaaDoor
open Go.ChangeShapes Go.WideShapes Go.ChangeAt Go.RowKit Ky Rw Csv Mft
open Stk (numN fa wide num_put num_yes num_le put_plain put_short plain_put wide_same wide_zero)

theorem lk_at {L : List R} {k : Nat} {x : R} {o d : Int} (h : lk (L.take k) o d = none) (hx : L[k]? = some x) : (x.o = o ∧ x.d = d → lk L o d = some x) ∧ (¬ (x.o = o ∧ x.d = d) → lk (L.take (k + 1)) o d = none) := by
  obtain ⟨hk, he⟩ := List.getElem?_eq_some_iff.1 hx
  constructor
  · intro e
    have e1 : L = L.take k ++ x :: L.drop (k + 1) := by
      rw [← he, ← List.drop_eq_getElem_cons hk, List.take_append_drop]
    rw [e1]
    unfold lk at h ⊢
    rw [List.find?_append, h, List.find?_cons]
    simp [e.1, e.2]
  · intro e
    rw [List.take_add_one, hx]
    unfold lk at h ⊢
    rw [List.find?_append, h]
    simp
    intro h1
    exact fun h2 => e ⟨h1, h2⟩
theorem cellB_none {L : List R} {o d : Int} (h : lk L o d = none) : cellB L o d = wNo := by unfold cellB; rw [h]
theorem cellB_some {L : List R} {o d : Int} {x : R} (h : lk L o d = some x) : cellB L o d = if x.c = 2 then wRef else wDone ++ Mon.put x.q := by unfold cellB; rw [h]
set_option maxHeartbeats 16000000 in
set_option maxRecDepth 100000 in
theorem mr_cell (v : Value) (L : List R) (o d : Int) (w : World) (h : RowsIn w v L) (hL : L.length ≤ 400) (hq : ∀ x ∈ L, 0 ≤ x.q ∧ x.q ≤ 999) :
    Calls Tryd.prog 27 #[v, .int .i64 o, .int .i64 d] w fun e w' => e = .returned (.string ⟨(cellB L o d).toArray⟩) ∧ Keeps w w' := by
  have HR := Lib.hid h
  have HQ := Lib.hid hq
  obtain ⟨pp, cp, rfl, hmx, _, _⟩ := h
  obtain ⟨N, hN⟩ : ∃ N, L.length = N := ⟨_, rfl⟩
  have HN := Lib.hid hN
  rw [hN] at hmx HR hL ⊢
  have HL := Lib.hid hL
  obtain ⟨C, hC⟩ : ∃ C : ByteArray, ⟨(cellB L o d).toArray⟩ = C := ⟨_, rfl⟩
  have HC := Lib.hid hC
  rw [hC]
  clear hN hq hL hC
  unfold maxLen at hmx
  go_enter Tryd.func27, Tryd.ntmps27
  go_wp2_with fail
  go_loopw [7] (fun v7 W => ∃ k : Nat, k ≤ N ∧ v7 = .int .i64 (k : Int) ∧ lk (L.take k) o d = none ∧ Keeps w W) (fun v7 _ => N - (intOf v7).toNat)
  case atStart => exact ⟨0, by omega, rfl, by simp [lk], Keeps.refl _⟩
  case round =>
    obtain ⟨k, hk, rfl, hf, hw⟩ := hrel
    have HF := Lib.hid hf
    have HV := Lib.hid hw
    clear hf hw
    by_cases hlt : k < N
    rotate_left
    · obtain rfl : k = N := by omega
      have E : C = ⟨#[45]⟩ := by
        have h1 := HF.out
        rw [List.take_of_length_le (by rw [HN.out]; exact Nat.le_refl _)] at h1
        rw [← HC.out, cellB_none h1]
      subst E
      go_wp2
      go_ret
      exact ⟨rfl, HV.out⟩
    have HK := Lib.hid hlt
    obtain ⟨x, hx⟩ : ∃ x, L[k]? = some x := ⟨_, List.getElem?_eq_getElem (by have := HN.out; omega)⟩
    obtain ⟨p', c', e', _, hcc, hc⟩ := HR.out.keeps HV.out
    rw [HN.out] at e'
    simp only [Value.slice.injEq] at e'
    obtain ⟨rfl, _, rfl⟩ := e'
    obtain ⟨ad, rfl, q⟩ := hc k x hx
    have LA := Lib.hid (lk_at HF.out hx)
    have QB := Lib.hid (HQ.out x (List.mem_of_getElem? hx))
    obtain ⟨q0, q1, q2, q3, q4⟩ := q
    have hi1 : (k : Int) < (N : Int) := by omega
    have hi0 : (0 : Int) ≤ (k : Int) := by omega
    clear hc hx
    by_cases hkey : x.o = o ∧ x.d = d
    · have LS := Lib.hid (LA.out.1 hkey)
      obtain ⟨rfl, rfl⟩ := hkey
      clear LA
      by_cases hc2 : x.c = 2
      · have E : C = ⟨#[114, 101, 102, 117, 115, 101, 100]⟩ := by rw [← HC.out, cellB_some LS.out, if_pos hc2]
        have t2 : (x.c == 2) = true := by rw [hc2]; rfl
        subst E
        clear hc2
        go_wp2
        go_ret
        exact ⟨rfl, HV.out⟩
      · have E := Lib.hid (show cellB L x.o x.d = wDone ++ Mon.put x.q by rw [cellB_some LS.out, if_neg hc2])
        have t2 : (x.c == 2) = false := by rw [beq_eq_false_iff_ne]; exact hc2
        obtain ⟨P, hP⟩ : ∃ P : ByteArray, ⟨(Mon.put x.q).toArray⟩ = P := ⟨_, rfl⟩
        have CP : Hid (∀ W, Calls Tryd.prog 26 #[.int .i64 x.q] W fun e w' => e = .returned (.string P) ∧ Keeps W w') := Lib.hid fun W => hP ▸ mr_put x.q W (by have := QB.out; unfold I64 top; omega)
        have far : ¬ (9223372036854775807 < (⟨#[100, 111, 110, 101, 58]⟩ : ByteArray).size + P.size) := by
          have e1 : P.size = (Mon.put x.q).length := by rw [← hP, size_mk]
          have e2 := put_short (n := x.q) (by have := QB.out; omega) (by have := QB.out; unfold top; omega)
          have e3 : (⟨#[100, 111, 110, 101, 58]⟩ : ByteArray).size = 5 := rfl
          omega
        have EC : (⟨#[100, 111, 110, 101, 58]⟩ : ByteArray) ++ P = C := bytes_inj (by
          rw [← HC.out, cat_list, data_mk, E.out, ← hP, data_mk])
        clear hc2 hP
        go_wp2_with fail
        refine (CP.out _).mono ?_
        rintro e w1 ⟨rfl, k1⟩
        go_wp2
        go_ret
        exact ⟨rfl, HV.out.trans k1⟩
    · have LN := Lib.hid (LA.out.2 hkey)
      clear LA
      rcases (show x.o ≠ o ∨ (x.o = o ∧ x.d ≠ d) from by omega) with h1 | ⟨h1, h2⟩
      · obtain ⟨t1, t2⟩ := ne_tests h1
        clear hkey h1
        go_wp2_with fail
        exact ⟨⟨k + 1, by have := HK.out; omega, by go_num, LN.out, HV.out⟩, by have := HK.out; simp [intOf]; omega⟩
      · obtain ⟨t1, t2⟩ := ne_tests h2
        subst h1
        clear hkey h2
        go_wp2_with fail
        exact ⟨⟨k + 1, by have := HK.out; omega, by go_num, LN.out, HV.out⟩, by have := HK.out; simp [intOf]; omega⟩
/-- A row of an order, by what rows say. -/
def rowO (L : List R) (o : Int) : List (List UInt8) := [Mon.put o, cellB L o 2, cellB L o 5]
theorem rowO_all {L : List R} (h : Rw.Good 2 L) : (ordL 0 L).map (rowO L) = (grpL L).map rowT := rows_ord h
/-- What is read of a key's box, and of a statement's. -/
def KyS (W : World) (b : Nat) (o : Int) (sb : Nat) (v : Value) : Prop := W.cell? ⟨b, 0, none⟩ = some (.int .i64 o) ∧ W.cell? ⟨sb, 2, none⟩ = some v
theorem KyS.keeps {W W' : World} {b sb : Nat} {o : Int} {v : Value} (h : KyS W b o sb v) (k : Keeps W W') : KyS W' b o sb v := ⟨cell_keeps k h.1, cell_keeps k h.2⟩
theorem KyS.grown {W W' : World} {b sb : Nat} {o : Int} {v : Value} {r : Option Nat} (h : KyS W b o sb v) (g : W.grownBy W' r) (h1 : ¬ r = some b) (h2 : ¬ r = some sb) : KyS W' b o sb v := by
  have e1 : W'.heap[b]? = W.heap[b]? := g.block b (World.block_lt_of_cell? W ⟨b, 0, none⟩ h.1) (fun e => h1 e.symm)
  have e2 : W'.heap[sb]? = W.heap[sb]? := g.block sb (World.block_lt_of_cell? W ⟨sb, 2, none⟩ h.2) (fun e => h2 e.symm)
  obtain ⟨h0, h3⟩ := h
  unfold KyS
  simp only [World.cell?] at *
  rw [e1, e2]
  exact ⟨h0, h3⟩
theorem mf_fits {s : Int} {L : List R} (h : Valid 2 s L) : Fits (Mft.tableL s L) :=
  ⟨fun F hF f hf => by have := ((table_plain h F hF).2.2 f hf).2; omega, by have := file_small h; unfold Mft.fileL at this; omega⟩
def mfPrtS (p s : Int) (L : List R) : ByteArray := ⟨(Mft.prt p s L).toArray⟩
set_option maxHeartbeats 16000000 in
set_option maxRecDepth 100000 in
theorem mr_print (p s : Int) (v : Value) (L : List R) (w : World) (h : RowsIn w v L) :
    Calls Tryd.prog 11 #[stV p s v] w fun e w' => e = .returned (.tuple #[.string (mfPrtS p s L), .int .i64 (Mft.prtC p s L)]) ∧ Keeps w w' := by
  have KB := Lib.hid (ky_box w (stBox p s v))
  have HR := Lib.hid (h.keeps KB.out)
  have CX := Lib.hid (st_cells w p s v)
  obtain ⟨b, hb⟩ : ∃ b, validB p s L = b := ⟨_, rfl⟩
  have HB := Lib.hid hb
  have C1 := Lib.hid (hb ▸ rr_valid p s v L _ HR.out)
  obtain ⟨pp, cp, rfl, hmx, _, _⟩ := h
  obtain ⟨N, hN⟩ : ∃ N, L.length = N := ⟨_, rfl⟩
  have HN := Lib.hid hN
  rw [hN] at hmx KB HR C1 CX ⊢
  clear hN hb
  unfold maxLen at hmx
  unfold stBox at KB HR C1 CX
  unfold stV at C1 ⊢
  obtain ⟨x0, x1, x2⟩ := CX.out _ (Keeps.refl _)
  by_cases hp : p = 2
  rotate_left
  · have E : Hid (mfPrtS p s L = ⟨#[]⟩ ∧ Mft.prtC p s L = 2) := Lib.hid (by unfold mfPrtS Mft.prt Mft.prtC; rw [if_neg (fun e => hp e.1), if_neg (fun e => hp e.1)]; exact ⟨rfl, rfl⟩)
    obtain ⟨t, t2⟩ := ne_tests hp
    clear hp
    go_enter Tryd.func11, Tryd.ntmps11
    go_wp2
    go_ret2
    exact ⟨ret_skP E.out.1.symm E.out.2.symm, KB.out⟩
  subst hp
  go_enter Tryd.func11, Tryd.ntmps11
  go_wp2_with fail
  refine C1.out.mono ?_
  rintro e w1 ⟨rfl, k1⟩
  have K1 := Lib.hid k1
  clear k1 C1 x0 x1 x2
  cases b with
  | false =>
    have E : Hid (mfPrtS 2 s L = ⟨#[]⟩ ∧ Mft.prtC 2 s L = 2) := Lib.hid (by unfold mfPrtS Mft.prt Mft.prtC; rw [HB.out, if_neg (by simp), if_neg (by simp)]; exact ⟨rfl, rfl⟩)
    go_wp2
    go_ret2
    exact ⟨ret_skP E.out.1.symm E.out.2.symm, KB.out.trans K1.out⟩
  | true =>
    have VA := Lib.hid (valid_iff.1 HB.out)
    have EO : Hid (mfPrtS 2 s L = ⟨(Mft.fileL s L).toArray⟩ ∧ Mft.prtC 2 s L = 0) := Lib.hid (by unfold mfPrtS Mft.prt Mft.prtC; rw [HB.out, if_pos ⟨rfl, rfl⟩, if_pos ⟨rfl, rfl⟩]; exact ⟨rfl, rfl⟩)
    have N4 : N ≤ 400 := by have := VA.out.good.len; rw [HN.out] at this; exact this
    have HN4 := Lib.hid N4
    have WLT : Hid (w.heap.size < w1.heap.size) := Lib.hid (by have := K1.out.size; simp at this; omega)
    have CXX : Hid (∀ W, Keeps w1 W → W.cell? ⟨w.heap.size, 0, none⟩ = some (.int .i64 2) ∧ W.cell? ⟨w.heap.size, 1, none⟩ = some (.int .i64 s) ∧ W.cell? ⟨w.heap.size, 2, none⟩ = some (.slice pp N cp)) := Lib.hid fun W k => CX.out W (K1.out.trans k)
    obtain ⟨x0, x1, x2⟩ := CXX.out _ (Keeps.refl _)
    obtain ⟨P0, hP0⟩ : ∃ P : ByteArray, ⟨(Mon.put s).toArray⟩ = P := ⟨_, rfl⟩
    have HP0 := Lib.hid hP0
    have C2 : Hid (∀ W, Calls Tryd.prog 26 #[.int .i64 s] W fun e w' => e = .returned (.string P0) ∧ Keeps W w') := Lib.hid fun W => hP0 ▸ mr_put s W (by have := VA.out.s0; have := VA.out.s1; unfold I64 top; omega)
    have ws : wrap64 s = s := i64w (by have := VA.out.s0; unfold top; omega) (by have := VA.out.s1; unfold top; omega)
    clear hP0
    go_wp2_with fail
    refine (C2.out _).mono ?_
    rintro e w2 ⟨rfl, k2⟩
    have K2 := Lib.hid k2
    clear k2 C2 x0 x1 x2 ws
    obtain ⟨w3, hw3⟩ : ∃ W, w2.alloc (.cells #[.string ⟨#[109, 97, 110, 105, 102, 101, 115, 116]⟩, .string P0] tS) = W := ⟨_, rfl⟩
    obtain ⟨g3, hg3⟩ : ∃ n, w2.heap.size = n := ⟨_, rfl⟩
    have LO : Hid (skStrK.Own w1.heap.size w3 (slV (some ⟨g3, 0, none⟩, 2, 2)) (headT s)) := Lib.hid (by rw [← hw3, ← hg3]; exact sk_lit (n := 2) (by rw [← HP0.out]; rfl) rfl (by simp [maxLen]) _ K2.out.size)
    have K3 : Hid (Keeps w1 w3) := Lib.hid (hw3 ▸ kept_alloc K2.out _)
    have G3 : Hid (w3.heap.size = g3 + 1) := Lib.hid (by rw [← hw3, ← hg3]; simp)
    have TF := Lib.hid (TblO.first (B := w1.heap.size) K3.out.size LO.out)
    have K4 : Hid (Keeps w1 (w3.alloc (.cells #[slV (some ⟨g3, 0, none⟩, 2, 2)] tR))) := Lib.hid (kept_alloc K3.out _)
    obtain ⟨x0, x1, x2⟩ := CXX.out _ K4.out
    unfold slV at x0 x1 x2 K4 TF
    simp only at x0 x1 x2 K4 TF
    go_upto_region 4 with (fail)
    clear hw3 hg3 x0 x1 x2
    obtain ⟨w4, hw4⟩ : ∃ W, w3.alloc (.cells #[.slice (some ⟨g3, 0, none⟩) 2 2] tR) = W := ⟨_, rfl⟩
    obtain ⟨g4, hg4⟩ : ∃ n, w3.heap.size = n := ⟨_, rfl⟩
    rw [hw4] at K4 TF ⊢
    rw [hg4] at TF ⊢
    clear hw4 hg4 G3 LO
    obtain ⟨x0, x1, x2⟩ := CXX.out _ K4.out
    go_wp2_with fail
    go_loopg [4, 5, 6] N (fun g v4 v5 vi W => ∃ (k : Nat) (p4 : Option Addr) (c4 : Nat) (vs : List Sl3) (M1 : Nat) (T : Int), k + g = N ∧ v4 = .slice p4 M1 c4 ∧ v5 = .int .i64 T ∧ vi = .int .i64 (k : Int) ∧ M1 = (ordL 0 (L.take k)).length + 1 ∧ T = totL (L.take k) ∧ TblO w1.heap.size W (.slice p4 M1 c4) vs (headT s :: (ordL 0 (L.take k)).map (rowO L)) ∧ Keeps w1 W)
    case atStart => exact ⟨0, _, 1, _, 1, 0, by omega, rfl, rfl, rfl, by simp [ordL], by simp [totL], by rw [List.take_zero]; exact TF.out, K4.out⟩
    case round =>
      obtain ⟨k, p4, c4, vs, M1, T, hi, rfl, rfl, rfl, hm, htt, ht, hw⟩ := hrel
      have HI := Lib.hid hi
      have HM := Lib.hid hm
      have HTT := Lib.hid htt
      have HTW := Lib.hid ht
      have HW := Lib.hid hw
      have TBD : Hid (0 ≤ T ∧ T ≤ 119880) := Lib.hid (by rw [htt]; exact tot_front VA.out.good k)
      have MB : Hid (M1 ≤ k + 1) := Lib.hid (by have := ord_len (L.take k) 0; rw [List.length_take] at this; omega)
      clear ht hw hm htt x0 x1 x2
      obtain ⟨x0, x1, x2⟩ := CXX.out _ HW.out
      cases gk with
      | zero =>
        obtain rfl : k = N := by as_aux_lemma => (omega)
        have hd : decide ((k : Int) < (k : Int)) = false := decide_eq_false (by as_aux_lemma => (omega))
        have hz : ¬ ((k : Int) < (k : Int)) := by as_aux_lemma => (omega)
        have TKL : Hid (L.take k = L) := Lib.hid (List.take_of_length_le (by rw [HN.out]; exact Nat.le_refl _))
        obtain ⟨m, hm⟩ : ∃ m, M1 - 1 = m := ⟨_, rfl⟩
        have HMM : Hid (m = (grpL L).length) := Lib.hid (by
          have h1 := HM.out
          rw [TKL.out] at h1
          have h2 := congrArg List.length (ord_all VA.out.good)
          rw [List.length_map] at h2
          omega)
        have HTE : Hid (T = totL L) := Lib.hid (by rw [HTT.out, TKL.out])
        obtain ⟨u1, u2⟩ := pred_wrap (k := M1) (j := m) (by have := HM.out; omega) hm (by have := MB.out; have := HN4.out; omega)
        obtain ⟨PE, hPE⟩ : ∃ P : ByteArray, ⟨(Mon.put (m : Int)).toArray⟩ = P := ⟨_, rfl⟩
        have HPE := Lib.hid hPE
        obtain ⟨PT, hPT⟩ : ∃ P : ByteArray, ⟨(Mon.put T).toArray⟩ = P := ⟨_, rfl⟩
        have HPT := Lib.hid hPT
        have CE : Hid (∀ W, Calls Tryd.prog 26 #[.int .i64 (m : Int)] W fun e w' => e = .returned (.string PE) ∧ Keeps W w') := Lib.hid fun W => hPE ▸ mr_put (m : Int) W (by have := MB.out; have := HN4.out; unfold I64 top; omega)
        have CT : Hid (∀ W, Calls Tryd.prog 26 #[.int .i64 T] W fun e w' => e = .returned (.string PT) ∧ Keeps W w') := Lib.hid fun W => hPT ▸ mr_put T W (by have := TBD.out; unfold I64 top; omega)
        have TK : Hid (Mft.tableL s L = headT s :: (ordL 0 (L.take k)).map (rowO L) ++ [endT (m : Int) T]) := Lib.hid (by unfold Mft.tableL tableK; rw [TKL.out, rowO_all VA.out.good, HMM.out, HTE.out]; rfl)
        clear hPE hPT hm
        go_wp2_with fail
        refine (CE.out _).mono ?_
        rintro e w5 ⟨rfl, k5⟩
        clear u1 u2
        go_wp2_with fail
        refine (CT.out _).mono ?_
        rintro e w5b ⟨rfl, k5b⟩
        have K5 := Lib.hid (HW.out.trans (k5.trans k5b))
        have T5 := Lib.hid (HTW.out.keeps (k5.trans k5b))
        obtain ⟨w6, hw6⟩ : ∃ W, w5b.alloc (.cells #[.string ⟨#[101, 110, 100]⟩, .string PE, .string PT] tS) = W := ⟨_, rfl⟩
        obtain ⟨g6, hg6⟩ : ∃ n, w5b.heap.size = n := ⟨_, rfl⟩
        have K6 : Hid (Keeps w1 w6) := Lib.hid (hw6 ▸ kept_alloc K5.out _)
        have T6 : Hid (TblO w1.heap.size w6 (.slice p4 M1 c4) vs (headT s :: (ordL 0 (L.take k)).map (rowO L))) := Lib.hid (T5.out.keeps (hw6 ▸ kept_alloc (Keeps.refl _) _))
        have LO : Hid (skStrK.Own w1.heap.size w6 (slV (some ⟨g6, 0, none⟩, 3, 3)) (endT (m : Int) T)) := Lib.hid (by rw [← hw6, ← hg6]; exact sk_lit (n := 3) (by rw [← HPE.out, ← HPT.out]; rfl) rfl (by simp [maxLen]) _ K5.out.size)
        have LV : Hid (vs.length = M1) := Lib.hid (by rw [T6.out.2.1, List.length_cons, List.length_map]; exact HM.out.symm)
        have T7 := Lib.hid (T6.out.keeps (kept_alloc (Keeps.refl w6) (.cells #[slV (some ⟨g6, 0, none⟩, 3, 3)] tR)))
        obtain ⟨p8, c8, w8, R1, R2, R3⟩ := skSliK.app_row (w6.alloc (.cells #[slV (some ⟨g6, 0, none⟩, 3, 3)] tR)) w1.heap.size (.slice p4 M1 c4) vs (.slice (some ⟨w6.heap.size, 0, none⟩) 1 1) [(some ⟨g6, 0, none⟩, 3, 3)] T7.out.1 (sk_src1 w6 (some ⟨g6, 0, none⟩, 3, 3)) (by rw [LV.out]; have := MB.out; have := HN4.out; simp; omega) (Nat.le_trans K6.out.size (by simp))
        rw [List.length_singleton, LV.out] at R1 R2
        have T8 : Hid (TblO w1.heap.size w8 (.slice p8 (M1 + 1) c8) (vs ++ [(some ⟨g6, 0, none⟩, 3, 3)]) (Mft.tableL s L)) := Lib.hid (by
          rw [TK.out]
          exact T7.out.app (skStrK.own_keeps LO.out (kept_alloc (Keeps.refl w6) _)) R2 R3)
        have K8 : Hid (Keeps w1 w8) := Lib.hid (sk_mono (kept_alloc K6.out (.cells #[slV (some ⟨g6, 0, none⟩, 3, 3)] tR)) R3 (fun j hj => (T6.out.off j hj).1))
        have HRA : Hid ((Builtin.append_ #[skSliK.ts, skSliK.ts] skSliK.ts #[.slice p4 M1 c4, .slice (some ⟨w6.heap.size, 0, none⟩) 1 1]).run Tryd.prog (w6.alloc (.cells #[.slice (some ⟨g6, 0, none⟩) 3 3] tR)) = .ok (.slice p8 (M1 + 1) c8) w8) := Lib.hid R1
        obtain ⟨X, hX⟩ : ∃ X : ByteArray, ⟨(Mft.fileL s L).toArray⟩ = X := ⟨_, rfl⟩
        have HX := Lib.hid hX
        have CP : Hid (Calls Tryd.prog 16 #[.slice p8 (M1 + 1) c8] w8 fun e w' => e = .returned (.string X) ∧ Keeps w8 w') := Lib.hid (by
          rw [← hX]
          exact Calls.mono (rprint_any (.slice p8 (M1 + 1) c8) (Mft.tableL s L) w8 (T8.out.rows (by unfold Mft.tableL; rw [table_len]; have := (grp_ok VA.out.good).1.few; omega)) (mf_fits VA.out)) fun e w' h => ⟨h.1, Keeps.of_eq h.2⟩)
        clear R1 R2 R3 hX k5 k5b
        go_wp2_with (first
          | (at_builtin; refine wpAppKnown rfl _ _ _ _ rfl _ _ _ _ rfl rfl HRA.out ?_)
          | (go_at_call 16; refine CP.out.mono ?_; rintro e w9 ⟨rfl, k9⟩))
        go_ret2
        exact ⟨ret_skP (by rw [EO.out.1, HX.out]) EO.out.2.symm, KB.out.trans (K1.out.trans (K8.out.trans k9))⟩
      | succ g =>
        have hlt : k < N := by as_aux_lemma => (omega)
        obtain ⟨x, hx⟩ : ∃ x, L[k]? = some x := ⟨_, List.getElem?_eq_getElem (by have := HN.out; omega)⟩
        have HX := Lib.hid hx
        obtain ⟨p9, c9, e9, _, _, hc9⟩ := HR.out.keeps (K1.out.trans HW.out)
        rw [HN.out] at e9
        simp only [Value.slice.injEq] at e9
        obtain ⟨rfl, _, rfl⟩ := e9
        obtain ⟨ad, rfl, QQ⟩ := hc9 k x hx
        have HCC := Lib.hid hc9
        have RX := Lib.hid (VA.out.good.each x (List.mem_of_getElem? hx))
        have QR := Lib.hid QQ
        obtain ⟨q0, q1, q2, q3, q4⟩ := QQ
        have hi1 : (k : Int) < (N : Int) := by as_aux_lemma => (omega)
        have hi0 : (0 : Int) ≤ (k : Int) := by as_aux_lemma => (omega)
        clear hc9 hx hlt
        go_upto_region 9 with (fail)
        obtain ⟨wq, hwq⟩ : ∃ W, wr.alloc (.cells #[.int .i64 x.o, .int .i64 x.d] 48) = W := ⟨_, rfl⟩
        obtain ⟨kb, hkb⟩ : ∃ n, wr.heap.size = n := ⟨_, rfl⟩
        have AX : Hid (Keeps wr wq) := Lib.hid (hwq ▸ kept_alloc (Keeps.refl wr) _)
        have KE : Hid (wq.heap[kb]? = some (.cells #[.int .i64 x.o, .int .i64 x.d] 48 (0, 0))) := Lib.hid (by rw [← hwq, ← hkb]; exact heap_alloc_new wr _)
        have KLT : Hid (wr.heap.size ≤ kb) := Lib.hid (by rw [← hkb]; exact Nat.le_refl _)
        rw [hwq, hkb]
        clear hwq hkb q0 q1 q2 q3 q4 x0 x1 x2
        obtain ⟨x0, x1, x2⟩ := CXX.out _ (HW.out.trans AX.out)
        obtain ⟨q0, q1, q2, q3, q4⟩ := QR.out.keeps AX.out
        obtain ⟨T1, hT1⟩ : ∃ n, T + x.q = n := ⟨_, rfl⟩
        have HT1 : Hid (T1 = totL (L.take (k + 1))) := Lib.hid (by rw [tot_take HX.out, ← HTT.out]; exact hT1.symm)
        have WT : Hid (wrap64 (T + x.q) = T1) := Lib.hid (by rw [hT1]; exact i64w (by have := TBD.out; have := RX.out.q0; unfold top; omega) (by have := TBD.out; have := RX.out.q1; unfold top; omega))
        clear hT1
        go_upto_region 10 with (fail)
        obtain ⟨z0, z1⟩ : wq.cell? ⟨kb, 0, none⟩ = some (.int .i64 x.o) ∧ wq.cell? ⟨kb, 1, none⟩ = some (.int .i64 x.d) := ⟨Joins.cell_of_block KE.out 0, Joins.cell_of_block KE.out 1⟩
        obtain ⟨nb, hnb⟩ : ∃ b : Bool, (b = true ↔ x.o ≠ ((L.take k).getLast?.map (·.o)).getD 0) := ⟨decide (x.o ≠ ((L.take k).getLast?.map (·.o)).getD 0), by simp⟩
        have NB := Lib.hid hnb
        clear hnb
        go_cut [56] (fun v W => v = .bool nb ∧ Keeps wq W)
        case first =>
          rcases Nat.eq_zero_or_pos k with hk0 | hk0
          · have hb : nb = true := NB.out.2 (by
              rw [hk0]
              have := RX.out.key.o0
              show x.o ≠ 0
              omega)
            subst hb
            have e0 : ((k : Int) == 0) = true := by rw [hk0]; rfl
            subst hk0
            go_quiet (fail)
            have KQ := Lib.hid (keeps_drewN (Keeps.refl wq) nq)
            go_wp2
            go_meet
            case rel => exact ⟨rfl, KQ.out⟩
          · obtain ⟨j, hj⟩ : ∃ j, k - 1 = j := ⟨_, rfl⟩
            obtain ⟨y, hy⟩ : ∃ y, L[j]? = some y := ⟨_, List.getElem?_eq_getElem (by have := HN.out; have := (List.getElem?_eq_some_iff.1 HX.out).1; omega)⟩
            obtain ⟨ad2, had, QY⟩ := HCC.out j y hy
            cases had
            obtain ⟨r0, r1, r2, r3, r4⟩ := QY.keeps AX.out
            have LL : Hid ((L.take k).getLast? = some y) := Lib.hid (by
              have := last_take hy
              rw [show j + 1 = k by omega] at this
              exact this)
            have ek : ((k : Int) == 0) = false := by rw [beq_eq_false_iff_ne]; omega
            obtain ⟨u1, u2⟩ := pred_wrap (k := k) (j := j) hk0 hj (by have := HN4.out; have := (List.getElem?_eq_some_iff.1 HX.out).1; have := HN.out; omega)
            have hj1 : (j : Int) < (N : Int) := by omega
            have hj0 : (0 : Int) ≤ (j : Int) := by omega
            clear hy QY q0 q1 q2 q3 q4 r1 r2 r3 r4 hj
            by_cases ho : y.o = x.o
            · have hb : nb = false := by
                cases nb with
                | false => rfl
                | true =>
                  have := NB.out.1 rfl
                  rw [LL.out] at this
                  exact absurd ho.symm this
              subst hb
              rw [ho] at r0
              clear hk0 ho
              go_quiet (fail)
              have KQ := Lib.hid (keeps_drewN (Keeps.refl wq) nq)
              go_wp2
              go_meet
              case rel => exact ⟨rfl, KQ.out⟩
            · have hb : nb = true := NB.out.2 (by
                rw [LL.out]
                exact fun e => ho e.symm)
              subst hb
              obtain ⟨t1, t2⟩ := ne_tests ho
              clear hk0 ho
              go_quiet (fail)
              have KQ := Lib.hid (keeps_drewN (Keeps.refl wq) nq)
              go_wp2
              go_meet
              case rel => exact ⟨rfl, KQ.out⟩
        case rest =>
        obtain ⟨rfl, hkq⟩ := hcut
        have KC : Hid (Keeps w1 wc) := Lib.hid (HW.out.trans (AX.out.trans hkq))
        have HTC := Lib.hid (HTW.out.keeps (AX.out.trans hkq))
        have KS : Hid (KyS wc kb x.o w.heap.size (.slice (some ad) N cp)) := Lib.hid ⟨cell_keeps hkq (Joins.cell_of_block KE.out 0), (CXX.out _ KC.out).2.2⟩
        have KLT2 := KLT
        have wi : wrap64 ((k : Int) + 1) = (k : Int) + 1 := i64w (by as_aux_lemma => (unfold top; omega)) (by as_aux_lemma => (unfold top; have := HN4.out; omega))
        clear hkq x0 x1 x2 q0 q1 q2 q3 q4 z0 z1
        cases nb with
        | false =>
          have ON : Hid (ordL 0 (L.take (k + 1)) = ordL 0 (L.take k)) := Lib.hid (by
            rw [ord_next HX.out, if_pos, List.append_nil]
            by_cases hz : x.o = ((L.take k).getLast?.map (·.o)).getD 0
            · exact hz
            · have := NB.out.2 hz; cases this)
          go_wp2_with fail
          go_roundg g
          case measure => omega
          case rel => exact ⟨k + 1, p4, c4, vs, M1, T1, by have := HI.out; omega, rfl, by first | rfl | rw [WT.out], by first | rfl | go_num, by rw [ON.out]; exact HM.out, HT1.out, by rw [ON.out]; exact HTC.out, KC.out⟩
        | true =>
        have ON : Hid (ordL 0 (L.take (k + 1)) = ordL 0 (L.take k) ++ [x.o]) := Lib.hid (by rw [ord_next HX.out, if_neg (NB.out.1 rfl)])
        have TK : Hid (headT s :: (ordL 0 (L.take (k + 1))).map (rowO L) = headT s :: (ordL 0 (L.take k)).map (rowO L) ++ [rowO L x.o]) := Lib.hid (by rw [ON.out, List.map_append]; rfl)
        have MN : Hid (M1 + 1 = (ordL 0 (L.take (k + 1))).length + 1) := Lib.hid (by rw [ON.out, List.length_append, HM.out]; rfl)
        have LV : Hid (vs.length = M1) := Lib.hid (by rw [HTC.out.2.1, List.length_cons, List.length_map]; exact HM.out.symm)
        have LEN : Hid (vs.length + [(some (⟨0, 0, none⟩ : Addr), 3, 3)].length = M1 + 1) := Lib.hid (by rw [LV.out]; rfl)
        have LN : Hid (vs.length + [(some (⟨0, 0, none⟩ : Addr), 3, 3)].length ≤ 100000) := Lib.hid (by rw [LV.out]; have := MB.out; have := HN4.out; simp; omega)
        obtain ⟨P1, hP1⟩ : ∃ P : ByteArray, ⟨(Mon.put x.o).toArray⟩ = P := ⟨_, rfl⟩
        obtain ⟨LT1, hLT1⟩ : ∃ P : ByteArray, ⟨(cellB L x.o 2).toArray⟩ = P := ⟨_, rfl⟩
        obtain ⟨LT2, hLT2⟩ : ∃ P : ByteArray, ⟨(cellB L x.o 5).toArray⟩ = P := ⟨_, rfl⟩
        have HP1 := Lib.hid hP1
        have HLT1 := Lib.hid hLT1
        have HLT2 := Lib.hid hLT2
        have CP1 : Hid (∀ W, Calls Tryd.prog 26 #[.int .i64 x.o] W fun e w' => e = .returned (.string P1) ∧ Keeps W w') := Lib.hid fun W => hP1 ▸ mr_put x.o W (by have := RX.out.key.o0; have := RX.out.key.o1; unfold I64 top; omega)
        have CCX : Hid (∀ W d, Keeps w1 W → Calls Tryd.prog 27 #[.slice (some ad) N cp, .int .i64 x.o, .int .i64 d] W fun e w' => e = .returned (.string ⟨(cellB L x.o d).toArray⟩) ∧ Keeps W w') := Lib.hid fun W d kk => mr_cell _ L x.o d W (HR.out.keeps (K1.out.trans kk)) (by rw [HN.out]; exact HN4.out) (fun y hy => ⟨(VA.out.good.each y hy).q0, (VA.out.good.each y hy).q1⟩)
        have CC1 : Hid (∀ W, Keeps w1 W → Calls Tryd.prog 27 #[.slice (some ad) N cp, .int .i64 x.o, .int .i64 2] W fun e w' => e = .returned (.string LT1) ∧ Keeps W w') := Lib.hid fun W kk => hLT1 ▸ CCX.out W 2 kk
        have CC2 : Hid (∀ W, Keeps w1 W → Calls Tryd.prog 27 #[.slice (some ad) N cp, .int .i64 x.o, .int .i64 5] W fun e w' => e = .returned (.string LT2) ∧ Keeps W w') := Lib.hid fun W kk => hLT2 ▸ CCX.out W 5 kk
        clear hP1 hLT1 hLT2 CCX
        go_upto_region 11 with (fail)
        refine wp_region_held_drew (S := fun W => KyS W kb x.o w.heap.size (.slice (some ad) N cp)) (by kernel_rfl) (KS.out.keeps (ky_drew _)) (fun hHeld => ?_)
        have HK : Hid (Keeps wc wc.drew) := Lib.hid (ky_drew wc)
        refine takeH (i := 0) (d := some 57) (v := ?av0) rfl rfl (by kernel_rfl) (by kernel_rfl) (by kernel_rfl) (fun _ _ _ h => h) (Or.inl ⟨by rfl, ?ay0⟩) (by assumption) ?ar0
        case ay0 => (intro W hSw; obtain ⟨y0, y1⟩ := hSw; go_simp; try with_reducible rfl)
        try simp only [Act.put, List.setIfInBounds_toArray, List.set_cons_zero, List.set_cons_succ]
        refine takeH (i := 1) (d := some 58) (v := ?av1) rfl rfl (by kernel_rfl) (by kernel_rfl) (by kernel_rfl) (fun _ _ _ h => h) (Or.inl ⟨by rfl, ?ay1⟩) (by assumption) ?ar1
        case ay1 => (intro W hSw; obtain ⟨y0, y1⟩ := hSw; go_simp; try with_reducible rfl)
        try simp only [Act.put, List.setIfInBounds_toArray, List.set_cons_zero, List.set_cons_succ]
        refine takeH (i := 2) (d := some 59) (v := ?av2) rfl rfl (by kernel_rfl) (by kernel_rfl) (by kernel_rfl) (fun _ _ _ h => h) (Or.inl ⟨by rfl, ?ay2⟩) (by assumption) ?ar2
        case ay2 => (intro W hSw; obtain ⟨y0, y1⟩ := hSw; go_simp; try with_reducible rfl)
        try simp only [Act.put, List.setIfInBounds_toArray, List.set_cons_zero, List.set_cons_succ]
        refine takeH (i := 4) (d := some 61) (v := ?av4) rfl rfl (by kernel_rfl) (by kernel_rfl) (by kernel_rfl) (fun _ _ _ h => h) (Or.inl ⟨by rfl, ?ay4⟩) (by assumption) ?ar4
        case ay4 => (intro W hSw; obtain ⟨y0, y1⟩ := hSw; go_simp; try with_reducible rfl)
        try simp only [Act.put, List.setIfInBounds_toArray, List.set_cons_zero, List.set_cons_succ]
        refine takeH (i := 5) (d := some 62) (v := ?av5) rfl rfl (by kernel_rfl) (by kernel_rfl) (by kernel_rfl) (fun _ _ _ h => h) (Or.inl ⟨by rfl, ?ay5⟩) (by assumption) ?ar5
        case ay5 => (intro W hSw; obtain ⟨y0, y1⟩ := hSw; go_simp; try with_reducible rfl)
        try simp only [Act.put, List.setIfInBounds_toArray, List.set_cons_zero, List.set_cons_succ]
        refine takeH (i := 6) (d := some 63) (v := ?av6) rfl rfl (by kernel_rfl) (by kernel_rfl) (by kernel_rfl) (fun _ _ _ h => h) (Or.inl ⟨by rfl, ?ay6⟩) (by assumption) ?ar6
        case ay6 => (intro W hSw; obtain ⟨y0, y1⟩ := hSw; go_simp; try with_reducible rfl)
        try simp only [Act.put, List.setIfInBounds_toArray, List.set_cons_zero, List.set_cons_succ]
        refine takeH (i := 7) (d := some 64) (v := ?av7) rfl rfl (by kernel_rfl) (by kernel_rfl) (by kernel_rfl) (fun _ _ _ h => h) (Or.inl ⟨by rfl, ?ay7⟩) (by assumption) ?ar7
        case ay7 => (intro W hSw; obtain ⟨y0, y1⟩ := hSw; go_simp; try with_reducible rfl)
        try simp only [Act.put, List.setIfInBounds_toArray, List.set_cons_zero, List.set_cons_succ]
        refine takeH (i := 9) (d := some 66) (v := ?av9) rfl rfl (by kernel_rfl) (by kernel_rfl) (by kernel_rfl) (fun _ _ _ h => h) (Or.inl ⟨by rfl, ?ay9⟩) (by assumption) ?ar9
        case ay9 => (intro W hSw; obtain ⟨y0, y1⟩ := hSw; go_simp; try with_reducible rfl)
        try simp only [Act.put, List.setIfInBounds_toArray, List.set_cons_zero, List.set_cons_succ]
        refine takeH (i := 10) (d := some 67) (v := ?av10) rfl rfl (by kernel_rfl) (by kernel_rfl) (by kernel_rfl) (fun _ _ _ h => h) (Or.inl ⟨by rfl, ?ay10⟩) (by assumption) ?ar10
        case ay10 => (intro W hSw; obtain ⟨y0, y1⟩ := hSw; go_simp; try with_reducible rfl)
        try simp only [Act.put, List.setIfInBounds_toArray, List.set_cons_zero, List.set_cons_succ]
        refine takeH (i := 11) (d := some 68) (v := ?av11) rfl rfl (by kernel_rfl) (by kernel_rfl) (by kernel_rfl) (fun _ _ _ h => h) (Or.inl ⟨by rfl, ?ay11⟩) (by assumption) ?ar11
        case ay11 => (intro W hSw; obtain ⟨y0, y1⟩ := hSw; go_simp; try with_reducible rfl)
        try simp only [Act.put, List.setIfInBounds_toArray, List.set_cons_zero, List.set_cons_succ]
        refine takeH (i := 12) (d := some 69) (v := ?av12) rfl rfl (by kernel_rfl) (by kernel_rfl) (by kernel_rfl) (fun _ _ _ h => h) (Or.inl ⟨by rfl, ?ay12⟩) (by assumption) ?ar12
        case ay12 => (intro W hSw; obtain ⟨y0, y1⟩ := hSw; go_simp; try with_reducible rfl)
        try simp only [Act.put, List.setIfInBounds_toArray, List.set_cons_zero, List.set_cons_succ]
        refine wpAnyH_ready (rs := [3]) (by decide +kernel) (by simp) ?_
        refine AllReadyH.cons rfl (fun K hK => ?_) AllReadyH.nil
        go_simp
        refine (CP1.out _).mono ?_
        rintro e wv0 ⟨rfl, kk⟩
        refine hK.out _ _ (hHeld.keeps kk) (fun hHeld => ?_)
        have HK : Hid (Keeps wc _) := Lib.hid (Keeps.trans HK.out kk)
        clear hK K kk
        try simp only [Act.put, List.setIfInBounds_toArray, List.set_cons_zero, List.set_cons_succ]
        refine wpAnyH_ready (rs := [8]) (by decide +kernel) (by simp) ?_
        refine AllReadyH.cons rfl (fun K hK => ?_) AllReadyH.nil
        go_simp
        refine (CC1.out _ (KC.out.trans HK.out)).mono ?_
        rintro e wv1 ⟨rfl, kk⟩
        refine hK.out _ _ (hHeld.keeps kk) (fun hHeld => ?_)
        have HK : Hid (Keeps wc _) := Lib.hid (Keeps.trans HK.out kk)
        clear hK K kk
        try simp only [Act.put, List.setIfInBounds_toArray, List.set_cons_zero, List.set_cons_succ]
        refine wpAnyH_ready (rs := [13]) (by decide +kernel) (by simp) ?_
        refine AllReadyH.cons rfl (fun K hK => ?_) AllReadyH.nil
        go_simp
        refine (CC2.out _ (KC.out.trans HK.out)).mono ?_
        rintro e wv2 ⟨rfl, kk⟩
        refine hK.out _ _ (hHeld.keeps kk) (fun hHeld => ?_)
        have HK : Hid (Keeps wc _) := Lib.hid (Keeps.trans HK.out kk)
        clear hK K kk
        try simp only [Act.put, List.setIfInBounds_toArray, List.set_cons_zero, List.set_cons_succ]
        refine wpAnyH_ready (rs := [14]) (by decide +kernel) (by simp) ?_
        refine AllReadyH.cons rfl (fun K hK => ?_) AllReadyH.nil
        go_simp
        refine hK.out _ _ (hHeld.keeps (kept_alloc (Keeps.refl _) _)) (fun hHeld => ?_)
        clear hK K
        try simp only [Act.put, List.setIfInBounds_toArray, List.set_cons_zero, List.set_cons_succ]
        refine wpAnyH_ready (rs := [15]) (by decide +kernel) (by simp) ?_
        refine AllReadyH.cons rfl (fun K hK => ?_) AllReadyH.nil
        go_simp
        refine hK.out _ _ (hHeld.keeps (kept_alloc (Keeps.refl _) _)) (fun hHeld => ?_)
        clear hK K
        try simp only [Act.put, List.setIfInBounds_toArray, List.set_cons_zero, List.set_cons_succ]
        obtain ⟨wl, hwl⟩ : ∃ W, wv2.alloc (.cells #[.string P1, .string LT1, .string LT2] tS) = W := ⟨_, rfl⟩
        obtain ⟨gl, hgl⟩ : ∃ n, wv2.heap.size = n := ⟨_, rfl⟩
        have KC2 := Lib.hid (KC.out.trans HK.out)
        have LO : Hid (skStrK.Own w1.heap.size wl (slV (some ⟨gl, 0, none⟩, 3, 3)) (rowO L x.o)) := Lib.hid (by rw [← hwl, ← hgl]; exact sk_lit (n := 3) (by rw [← HP1.out, ← HLT1.out, ← HLT2.out]; rfl) rfl (by simp [maxLen]) _ KC2.out.size)
        have KL : Hid (Keeps wc wl) := Lib.hid (by rw [← hwl]; exact kept_alloc HK.out _)
        have SL : Hid (skSliK.Src (wl.alloc (.cells #[.slice (some ⟨gl, 0, none⟩) 3 3] tR)) (.slice (some ⟨gl + 1, 0, none⟩) 1 1) [(some ⟨gl, 0, none⟩, 3, 3)]) := Lib.hid (by
          have e : wl.heap.size = gl + 1 := by rw [← hwl, ← hgl]; simp
          rw [← e]
          exact sk_src1 wl (some ⟨gl, 0, none⟩, 3, 3))
        rw [hwl] at hHeld ⊢
        rw [hgl] at hHeld ⊢
        clear hwl hgl HK KC2
        have TB := Lib.hid ((HTC.out.keeps KL.out).keeps (kept_alloc (Keeps.refl wl) (.cells #[slV (some ⟨gl, 0, none⟩, 3, 3)] tR)))
        refine wpAnyH_ready (rs := [16]) (by decide +kernel) (by simp) ?_
        refine AllReadyH.cons rfl (fun K hK => ?_) AllReadyH.nil
        refine stepAppOwnK skSliK rfl _ _ rfl rfl w1.heap.size ?hB (.slice p4 M1 c4) (.slice (some ⟨gl + 1, 0, none⟩) 1 1) vs [(some ⟨gl, 0, none⟩, 3, 3)] (M1 + 1) LEN.out rfl rfl ?hO SL.out LN.out ?_
        case hB => exact Nat.le_trans (KC.out.trans KL.out).size (by simp)
        case hO => exact TB.out.1
        intro p5 c5 w5 o5 g5
        refine hK.out _ _ (hHeld.grown g5 (fun e => by have := (HTC.out.off kb e).2; have := (HTW.out.off kb e).2; have := KLT.out; omega) (fun e => by have := (HTC.out.off _ e).1; have := WLT.out; omega)) (fun hHeld => ?_)
        clear hK K
        try simp only [Act.put, List.setIfInBounds_toArray]
        have TA : Hid (TblO w1.heap.size w5 (.slice p5 (M1 + 1) c5) (vs ++ [(some ⟨gl, 0, none⟩, 3, 3)]) (headT s :: (ordL 0 (L.take (k + 1))).map (rowO L))) := Lib.hid (by
          have := TB.out.app (skStrK.own_keeps LO.out (kept_alloc (Keeps.refl wl) _)) o5 g5
          rw [TK.out]
          exact this)
        have KA : Hid (Keeps w1 w5) := Lib.hid (sk_mono ((KC.out.trans KL.out).trans (kept_alloc (Keeps.refl wl) _)) g5 (fun j hj => (HTC.out.off j hj).1))
        clear o5 g5
        refine takeH (i := 17) (d := some 4) (v := ?bv17) rfl rfl (by kernel_rfl) (by kernel_rfl) (by kernel_rfl) (fun _ _ _ h => h) (Or.inl ⟨by rfl, ?by17⟩) (by assumption) ?br17
        case by17 => (intro W hSw; obtain ⟨y0, y1⟩ := hSw; go_simp; try with_reducible rfl)
        refine wpAnyH_done (by kernel_rfl) ?_ _
        clear hHeld
        go_wp2_with fail
        go_roundg g
        case measure => omega
        case rel => exact ⟨k + 1, p5, c5, _, M1 + 1, T1, by have := HI.out; omega, rfl, by first | rfl | rw [WT.out], by first | rfl | go_num, MN.out, HT1.out, TA.out, KA.out⟩
end Go.Proofs.YtnkcbefamajghaaDoor
