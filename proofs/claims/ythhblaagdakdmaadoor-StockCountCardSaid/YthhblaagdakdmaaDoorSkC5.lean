
/- The program's stock: Parse. -/
import Derived.Test.YthhblaagdakdmaaDoorSkC4
import Derived.Deep.CutRange
set_option linter.unusedVariables false
namespace Go.Proofs.YthhblaagdakdmaaDoor
open Go.ChangeShapes Go.WideShapes Go.ChangeAt Go.RowKit Ky Rw Csv Stk

theorem sk_owns_local {w w' : World} {B : Nat} {e : TypeId} {v : Value} {n : Nat} {xs : List Value} (h : w.ownsRow B e 1 v n xs) (hk : ∀ g, v.ownBlock = some g → w'.heap[g]? = w.heap[g]?) : w'.ownsRow B e 1 v n xs := by
  obtain ⟨h0, h1⟩ := h
  refine ⟨h0, ?_⟩
  rcases h1 with h1 | ⟨g, cap, cur, rfl, hb, hg, h2⟩
  · exact Or.inl h1
  · exact Or.inr ⟨g, cap, cur, rfl, hb, (hk g rfl).trans hg, h2⟩
theorem own_table_local {w w' : World} {B : Nat} {v : Value} {T : List (List (List UInt8))} (h : OwnTable B w v T) (hk : ∀ g, B ≤ g → g < w.heap.size → w'.heap[g]? = w.heap[g]?) : OwnTable B w' v T := by
  obtain ⟨B', vr, row, hB, vals, h1, h2, h3⟩ := h
  have lo : ∀ {e : TypeId} {x : Value} {n : Nat} {xs : List Value}, w.ownsRow B' e 1 x n xs → w'.ownsRow B' e 1 x n xs := fun hx => sk_owns_local hx fun g hg => hk g (Nat.le_trans hB (hx.lt g hg).1) (hx.lt g hg).2
  refine ⟨B', vr, row, hB, vals, lo h1, lo h2, fun j r hr => ?_⟩
  obtain ⟨v', e1, e2, e3⟩ := h3 j r hr
  exact ⟨v', e1, lo e2, e3⟩
/-- Between two rows. -/
def SkPar2 (w2 : World) (T : List (List (List UInt8))) (N gh : Nat) (v24 : Value) (W : World) : Prop :=
  ∃ (i n' : Nat) (st : PS) (p' : Option Addr) (c' : Nat), i + gh = N ∧ v24 = .int .i64 (i : Int) ∧ st.n = i ∧ Stk.Inv st ∧ runL Stk.st0 T = runL st (T.drop i) ∧ st.rows.length = n' ∧
    RdAt W w2.heap.size (decide (0 < st.n)) st.ended st.seq (.slice p' n' c') ∧ rowK.Own (w2.heap.size + 1) W (.slice p' n' c') st.rows ∧ w2.heap.size + 1 ≤ W.heap.size ∧ Keeps w2 W
set_option maxHeartbeats 16000000 in
set_option maxRecDepth 100000 in
theorem sp_parse (s : ByteArray) (w : World) (hs : s.size ≤ maxLen) (hp : HasP w) (hm : HasMax w) :
    Calls Tryd.prog 12 #[.string s] w (SkOut s.data.toList w) := by
  have C1 : Hid (∀ W, Keeps w W → Calls Tryd.prog 16 #[.string s] W (CsvAll s.data.toList W)) := Lib.hid fun W k => parse_all s W hs (hm.keeps k)
  have HP : Hid (∀ W, Keeps w W → HasP W) := Lib.hid fun W k => hp.keeps k
  obtain ⟨l, hl⟩ : ∃ l, s.data.toList = l := ⟨_, rfl⟩
  rw [hl] at C1 ⊢
  clear hs hl hp hm
  go_enter Tryd.func12, Tryd.ntmps12
  go_wp2_with fail
  refine (C1.out _ (kept_alloc (kept_alloc (Keeps.refl w) _) _)).mono ?_
  rintro e w1 ⟨k1, v, line, col, code, rfl, ho⟩
  have HO := Lib.hid ho
  have B2 : Hid ((w1.heap[w.heap.size]? = some (.cells #[.int .i64 0, .int .i64 0, .slice none 0 0] tSt (0, 0)) ∧ w1.heap[w.heap.size + 1]? = some (.cells #[.int .i64 0, .int .i64 0, .int .i64 0] skRj (0, 0))) ∧ Keeps w w1) := Lib.hid (by
    have s1 : (w.alloc zeSt).heap.size = w.heap.size + 1 := by simp
    have n0 := heap_alloc_new w zeSt
    have n1 := heap_alloc_new (w.alloc zeSt) zeRj
    rw [s1] at n1
    have k2 := kept_alloc (Keeps.refl (w.alloc zeSt)) zeRj
    exact ⟨⟨(k1.block _ (by simp <;> omega)).trans ((k2.block _ (by simp)).trans n0), (k1.block _ (by simp)).trans n1⟩, (kept_alloc (kept_alloc (Keeps.refl w) _) _).trans k1⟩)
  have S2 : Hid (((w.alloc zeSt).alloc zeRj).heap.size = w.heap.size + 2) := Lib.hid (by simp)
  clear ho k1 C1
  obtain ⟨⟨y0, y1, y2⟩, g0, g1, g2⟩ := sk_three_atG B2.out.1.1
  obtain ⟨⟨r0, r1, r2⟩, d0, d1, d2⟩ := sk_three_atG B2.out.1.2
  go_upto_region 2 with (fail)
  obtain ⟨w2, hw2⟩ : ∃ W, ((w1.setCell ⟨w.heap.size + 1, 0, none⟩ (.int .i64 line)).setCell ⟨w.heap.size + 1, 1, none⟩ (.int .i64 col)).setCell ⟨w.heap.size + 1, 2, none⟩ (.int .i64 code) = W := ⟨_, rfl⟩
  have B3 : Hid (∀ W, Keeps w2 W → (W.heap[w.heap.size]? = some (.cells #[.int .i64 0, .int .i64 0, .slice none 0 0] tSt (0, 0)) ∧ W.heap[w.heap.size + 1]? = some (.cells #[.int .i64 line, .int .i64 col, .int .i64 code] skRj (0, 0))) ∧ Keeps w W) := Lib.hid (by
    intro W k
    have a0 := (sk_three_far (W := w1) (n := w.heap.size + 1) (m := w.heap.size) (by omega) (.int .i64 line) (.int .i64 col) (.int .i64 code)).trans B2.out.1.1
    have a1 := sk_three_setG B2.out.1.2 (.int .i64 line) (.int .i64 col) (.int .i64 code)
    have a2 := sk_three_keepsG (n := w.heap.size + 1) B2.out.2 (Nat.le_succ _) (.int .i64 line) (.int .i64 col) (.int .i64 code)
    rw [hw2] at a0 a1 a2
    exact ⟨⟨(k.block _ (Array.getElem?_eq_some_iff.1 a0).1).trans a0, (k.block _ (Array.getElem?_eq_some_iff.1 a1).1).trans a1⟩, a2.trans k⟩)
  have OT : Hid (∀ T, OwnTable ((w.alloc zeSt).alloc zeRj).heap.size w1 v T → ∀ W, Keeps w2 W → RowsAt W v T) := Lib.hid (by
    intro T h W k
    have h2 : OwnTable ((w.alloc zeSt).alloc zeRj).heap.size w2 v T := own_table_local h fun g h1 h2 => by
      rw [← hw2]
      rw [S2.out] at h1
      exact sk_three_far (W := w1) (n := w.heap.size + 1) (m := g) (by omega) (.int .i64 line) (.int .i64 col) (.int .i64 code)
    exact h2.rows.keeps k)
  rw [hw2]
  clear hw2 y0 y1 y2 g0 g1 g2 r0 r1 r2 d0 d1 d2 B2 S2
  have BW := Lib.hid (B3.out w2 (Keeps.refl _))
  obtain ⟨⟨y0, y1, y2⟩, g0, g1, g2⟩ := sk_three_atG BW.out.1.1
  obtain ⟨⟨r0, r1, r2⟩, d0, d1, d2⟩ := sk_three_atG BW.out.1.2
  rcases HO.out with ⟨T, hr, hp, hfi, how, rfl, rfl, rfl⟩ | ⟨a, b, hp, hc, rfl, rfl, rfl⟩
  rotate_left
  · have E := Lib.hid hp
    have tc : (code == 0) = false := by rw [beq_eq_false_iff_ne]; exact hc
    have tc2 : (code != 0) = true := by rw [bne, tc]; rfl
    clear hp hc HO OT
    go_upto_region 3 with (fail)
    have m1 : w.heap.size ≠ w.heap.size + 1 := by omega
    have m2 : w.heap.size + 1 ≠ w.heap.size := by omega
    go_region
    go_wp2
    have K6 := sk_six_keeps BW.out.2 (Nat.le_refl _) (.int .i64 0) (.int .i64 0) (.slice none 0 0) (.int .i64 (a : Int)) (.int .i64 (b : Int)) (.int .i64 code)
    obtain ⟨⟨e0, e1, e2⟩, e3, e4, e5⟩ := sk_six_set BW.out.1.1 BW.out.1.2 (.int .i64 0) (.int .i64 0) (.slice none 0 0) (.int .i64 (a : Int)) (.int .i64 (b : Int)) (.int .i64 code)
    exact bodyPost_ret (v := .tuple #[.agg #[.int .i64 0, .int .i64 0, .slice none 0 0], .agg #[.int .i64 (a : Int), .int .i64 (b : Int), .int .i64 code]]) (by simp [results, Tryd.results12, go_sem, e0, e1, e2, e3, e4, e5]) rfl (Or.inr ⟨a, b, code, E.out, rfl, K6.trans (ky_drew _)⟩)
  have RT := Lib.hid (OT.out T how)
  obtain ⟨N, hN⟩ : ∃ N, T.length = N := ⟨_, rfl⟩
  have HN := Lib.hid hN
  have HR := Lib.hid hp
  have HF := Lib.hid hfi
  have HL : Hid (N ≤ 65536) := Lib.hid (by rw [← hN]; exact hfi.len)
  have LT : Hid (w.heap.size + 1 < w2.heap.size) := Lib.hid (Array.getElem?_eq_some_iff.1 BW.out.1.2).1
  obtain ⟨pv, cv, rfl, hmx, _⟩ := how.rows
  rw [hN] at hmx RT ⊢
  unfold maxLen at hmx
  clear hr hp hfi how hN HO OT y0 y1 y2 g0 g1 g2 r0 r1 r2 d0 d1 d2
  obtain ⟨_, _, r2⟩ := (sk_three_atG BW.out.1.2).1
  go_upto_region 5 with (fail)
  obtain ⟨w3, hw3⟩ : ∃ W, w2.alloc (.cells #[.bool false, .bool false, .int .i64 1, .int .i64 0, .slice none 0 0] tRd) = W := ⟨_, rfl⟩
  have S0 : Hid (w3.heap[w2.heap.size]? = some (.cells #[.bool false, .bool false, .int .i64 1, .int .i64 0, .slice none 0 0] tRd (0, 0)) ∧ w2.heap.size + 1 ≤ w3.heap.size ∧ Keeps w2 w3) := Lib.hid (by
    rw [← hw3]
    exact ⟨heap_alloc_new _ _, by simp, kept_alloc (Keeps.refl w2) _⟩)
  rw [hw3]
  clear hw3 r2
  go_wp2_with fail
  go_loopg [24] N (fun g v24 W => SkPar2 w2 T N g v24 W)
  case atStart => exact ⟨0, 0, Stk.st0, none, 0, by omega, rfl, rfl, inv_zero, rfl, rfl, S0.out.1, rowK.own_nil _ _, S0.out.2.1, S0.out.2.2⟩
  case round =>
    obtain ⟨i, n', st, p', c', hi, rfl, hn, hinv, hrun, hlen, hbk, hown, hsz, hw⟩ := hrel
    have HI := Lib.hid hi
    have HNI := Lib.hid hn
    have HINV := Lib.hid hinv
    have HRUN := Lib.hid hrun
    have HLEN := Lib.hid hlen
    have HBK := Lib.hid hbk
    have HOWN := Lib.hid hown
    have HSZ := Lib.hid hsz
    have HW := Lib.hid hw
    have BW := Lib.hid (B3.out wr hw)
    clear hn hinv hrun hlen hown hsz hw
    cases gk with
    | zero =>
      have hiN : i = N := by as_aux_lemma => (omega)
      have hd : decide ((i : Int) < (N : Int)) = false := decide_eq_false (by as_aux_lemma => (omega))
      have PM : Hid (parseM l = runL st []) := Lib.hid (by
        rw [HR.out, HRUN.out, List.drop_eq_nil_of_le (by as_aux_lemma => (have := HN.out; omega))])
      have HIN := Lib.hid hiN
      have wN : wrap64 (1 + (N : Int)) = 1 + (N : Int) := i64w (by as_aux_lemma => (unfold top; omega)) (by as_aux_lemma => (unfold top; have := HL.out; omega))
      obtain ⟨⟨z0, z1, z2, z3, z4⟩, _⟩ := skFive_at hbk
      obtain ⟨⟨y0, y1, y2⟩, g0, g1, g2⟩ := sk_three_atG BW.out.1.1
      obtain ⟨⟨r0, r1, r2⟩, d0, d1, d2⟩ := sk_three_atG BW.out.1.2
      obtain ⟨en, hen⟩ : ∃ b, st.ended = b := ⟨_, rfl⟩
      have HEN := Lib.hid hen
      rw [hen] at z1
      clear hen hiN hbk
      cases en with
      | false =>
        have E : Hid (parseM l = .error (1 + N, 1, 7)) := Lib.hid (by rw [PM.out, runL, HEN.out, if_neg (by simp), HNI.out, HIN.out, Nat.add_comm])
        go_wp2
        obtain ⟨⟨e0, e1, e2⟩, e3, e4, e5⟩ := sk_six_set BW.out.1.1 BW.out.1.2 (.int .i64 0) (.int .i64 0) (.slice none 0 0) (.int .i64 (1 + (N : Int))) (.int .i64 1) (.int .i64 7)
        exact bodyPost_ret (v := .tuple #[.agg #[.int .i64 0, .int .i64 0, .slice none 0 0], .agg #[.int .i64 (1 + (N : Int)), .int .i64 1, .int .i64 7]]) (by simp [results, Tryd.results12, go_sem, e0, e1, e2, e3, e4, e5]) rfl (Or.inr ⟨1 + N, 1, 7, E.out, rfl, sk_six_keeps BW.out.2 (Nat.le_refl _) _ _ _ _ _ _⟩)
      | true =>
        have E : Hid (parseM l = .ok (st.seq, st.rows)) := Lib.hid (by rw [PM.out, runL, HEN.out, if_pos rfl])
        have m1 : w2.heap.size ≠ w.heap.size := by have := LT.out; omega
        have m2 : w2.heap.size ≠ w.heap.size + 1 := by have := LT.out; omega
        go_wp2
        have O6 : Hid (rowK.Own (w2.heap.size + 1) (sk_sixW wr w.heap.size (.int .i64 1) (.int .i64 st.seq) (.slice p' n' c') (.int .i64 0) (.int .i64 0) (.int .i64 0)) (.slice p' n' c') st.rows) := Lib.hid (by
          have l0 : w.heap.size < w2.heap.size + 1 := by have := LT.out; omega
          have l1 : w.heap.size + 1 < w2.heap.size + 1 := by have := LT.out; omega
          exact sk_own_set (sk_own_set (sk_own_set (sk_own_set (sk_own_set (sk_own_set HOWN.out l0 _) l0 _) l0 _) l1 _) l1 _) l1 _)
        obtain ⟨⟨e0, e1, e2⟩, e3, e4, e5⟩ := sk_six_set BW.out.1.1 BW.out.1.2 (.int .i64 1) (.int .i64 st.seq) (.slice p' n' c') (.int .i64 0) (.int .i64 0) (.int .i64 0)
        exact bodyPost_ret (v := .tuple #[.agg #[.int .i64 1, .int .i64 st.seq, .slice p' n' c'], .agg #[.int .i64 0, .int .i64 0, .int .i64 0]]) (by simp [results, Tryd.results12, go_sem, e0, e1, e2, e3, e4, e5]) rfl (Or.inl ⟨st.seq, st.rows, .slice p' n' c', E.out, rfl, own_rows O6.out (by as_aux_lemma => (have := HINV.out.few.1; omega)), sk_six_keeps BW.out.2 (Nat.le_refl _) _ _ _ _ _ _⟩)
    | succ g =>
      have hlt : i < N := by as_aux_lemma => (omega)
      obtain ⟨F, hF⟩ : ∃ F, T[i]? = some F := ⟨_, List.getElem?_eq_getElem (by as_aux_lemma => (have := HN.out; omega))⟩
      have FF := Lib.hid (HF.out.row F (List.mem_of_getElem? hF))
      have FS : Hid (SkShort F) := Lib.hid (HF.out.short (List.mem_of_getElem? hF))
      obtain ⟨pq, cq, eq, _, hcq⟩ := RT.out wr HW.out
      rw [HN.out] at eq
      simp only [Value.slice.injEq] at eq
      obtain ⟨rfl, _, rfl⟩ := eq
      obtain ⟨ad, vF, rfl, hcl, hst⟩ := hcq i F hF
      have hi1 : (i : Int) < (N : Int) := by as_aux_lemma => (omega)
      have hi0 : (0 : Int) ≤ (i : Int) := by as_aux_lemma => (omega)
      have wi : wrap64 ((i : Int) + 1) = (i : Int) + 1 := i64w (by as_aux_lemma => (unfold top; omega)) (by as_aux_lemma => (unfold top; have := HL.out; omega))
      have wi2 : wrap64 (1 + (i : Int)) = 1 + (i : Int) := i64w (by as_aux_lemma => (unfold top; omega)) (by as_aux_lemma => (unfold top; have := HL.out; omega))
      have DR : Hid (T.drop i = F :: T.drop (i + 1)) := Lib.hid (by
        obtain ⟨q1, q2⟩ := List.getElem?_eq_some_iff.1 hF
        rw [List.drop_eq_getElem_cons q1, q2])
      have ERR : Hid (∀ e, Stk.step st F = .error e → parseM l = .error e) := Lib.hid fun e he => by
        rw [HR.out, HRUN.out, DR.out, runL, he]
      have NEXT : Hid (∀ st', Stk.step st F = .ok st' → runL Stk.st0 T = runL st' (T.drop (i + 1))) := Lib.hid fun st' he => by
        rw [HRUN.out, DR.out, runL, he]
      have CR := Lib.hid (sp_read w2.heap.size (w2.heap.size + 1) st p' n' c' vF F wr hbk HOWN.out (Nat.lt_succ_self _) HSZ.out hst FF.out.1 (by have := FF.out.2.1; omega) FS.out HLEN.out (by have := HINV.out.few.1; have := HLEN.out; omega) (HP.out _ BW.out.2))
      clear hF hcq hst hbk
      go_wp2_with fail
      refine CR.out.mono ?_
      rintro e w5 ⟨hbl, hout⟩
      have K5 : Hid (Keeps w2 w5) := Lib.hid (Below.trans HW.out hbl)
      have S5 : Hid (w2.heap.size + 1 ≤ w5.heap.size) := Lib.hid (Nat.le_trans HSZ.out hbl.size)
      have HOUT := Lib.hid hout
      clear hbl hout CR hcl
      rcases HOUT.out with ⟨st', q', N', c'', h1, rfl, h3, h4, h5⟩ | ⟨a, b, h1, rfl, hb0⟩
      · have E1 := Lib.hid h1
        have E3 := Lib.hid h3
        have E4 := Lib.hid h4
        have E5 := Lib.hid h5
        have EN : Hid (decide (0 < st'.n) = true) := Lib.hid (decide_eq_true (by rw [step_n h1]; omega))
        clear h1 h3 h4 h5
        go_wp2_with fail
        go_roundg g
        case measure => omega
        case rel => exact ⟨i + 1, N', st', q', c'', by as_aux_lemma => (have := HI.out; omega), by first | (rw [wi]; rfl) | rfl | go_num, by rw [step_n E1.out, HNI.out], step_inv E1.out HINV.out, NEXT.out _ E1.out, E5.out, by rw [EN.out]; exact E3.out, E4.out, S5.out, K5.out⟩
      · have E : Hid (parseM l = .error (1 + i, a, b)) := Lib.hid (by rw [ERR.out _ h1, HNI.out, Nat.add_comm])
        have BX := Lib.hid (B3.out w5 K5.out)
        have tb : (b == 0) = false := by rw [beq_eq_false_iff_ne]; exact hb0
        have tb2 : (b != 0) = true := by rw [bne, tb]; rfl
        obtain ⟨⟨y0, y1, y2⟩, g0, g1, g2⟩ := sk_three_atG BX.out.1.1
        obtain ⟨⟨r0, r1, r2⟩, d0, d1, d2⟩ := sk_three_atG BX.out.1.2
        clear h1 hb0
        go_wp2
        obtain ⟨⟨e0, e1, e2⟩, e3, e4, e5⟩ := sk_six_set BX.out.1.1 BX.out.1.2 (.int .i64 0) (.int .i64 0) (.slice none 0 0) (.int .i64 (1 + (i : Int))) (.int .i64 (a : Int)) (.int .i64 b)
        exact bodyPost_ret (v := .tuple #[.agg #[.int .i64 0, .int .i64 0, .slice none 0 0], .agg #[.int .i64 (1 + (i : Int)), .int .i64 (a : Int), .int .i64 b]]) (by simp [results, Tryd.results12, go_sem, e0, e1, e2, e3, e4, e5]) rfl (Or.inr ⟨1 + i, a, b, E.out, rfl, sk_six_keeps BX.out.2 (Nat.le_refl _) _ _ _ _ _ _⟩)
end Go.Proofs.YthhblaagdakdmaaDoor
