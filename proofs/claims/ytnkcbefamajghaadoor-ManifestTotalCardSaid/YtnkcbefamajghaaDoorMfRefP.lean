
/- The document's files of the carrier: Parse. -/
import Derived.Test.YtnkcbefamajghaaDoorMfSet
import Derived.Deep.CutRange
set_option linter.unusedVariables false
namespace Go.Proofs.YtnkcbefamajghaaDoor
open Go.ChangeShapes Go.WideShapes Go.ChangeAt Go.RowKit Ky Rw Csv Mft
open Stk (numN fa wide num_put num_yes num_le put_plain put_short plain_put wide_same wide_zero)

/-- The statement under way: its block, its rows. -/
def MfBk (w1 : World) (s : Int) (n' : Nat) (p' : Option Addr) (c' : Nat) (A : List R) (W : World) : Prop :=
  A.length = n' ∧ W.heap[w1.heap.size + 1]? = some (.cells #[.int .i64 2, .int .i64 s, .slice p' n' c'] tSt (0, 0)) ∧ rowK.Own (w1.heap.size + 2) W (.slice p' n' c') A ∧ w1.heap.size + 2 ≤ W.heap.size ∧ Keeps w1 W
/-- Behind a row. -/
def MfTail (w1 : World) (i : Nat) (st : Mft.PS) (F : List (List UInt8)) (v7 v8 v9 v10 v12 v13 : Value) (W : World) : Prop :=
  (∃ (st' : Mft.PS) (n' : Nat) (p' : Option Addr) (c' : Nat), Mft.step st F = .ok st' ∧ v7 = .bool st'.ended ∧ v8 = .int .i64 st'.many ∧ v9 = .int .i64 st'.last ∧ v10 = .int .i64 st'.tot ∧ v12 = .int .i64 0 ∧ MfBk w1 st'.seq n' p' c' st'.rows W) ∨
  (∃ (a : Nat) (b : Int), Mft.step st F = .error (i + 1, a, b) ∧ 0 < a ∧ v12 = .int .i64 (a : Int) ∧ v13 = .int .i64 b ∧ Keeps w1 W)
/-- Between two rows. -/
def MfPar (w1 : World) (T : List (List (List UInt8))) (N gh : Nat) (v7 v8 v9 v10 v11 : Value) (W : World) : Prop :=
  ∃ (i n' : Nat) (st : Mft.PS) (p' : Option Addr) (c' : Nat), i + gh = N ∧ v7 = .bool st.ended ∧ v8 = .int .i64 st.many ∧ v9 = .int .i64 st.last ∧ v10 = .int .i64 st.tot ∧ v11 = .int .i64 (i : Int) ∧ st.n = i ∧ Mft.Inv st ∧ Mft.runL Mft.st0 T = Mft.runL st (T.drop i) ∧ MfBk w1 st.seq n' p' c' st.rows W
theorem last_of (l : Int) (A : List R) : ((A.getLast?.map (·.o)).getD l) = match A.getLast? with | none => l | some x => x.o := by
  cases A.getLast? <;> rfl
theorem rows_last {g : G} (h : GOk g) (l : Int) : ((rowsG g).getLast?.map (·.o)).getD l = g.o := by
  cases hl : (rowsG g).getLast? with
  | none =>
    rw [List.getLast?_eq_none_iff] at hl
    obtain ⟨x, hx⟩ := rows_ne h
    rw [hl] at hx; cases hx
  | some x => exact rows_o (List.mem_of_getLast? hl)
theorem rows_few (g : G) : (rowsG g).length ≤ 2 := by
  have h1 := one_len g.o 2 g.a g.n
  have h2 := one_len g.o 5 g.b g.m
  unfold rowsG
  rw [List.length_append]; omega
/-- The statement's rows under way, and rows that are put to them, in a block apart. -/
def MfTwo (w1 w3 : World) (zr : Nat) (s : Int) (n4 : Nat) (v3 : Value) (RS A : List R) (W : World) : Prop :=
  ∃ p4 c4, MfBk w1 s n4 p4 c4 A W ∧ rowK.Own zr W v3 RS ∧ (∀ g, (Value.slice p4 n4 c4).ownBlock = some g → g < zr ∨ w3.heap.size ≤ g) ∧ w3.heap.size ≤ W.heap.size
theorem MfTwo.keeps {w1 w3 W W' : World} {zr n4 : Nat} {s : Int} {v3 : Value} {RS A : List R} (h : MfTwo w1 w3 zr s n4 v3 RS A W) (k : Keeps W W') : MfTwo w1 w3 zr s n4 v3 RS A W' := by
  obtain ⟨p4, c4, b, o, f, z⟩ := h
  exact ⟨p4, c4, ⟨b.1, (k.block _ (Array.getElem?_eq_some_iff.1 b.2.1).1).trans b.2.1, rowK.own_keeps b.2.2.1 k, Nat.le_trans b.2.2.2.1 k.size, b.2.2.2.2.trans k⟩, rowK.own_keeps o k, f, Nat.le_trans z k.size⟩
theorem mf_blk {w1 wr W0 w5 : World} {s : Int} {n4 c4 : Nat} {p4 : Option Addr} {A : List R} (hb : MfBk w1 s n4 p4 c4 A wr) (k0 : Keeps wr W0) (g5 : W0.grownBy w5 (Value.slice p4 n4 c4).ownBlock) : w5.heap[w1.heap.size + 1]? = some (.cells #[.int .i64 2, .int .i64 s, .slice p4 n4 c4] tSt (0, 0)) := by
  have lt := (Array.getElem?_eq_some_iff.1 hb.2.1).1
  refine (g5.block (w1.heap.size + 1) (Nat.lt_of_lt_of_le lt k0.size) (fun e => ?_)).trans ((k0.block _ lt).trans hb.2.1)
  have := (rowK.own_lt hb.2.2.1 _ e.symm).1
  omega
theorem mf_two {w1 w3 wr W0 w5 : World} {zr n4 c4 c5 : Nat} {s : Int} {p4 p5 : Option Addr} {v3 : Value} {RS A : List R} {r : R} (hb : MfBk w1 s n4 p4 c4 A wr) (hor : rowK.Own zr wr v3 RS) (hlt : ∀ g, v3.ownBlock = some g → zr ≤ g ∧ g < w3.heap.size)
    (hof : ∀ g, (Value.slice p4 n4 c4).ownBlock = some g → g < zr ∨ w3.heap.size ≤ g) (hz : w1.heap.size + 2 ≤ zr) (hws : w3.heap.size ≤ wr.heap.size) (k0 : Keeps wr W0) (o5 : rowK.Own (w1.heap.size + 2) w5 (.slice p5 (n4 + 1) c5) (A ++ [r])) (g5 : W0.grownBy w5 (Value.slice p4 n4 c4).ownBlock)
    (a5 : (Value.slice p5 (n4 + 1) c5).ownBlock = (Value.slice p4 n4 c4).ownBlock ∨ (Value.slice p5 (n4 + 1) c5).ownBlock = some W0.heap.size) :
    MfTwo w1 w3 zr s (n4 + 1) v3 RS (A ++ [r]) (w5.setCell ⟨w1.heap.size + 1, 2, none⟩ (.slice p5 (n4 + 1) c5)) := by
  have b5 := mf_blk hb k0 g5
  have z5 : W0.heap.size ≤ w5.heap.size := g5.size
  have zs : (w5.setCell ⟨w1.heap.size + 1, 2, none⟩ (.slice p5 (n4 + 1) c5)).heap.size = w5.heap.size := by simp
  have k5 : Keeps w1 w5 := sk_mono (hb.2.2.2.2.trans k0) g5 (fun j hj => by have := (rowK.own_lt hb.2.2.1 j hj).1; omega)
  refine ⟨p5, c5, ⟨by rw [List.length_append, hb.1]; rfl, Joins.block_setCell (i := 2) b5 _, sk_own_set o5 (Nat.lt_succ_self _) _, by rw [zs]; have := k0.size; have := hb.2.2.2.1; omega, k5.setCell (p := ⟨w1.heap.size + 1, 2, none⟩) (Nat.le_succ _) _⟩, ?_, fun g hg => ?_, by rw [zs]; have := k0.size; omega⟩
  · refine rowK.own_local hor fun g hg => ?_
    obtain ⟨h1, h2⟩ := hlt g hg
    have e1 := Below.heap_setCell w5 ⟨w1.heap.size + 1, 2, none⟩ (.slice p5 (n4 + 1) c5) g (by show g ≠ w1.heap.size + 1; omega)
    refine e1.trans ((g5.block g (by have := k0.size; omega) (fun e => ?_)).trans (k0.block g (by omega)))
    rcases hof g e.symm with h | h <;> omega
  · rcases a5 with e | e
    · exact hof g (e ▸ hg)
    · rw [e] at hg
      have := Option.some.inj hg
      have := k0.size
      exact Or.inr (by omega)
set_option maxHeartbeats 16000000 in
set_option maxRecDepth 100000 in
theorem mr_parse (s : ByteArray) (w : World) (hs : s.size ≤ maxLen) :
    Calls Tryd.prog 14 #[.string s] w (MfOut s.data.toList w) := by
  have C1 := Lib.hid (fun W => mf_rcsv s W hs)
  obtain ⟨l, hl⟩ : ∃ l, s.data.toList = l := ⟨_, rfl⟩
  rw [hl] at C1 ⊢
  clear hs hl
  go_enter Tryd.func14, Tryd.ntmps14
  go_wp2_with fail
  refine (C1.out _).mono ?_
  rintro e w1 ⟨k1, v, line, col, code, rfl, ho⟩
  have HO := Lib.hid ho
  have B2 : Hid (∀ W, Keeps w1 W → (W.heap[w.heap.size]? = some (.cells #[.int .i64 0, .int .i64 0, .slice none 0 0] tSt (0, 0)) ∧ W.heap[w.heap.size + 1]? = some (.cells #[.int .i64 0, .int .i64 0, .int .i64 0] skRj (0, 0))) ∧ Keeps w W) := Lib.hid (by
    have s1 : (w.alloc zeSt).heap.size = w.heap.size + 1 := by simp
    have n0 := heap_alloc_new w zeSt
    have n1 := heap_alloc_new (w.alloc zeSt) zeRj
    rw [s1] at n1
    have k2 := kept_alloc (Keeps.refl (w.alloc zeSt)) zeRj
    intro W k
    have kk := Keeps.trans k1 k
    exact ⟨⟨(kk.block _ (by simp <;> omega)).trans ((k2.block _ (by simp)).trans n0), (kk.block _ (by simp)).trans n1⟩, (kept_alloc (kept_alloc (Keeps.refl w) _) _).trans kk⟩)
  clear ho k1 C1
  rcases HO.out with ⟨T, hr, hp, hfi, how, rfl, rfl, rfl⟩ | ⟨a, b, hp, hc, rfl, rfl, rfl⟩
  rotate_left
  · have E := Lib.hid hp
    have tc : (code == 0) = false := by rw [beq_eq_false_iff_ne]; exact hc
    have tc2 : (code != 0) = true := by rw [bne, tc]; rfl
    clear hp hc HO
    go_upto_region 3 with (fail)
    obtain ⟨W, hW⟩ : ∃ W, w1.alloc (.cells #[.int .i64 (a : Int), .int .i64 (b : Int), .int .i64 code] skRj) = W := ⟨_, rfl⟩
    have kW : Keeps w1 W := hW ▸ ky_box w1 _
    have xW : W.heap[w1.heap.size]? = some (.cells #[.int .i64 (a : Int), .int .i64 (b : Int), .int .i64 code] skRj (0, 0)) := hW ▸ heap_alloc_new w1 _
    rw [hW]
    have BW := Lib.hid (B2.out W kW)
    clear hW kW
    obtain ⟨⟨x0, x1, x2⟩, _⟩ := sk_three_atG xW
    obtain ⟨⟨y0, y1, y2⟩, g0, g1, g2⟩ := sk_three_atG BW.out.1.1
    obtain ⟨⟨r0, r1, r2⟩, d0, d1, d2⟩ := sk_three_atG BW.out.1.2
    have lt1 : w.heap.size + 1 < w1.heap.size := (Array.getElem?_eq_some_iff.1 (B2.out w1 (Keeps.refl _)).1.2).1
    have m1 : w1.heap.size ≠ w.heap.size := by omega
    have m2 : w1.heap.size ≠ w.heap.size + 1 := by omega
    have m3 : w.heap.size ≠ w1.heap.size := by omega
    have m4 : w.heap.size + 1 ≠ w1.heap.size := by omega
    clear xW lt1
    go_region
    go_wp2
    obtain ⟨⟨e0, e1, e2⟩, e3, e4, e5⟩ := sk_six_set BW.out.1.1 BW.out.1.2 (.int .i64 0) (.int .i64 0) (.slice none 0 0) (.int .i64 (a : Int)) (.int .i64 (b : Int)) (.int .i64 code)
    have K6 := sk_six_keeps BW.out.2 (Nat.le_refl _) (.int .i64 0) (.int .i64 0) (.slice none 0 0) (.int .i64 (a : Int)) (.int .i64 (b : Int)) (.int .i64 code)
    exact bodyPost_ret (v := .tuple #[.agg #[.int .i64 0, .int .i64 0, .slice none 0 0], .agg #[.int .i64 (a : Int), .int .i64 (b : Int), .int .i64 code]]) (by simp [results, Tryd.results14, go_sem, e0, e1, e2, e3, e4, e5]) rfl (Or.inr ⟨a, b, code, E.out, rfl, K6.trans (ky_drew _)⟩)
  obtain ⟨N, hN⟩ : ∃ N, T.length = N := ⟨_, rfl⟩
  have HN := Lib.hid hN
  have HR := Lib.hid hp
  have HF := Lib.hid hfi
  have RT : Hid (∀ W, Keeps w1 W → RowsAt W v T) := Lib.hid fun W k => how.rows.keeps k
  have HL : Hid (N ≤ 65536) := Lib.hid (by rw [← hN]; exact hfi.len)
  have LT : Hid (w.heap.size + 1 < w1.heap.size) := Lib.hid (Array.getElem?_eq_some_iff.1 (B2.out w1 (Keeps.refl _)).1.2).1
  obtain ⟨pv, cv, rfl, hmx, _⟩ := how.rows
  rw [hN] at hmx RT ⊢
  unfold maxLen at hmx
  clear hr hp hfi how hN HO
  go_upto_region 5 with (fail)
  obtain ⟨w2, hw2⟩ : ∃ W, (w1.alloc (.cells #[.int .i64 0, .int .i64 0, .int .i64 0] skRj)).alloc (.cells #[.int .i64 2, .int .i64 0, .slice none 0 0] tSt) = W := ⟨_, rfl⟩
  have S0 : Hid (MfBk w1 0 0 none 0 [] w2) := Lib.hid (by
    rw [← hw2]
    have s1 : (w1.alloc (.cells #[.int .i64 0, .int .i64 0, .int .i64 0] skRj)).heap.size = w1.heap.size + 1 := by simp
    have n1 := heap_alloc_new (w1.alloc (.cells #[.int .i64 0, .int .i64 0, .int .i64 0] skRj)) (.cells #[.int .i64 2, .int .i64 0, .slice none 0 0] tSt)
    rw [s1] at n1
    exact ⟨rfl, n1, rowK.own_nil _ _, by simp, kept_alloc (kept_alloc (Keeps.refl w1) _) _⟩)
  rw [hw2]
  clear hw2
  go_wp2_with fail
  go_loopg [7, 8, 9, 10, 11] N (fun g v7 v8 v9 v10 v11 W => MfPar w1 T N g v7 v8 v9 v10 v11 W)
  case atStart => exact ⟨0, 0, Mft.st0, none, 0, by omega, rfl, rfl, rfl, rfl, rfl, rfl, inv_zero, rfl, S0.out⟩
  case round =>
    obtain ⟨i, n', st, p', c', hi, rfl, rfl, rfl, rfl, rfl, hn, hinv, hrun, hbk⟩ := hrel
    have HI := Lib.hid hi
    have HNI := Lib.hid hn
    have HINV := Lib.hid hinv
    have HRUN := Lib.hid hrun
    have HMB := Lib.hid hbk
    have HLEN := Lib.hid hbk.1
    have HBK := Lib.hid hbk.2.1
    have HOWN := Lib.hid hbk.2.2.1
    have HSZ := Lib.hid hbk.2.2.2.1
    have HW := Lib.hid hbk.2.2.2.2
    have BW := Lib.hid (B2.out wr HW.out)
    obtain ⟨⟨z0, z1, z2⟩, f0, f1, f2⟩ := sk_three_atG HBK.out
    obtain ⟨⟨y0, y1, y2⟩, g0, g1, g2⟩ := sk_three_atG BW.out.1.1
    obtain ⟨⟨r0, r1, r2⟩, d0, d1, d2⟩ := sk_three_atG BW.out.1.2
    clear hn hinv hrun hbk
    cases gk with
    | zero =>
      have hiN : i = N := by as_aux_lemma => (omega)
      have hd : decide ((i : Int) < (N : Int)) = false := decide_eq_false (by as_aux_lemma => (omega))
      have PM : Hid (Mft.parseM l = Mft.runL st []) := Lib.hid (by
        rw [HR.out, HRUN.out, List.drop_eq_nil_of_le (by as_aux_lemma => (have := HN.out; omega))])
      have HIN := Lib.hid hiN
      have wN : wrap64 ((N : Int) + 1) = (N : Int) + 1 := i64w (by as_aux_lemma => (unfold top; omega)) (by as_aux_lemma => (unfold top; have := HL.out; omega))
      obtain ⟨en, hen⟩ : ∃ b, st.ended = b := ⟨_, rfl⟩
      have HEN := Lib.hid hen
      rw [hen]
      clear hen hiN
      cases en with
      | false =>
        have E : Hid (Mft.parseM l = .error (N + 1, 1, 7)) := Lib.hid (by rw [PM.out, Mft.runL, HEN.out, if_neg (by simp), HNI.out, HIN.out])
        go_wp2
        obtain ⟨⟨e0, e1, e2⟩, e3, e4, e5⟩ := sk_six_set BW.out.1.1 BW.out.1.2 (.int .i64 0) (.int .i64 0) (.slice none 0 0) (.int .i64 ((N : Int) + 1)) (.int .i64 1) (.int .i64 7)
        exact bodyPost_ret (v := .tuple #[.agg #[.int .i64 0, .int .i64 0, .slice none 0 0], .agg #[.int .i64 ((N : Int) + 1), .int .i64 1, .int .i64 7]]) (by simp [results, Tryd.results14, go_sem, e0, e1, e2, e3, e4, e5]) rfl (Or.inr ⟨N + 1, 1, 7, E.out, rfl, sk_six_keeps BW.out.2 (Nat.le_refl _) _ _ _ _ _ _⟩)
      | true =>
        have E : Hid (Mft.parseM l = .ok (st.seq, st.rows)) := Lib.hid (by rw [PM.out, Mft.runL, HEN.out, if_pos rfl])
        go_wp2
        obtain ⟨⟨e0, e1, e2⟩, e3, e4, e5⟩ := sk_six_set BW.out.1.1 BW.out.1.2 (.int .i64 2) (.int .i64 st.seq) (.slice p' n' c') (.int .i64 0) (.int .i64 0) (.int .i64 0)
        have O6 : Hid (rowK.Own (w1.heap.size + 2) (sk_sixW wr w.heap.size (.int .i64 2) (.int .i64 st.seq) (.slice p' n' c') (.int .i64 0) (.int .i64 0) (.int .i64 0)) (.slice p' n' c') st.rows) := Lib.hid (by
          have l0 : w.heap.size < w1.heap.size + 2 := by have := LT.out; omega
          have l1 : w.heap.size + 1 < w1.heap.size + 2 := by have := LT.out; omega
          exact sk_own_set (sk_own_set (sk_own_set (sk_own_set (sk_own_set (sk_own_set HOWN.out l0 _) l0 _) l0 _) l1 _) l1 _) l1 _)
        exact bodyPost_ret (v := .tuple #[.agg #[.int .i64 2, .int .i64 st.seq, .slice p' n' c'], .agg #[.int .i64 0, .int .i64 0, .int .i64 0]]) (by simp [results, Tryd.results14, go_sem, e0, e1, e2, e3, e4, e5]) rfl (Or.inl ⟨st.seq, st.rows, .slice p' n' c', E.out, rfl, own_rows O6.out (by as_aux_lemma => (have := HINV.out.few.1; omega)), sk_six_keeps BW.out.2 (Nat.le_refl _) _ _ _ _ _ _⟩)
    | succ g =>
      have hlt : i < N := by as_aux_lemma => (omega)
      obtain ⟨F, hF⟩ : ∃ F, T[i]? = some F := ⟨_, List.getElem?_eq_getElem (by as_aux_lemma => (have := HN.out; omega))⟩
      have FF := Lib.hid (HF.out.row F (List.mem_of_getElem? hF))
      have FS : Hid (SkShort F) := Lib.hid (HF.out.short (List.mem_of_getElem? hF))
      obtain ⟨pq, cq, eq, _, hcq⟩ := RT.out wr HW.out
      rw [HN.out] at eq
      simp only [Value.slice.injEq] at eq
      obtain ⟨rfl, _, rfl⟩ := eq
      obtain ⟨ad, vF, rfl, hcl, hst⟩ := hcq i F hF
      have hi1 : (i : Int) < (N : Int) := by as_aux_lemma => (omega)
      have hi0 : (0 : Int) ≤ (i : Int) := by as_aux_lemma => (omega)
      have HCL := Lib.hid hcl
      have HST := Lib.hid hst
      have WI : Hid (wrap64 ((i : Int) + 1) = (i : Int) + 1) := Lib.hid (i64w (by as_aux_lemma => (unfold top; omega)) (by as_aux_lemma => (unfold top; have := HL.out; omega)))
      have DR : Hid (T.drop i = F :: T.drop (i + 1)) := Lib.hid (by
        obtain ⟨q1, q2⟩ := List.getElem?_eq_some_iff.1 hF
        rw [List.drop_eq_getElem_cons q1, q2])
      have ERR : Hid (∀ e, Mft.step st F = .error e → Mft.parseM l = .error e) := Lib.hid fun e he => by
        rw [HR.out, HRUN.out, DR.out, Mft.runL, he]
      have NEXT : Hid (∀ st', Mft.step st F = .ok st' → Mft.runL Mft.st0 T = Mft.runL st' (T.drop (i + 1))) := Lib.hid fun st' he => by
        rw [HRUN.out, DR.out, Mft.runL, he]
      obtain ⟨en, hen⟩ : ∃ b, st.ended = b := ⟨_, rfl⟩
      have HEN := Lib.hid hen
      rw [hen]
      obtain ⟨mn, hmn⟩ : ∃ b, st.many = b := ⟨_, rfl⟩
      have HMN := Lib.hid hmn
      rw [hmn]
      obtain ⟨la, hla⟩ : ∃ b, st.last = b := ⟨_, rfl⟩
      have HLA := Lib.hid hla
      rw [hla]
      obtain ⟨tt, htt⟩ : ∃ b, st.tot = b := ⟨_, rfl⟩
      have HTT := Lib.hid htt
      rw [htt]
      clear hF hcq hst hen hmn hla htt
      obtain ⟨pf, cf, rfl, _, hpf, hcf⟩ := strs_at HST.out
      obtain ⟨af, rfl⟩ := hpf (List.length_pos_iff.2 FF.out.1)
      obtain ⟨M, hM⟩ : ∃ M, F.length = M := ⟨_, rfl⟩
      have HM := Lib.hid hM
      have M0 : 0 < M := by rw [← hM]; exact List.length_pos_iff.2 FF.out.1
      have M0' : (0 : Int) < (M : Int) := by omega
      obtain ⟨S0, h0⟩ : ∃ S : ByteArray, ⟨(fa F 0).toArray⟩ = S := ⟨_, rfl⟩
      have L0 : Hid (S0.data.toList = fa F 0) := Lib.hid (by rw [← h0, data_mk])
      have Q0 : Hid (∀ W, Keeps wr W → W.cell? (ad.add i) = some (.slice (some af) M cf) ∧ W.cell? af = some (.string S0)) := Lib.hid fun W k => ⟨by rw [← hM]; exact cell_keeps k HCL.out, by rw [← h0]; exact cell_keeps k ((hcf af rfl).1 (by omega))⟩
      obtain ⟨S1, e1, C⟩ := sk_num (fa F 1) 1073741824 (FS.out 1) (by omega)
      have Q1 : Hid (1 < M → ∀ W, Keeps wr W → W.cell? ⟨af.block, af.off + 1, none⟩ = some (.string S1)) := Lib.hid fun h W k => by rw [← e1]; exact cell_keeps k ((hcf af rfl).2 1 (by omega) (by omega))
      have CN := Lib.hid C
      have CH := Lib.hid (fun W k => mr_head (.slice (some af) F.length cf) F W (HST.out.keeps k) FF.out.1 (by have := FF.out.2.1; omega) FS.out)
      have CW : Hid (∀ W, Calls Tryd.prog 31 #[.slice (some af) M cf, .int .i64 3] W fun e w' => e = .returned (.int .i64 (wide M 3 : Nat)) ∧ W = w') := Lib.hid fun W => sk_wide (some af) M cf 3 W (by have := FF.out.2.1; omega) (by omega)
      have LE := Lib.hid HINV.out.few
      have CT := Lib.hid (fun W k h3 => mr_tail (.slice (some af) F.length cf) F st.many st.tot W (HST.out.keeps k) h3 FS.out (by have := LE.out; unfold I64 top; omega) (by have := LE.out; unfold I64 top; omega))
      have CM := Lib.hid (fun W k h3 => mr_middle (.slice (some af) F.length cf) F st.last W (HST.out.keeps k) h3 FS.out)
      rw [hM] at CH CT CM
      rw [HMN.out, HTT.out] at CT
      rw [HLA.out] at CM
      clear hcf hM h0 e1 C hcl HCL HST
      go_upto_if 35 with (fail)
      go_cut [7, 8, 9, 10, 12, 13] from 29 to 133 (fun v7 v8 v9 v10 v12 v13 W => MfTail w1 i st F v7 v8 v9 v10 v12 v13 W)
      case first =>
        cases en with
        | true =>
          have E : Hid (Mft.step st F = .error (i + 1, 1, 7)) := Lib.hid (by unfold Mft.step; rw [if_pos HEN.out, HNI.out])
          go_wp2
          go_meet
          case rel => exact Or.inr ⟨1, 7, E.out, by omega, rfl, rfl, HW.out⟩
        | false =>
          by_cases hz : i = 0
          · have ez : ((i : Int) == 0) = true := by rw [hz]; rfl
            have ST : Hid (Mft.step st F = if (headC F).1 ≠ 0 then .error (i + 1, headC F) else .ok ⟨i + 1, numN (fa F 1) 1073741824, st.rows, st.many, st.last, st.tot, false⟩) := Lib.hid (by unfold Mft.step; rw [if_neg (by rw [HEN.out]; simp), HNI.out, if_pos hz])
            obtain ⟨x, y, hxy⟩ : ∃ x y, headC F = (x, y) := ⟨_, _, rfl⟩
            have HXY := Lib.hid hxy
            rw [hxy] at CH ST
            obtain ⟨q0, q1⟩ := Q0.out wr (Keeps.refl _)
            clear hz hxy
            go_wp2_with fail
            refine (CH.out _ (Keeps.refl _)).mono ?_
            rintro e w3 ⟨rfl, k3⟩
            have K3 := Lib.hid k3
            clear q0 q1 k3 z0 z1 z2 f0 f1 f2
            by_cases hx0 : x = 0
            rotate_left
            · have tx : ((x : Int) == 0) = false := by as_aux_lemma => (rw [beq_eq_false_iff_ne]; omega)
              have E := Lib.hid (ST.out.trans (if_pos hx0))
              have HX0 := Lib.hid (Nat.pos_of_ne_zero hx0)
              clear hx0
              go_wp2
              go_meet
              case rel => exact Or.inr ⟨x, y, E.out, HX0.out, rfl, rfl, HW.out.trans K3.out⟩
            · subst hx0
              have E := Lib.hid (ST.out.trans (if_neg (by simp)))
              have M2 : M = 2 := by
                have h := HXY.out
                unfold headC at h
                split at h
                · cases h
                · split at h
                  · rename_i h2; simp only [Prod.mk.injEq] at h; exact absurd h.1 h2
                  · rename_i h2; rw [← HM.out]; exact wide_zero (by omega)
              subst M2
              obtain ⟨q0, q1⟩ := Q0.out w3 K3.out
              have q2 := Q1.out (by omega) w3 K3.out
              have BX3 := Lib.hid ((K3.out.block _ (Array.getElem?_eq_some_iff.1 HBK.out).1).trans HBK.out)
              obtain ⟨⟨z0, z1, z2⟩, f0, f1, f2⟩ := sk_three_atG BX3.out
              go_wp2_with fail
              refine (CN.out _).mono ?_
              rintro e w4 ⟨rfl, k4⟩
              have K4 := Lib.hid (K3.out.trans k4)
              have BX4 := Lib.hid ((k4.block _ (Array.getElem?_eq_some_iff.1 BX3.out).1).trans BX3.out)
              clear z0 z1 z2 f0 f1 f2 q0 q1 q2 k4
              obtain ⟨⟨z0, z1, z2⟩, f0, f1, f2⟩ := sk_three_atG BX4.out
              go_wp2
              go_meet
              case rel => exact Or.inl ⟨_, n', p', c', E.out, rfl, by rw [HMN.out], by rw [HLA.out], by rw [HTT.out], rfl, HLEN.out, Joins.block_setCell (i := 1) BX4.out _, sk_own_set (rowK.own_keeps HOWN.out K4.out) (by omega) _, by simpa using Nat.le_trans HSZ.out K4.out.size, (HW.out.trans K4.out).setCell (p := ⟨w1.heap.size + 1, 1, none⟩) (by show w1.heap.size ≤ w1.heap.size + 1; omega) _⟩
          · have ez : ((i : Int) == 0) = false := by as_aux_lemma => (rw [beq_eq_false_iff_ne]; omega)
            have ST0 : Hid (Mft.step st F = if wide M 3 ≠ 0 then .error (i + 1, wide M 3, 1) else if fa F 0 = wEnd then (if (tailC F mn tt).1 ≠ 0 then .error (i + 1, tailC F mn tt) else .ok ⟨i + 1, st.seq, st.rows, mn, la, tt, true⟩) else (if (rowC F la).1 ≠ 0 then .error (i + 1, rowC F la) else .ok ⟨i + 1, st.seq, st.rows ++ rowsG (gOf F), mn + 1, (gOf F).o, tt + ((gOf F).n + (gOf F).m), false⟩)) := Lib.hid (by unfold Mft.step; rw [if_neg (by rw [HEN.out]; simp), HNI.out, if_neg hz, HM.out, HMN.out, HLA.out, HTT.out])
            obtain ⟨q0, q1⟩ := Q0.out wr (Keeps.refl _)
            clear hz
            by_cases hw : wide M 3 = 0
            rotate_left
            · have E := Lib.hid (ST0.out.trans (if_pos hw))
              obtain ⟨k, hk⟩ : ∃ k, wide M 3 = k := ⟨_, rfl⟩
              rw [hk] at CW E hw
              have HK0 := Lib.hid (Nat.pos_of_ne_zero hw)
              have hk0 : (0 : Int) < (k : Int) := by as_aux_lemma => (omega)
              clear hw hk
              go_wp2_with (go_at_call 31; refine (CW.out _).mono ?_; rintro e w3 ⟨rfl, rfl⟩)
              go_meet
              case rel => exact Or.inr ⟨k, 1, E.out, HK0.out, rfl, rfl, HW.out⟩
            have M3 : M = 3 := wide_zero hw
            have ST := Lib.hid (ST0.out.trans (if_neg (fun h => h hw)))
            rw [hw] at CW
            clear hw ST0
            subst M3
            go_upto_region 19 with (go_at_call 31; refine (CW.out _).mono ?_; rintro e w3 ⟨rfl, rfl⟩)
            by_cases hE : S0 = ⟨#[101, 110, 100]⟩
            · have X : fa F 0 = wEnd := by rw [← L0.out, hE]
              have ST2 := Lib.hid (ST.out.trans (if_pos X))
              subst hE
              obtain ⟨x, y, hxy⟩ : ∃ x y, tailC F mn tt = (x, y) := ⟨_, _, rfl⟩
              rw [hxy] at CT ST2
              clear hxy X ST
              go_wp2_with fail
              refine (CT.out _ (Keeps.refl _) (by first | exact HM.out | trivial | rfl)).mono ?_
              rintro e w3 ⟨rfl, k3⟩
              have K3 := Lib.hid k3
              have BX3 := Lib.hid ((K3.out.block _ (Array.getElem?_eq_some_iff.1 HBK.out).1).trans HBK.out)
              clear z0 z1 z2 f0 f1 f2 q0 q1 k3
              by_cases hx0 : x = 0
              rotate_left
              · have E := Lib.hid (ST2.out.trans (if_pos hx0))
                have HX0 := Lib.hid (Nat.pos_of_ne_zero hx0)
                clear hx0
                go_wp2
                go_meet
                case rel => exact Or.inr ⟨x, y, E.out, HX0.out, rfl, rfl, HW.out.trans K3.out⟩
              · subst hx0
                have E := Lib.hid (ST2.out.trans (if_neg (by simp)))
                go_wp2
                go_meet
                case rel => exact Or.inl ⟨_, n', p', c', E.out, rfl, rfl, rfl, rfl, rfl, HLEN.out, BX3.out, rowK.own_keeps HOWN.out K3.out, Nat.le_trans HSZ.out K3.out.size, HW.out.trans K3.out⟩
            · have X : fa F 0 ≠ wEnd := fun e => hE (bytes_inj (by rw [L0.out, e]))
              have ST2 := Lib.hid (ST.out.trans (if_neg X))
              obtain ⟨t1, t2, t3⟩ := sv_neS (S := S0) (l := [101, 110, 100]) (fun e => hE (bytes_inj (by rw [e])))
              obtain ⟨x, y, hxy⟩ : ∃ x y, rowC F la = (x, y) := ⟨_, _, rfl⟩
              have HXY := Lib.hid hxy
              rw [hxy] at ST2
              obtain ⟨RS, hRS⟩ : ∃ RS, (if x = 0 then rowsG (gOf F) else []) = RS := ⟨_, rfl⟩
              have HRS := Lib.hid hRS
              have RB : Hid (RS.length ≤ 2 ∧ ∀ r ∈ RS, 0 ≤ r.q ∧ r.q ≤ 999) := Lib.hid (by
                rw [← hRS]
                split
                · rename_i h0
                  have ok := (rowC_yes (F := F) (l := la) (by rw [hxy]; exact fun h => h h0)).1
                  exact ⟨rows_few _, fun r hr => ⟨(rows_row ok hr).q0, (rows_row ok hr).q1⟩⟩
                · exact ⟨by simp, by simp⟩)
              have CM2 : Hid (∀ W, Keeps wr W → Calls Tryd.prog 33 #[.slice (some af) 3 cf, .int .i64 la] W fun e w' => ∃ v, e = .returned (.tuple #[v, .int .i64 (x : Int), .int .i64 y]) ∧ rowK.Own W.heap.size w' v RS ∧ Keeps W w') := Lib.hid fun W k => (CM.out W k (by first | exact HM.out | trivial | rfl)).mono fun e w' ⟨v, h1, h2, h3⟩ => by
                rw [hxy] at h1 h2
                rw [hRS] at h2
                exact ⟨v, h1, h2, h3⟩
              clear hxy X CM ST hE hRS
              go_wp2_with fail
              refine (CM2.out _ (Keeps.refl _)).mono ?_
              rintro e w3 ⟨v3, rfl, ho3, k3⟩
              obtain ⟨p3, c3, rfl⟩ := RowK.own_shape rowK ho3
              obtain ⟨n3, hn3⟩ : ∃ n, RS.length = n := ⟨_, rfl⟩
              have HN3 := Lib.hid hn3
              rw [hn3] at ho3 ⊢
              have O3 := Lib.hid ho3
              have K3 := Lib.hid k3
              have MB3 : Hid (MfBk w1 st.seq n' p' c' st.rows w3) := Lib.hid ⟨HLEN.out, (k3.block _ (Array.getElem?_eq_some_iff.1 HBK.out).1).trans HBK.out, rowK.own_keeps HOWN.out k3, Nat.le_trans HSZ.out k3.size, HW.out.trans k3⟩
              have OF3 : Hid (∀ g, (Value.slice p' n' c').ownBlock = some g → g < wr.heap.size ∨ w3.heap.size ≤ g) := Lib.hid fun g hg => Or.inl (rowK.own_lt HOWN.out g hg).2
              have N3 : Hid (n3 ≤ 2) := Lib.hid (by rw [← hn3]; exact RB.out.1)
              have WM : Hid (wrap64 (mn + 1) = mn + 1) := Lib.hid (by have := LE.out; have := HMN.out; exact i64w (by unfold top; omega) (by unfold top; omega))
              have TTB : Hid (0 ≤ tt ∧ tt ≤ 119880) := Lib.hid (by have := LE.out; have := HTT.out; omega)
              have SZR : Hid (w1.heap.size + 2 ≤ wr.heap.size) := HSZ
              obtain ⟨zr, hzr⟩ : ∃ n, wr.heap.size = n := ⟨_, rfl⟩
              rw [hzr] at O3 OF3 SZR
              clear ho3 k3 hn3 hzr z0 z1 z2 f0 f1 f2 q0 q1
              go_wp2_with fail
              go_loopw [9, 10, 17] (fun v9 v10 v17 W => ∃ (j n4 : Nat) (p4 : Option Addr) (c4 : Nat) (u lj : Int), j ≤ n3 ∧ v17 = .int .i64 (j : Int) ∧ v9 = .int .i64 lj ∧ v10 = .int .i64 u ∧ lj = ((RS.take j).getLast?.map (·.o)).getD la ∧ u = tt + totL (RS.take j) ∧ MfBk w1 st.seq n4 p4 c4 (st.rows ++ RS.take j) W ∧ rowK.Own zr W (.slice p3 n3 c3) RS ∧ (∀ g, (Value.slice p4 n4 c4).ownBlock = some g → g < zr ∨ w3.heap.size ≤ g) ∧ w3.heap.size ≤ W.heap.size) (fun _ _ v17 _ => n3 - (intOf v17).toNat)
              case atStart => exact ⟨0, n', p', c', tt, la, by omega, rfl, rfl, rfl, rfl, by simp [totL], by simpa using MB3.out, O3.out, OF3.out, Nat.le_refl _⟩
              case round =>
                obtain ⟨j, n4, p4, c4, u, lj, hj, rfl, rfl, rfl, hlj, hu, hbk, hor, hof, hws⟩ := hrel
                have HLJ := Lib.hid hlj
                have HU := Lib.hid hu
                have HB4 := Lib.hid hbk
                have HOR := Lib.hid hor
                have HOF := Lib.hid hof
                have HWS := Lib.hid hws
                clear hlj hu hbk hor hof hws
                by_cases hlt : j < n3
                rotate_left
                · obtain rfl : j = n3 := by as_aux_lemma => (omega)
                  have TK : Hid (RS.take j = RS) := Lib.hid (List.take_of_length_le (by rw [HN3.out]; exact Nat.le_refl _))
                  have hdd : decide ((j : Int) < (j : Int)) = false := decide_eq_false (by omega)
                  have wm := WM.out
                  by_cases hx0 : x = 0
                  · subst hx0
                    have ok := Lib.hid (rowC_yes (F := F) (l := la) (by rw [HXY.out]; simp)).1
                    have RE : Hid (RS = rowsG (gOf F)) := Lib.hid (by rw [← HRS.out, if_pos rfl])
                    have E := Lib.hid (ST2.out.trans (if_neg (by simp)))
                    have EL : Hid (lj = (gOf F).o) := Lib.hid (by rw [HLJ.out, TK.out, RE.out]; exact rows_last ok.out la)
                    have EU : Hid (u = tt + ((gOf F).n + (gOf F).m)) := Lib.hid (by rw [HU.out, TK.out, RE.out, tot_rows ok.out])
                    go_wp2
                    go_meet
                    case rel => exact Or.inl ⟨_, n4, p4, c4, E.out, rfl, by first | rfl | rw [wm], by rw [EL.out], by rw [EU.out], rfl, by rw [← RE.out, ← TK.out]; exact HB4.out⟩
                  · have E := Lib.hid (ST2.out.trans (if_pos hx0))
                    have HX0 := Lib.hid (Nat.pos_of_ne_zero hx0)
                    clear hx0
                    go_wp2
                    go_meet
                    case rel => exact Or.inr ⟨x, y, E.out, HX0.out, rfl, rfl, HB4.out.2.2.2.2⟩
                have HLT := Lib.hid hlt
                obtain ⟨r, hr⟩ : ∃ r, RS[j]? = some r := ⟨_, List.getElem?_eq_getElem (by have := HN3.out; omega)⟩
                have HRJ := Lib.hid hr
                have RQ := Lib.hid (RB.out.2 r (List.mem_of_getElem? hr))
                obtain ⟨p9, c9, e9, _, _, hc9⟩ := own_rows HOR.out (by have := RB.out.1; omega)
                rw [HN3.out] at e9
                simp only [Value.slice.injEq] at e9
                obtain ⟨rfl, _, rfl⟩ := e9
                obtain ⟨a3, rfl, q0, q1, q2, q3, q4⟩ := hc9 j r hr
                have SR : Hid (rowK.Src wr (.slice (some ⟨0, 0, none⟩) 0 0) []) := Lib.hid ⟨_, 0, rfl, (fun e => by cases e), fun a ha k u hu => by simp [RowK.row] at hu⟩
                have OLT : Hid (∀ g, (Value.slice (some a3) n3 c3).ownBlock = some g → zr ≤ g ∧ g < w3.heap.size) := Lib.hid fun g hg => rowK.own_lt O3.out g hg
                have O4 := Lib.hid HB4.out.2.2.1
                have BK4 := Lib.hid HB4.out.2.1
                have BLT : Hid (w1.heap.size + 1 < wr.heap.size) := Lib.hid (Array.getElem?_eq_some_iff.1 BK4.out).1
                have LEN : Hid ((st.rows ++ RS.take j).length + [r].length = n4 + 1) := Lib.hid (by rw [HB4.out.1]; rfl)
                have LN : Hid ((st.rows ++ RS.take j).length + [r].length ≤ 100000) := Lib.hid (by rw [List.length_append, List.length_take]; have := LE.out.1; have := RB.out.1; simp; omega)
                have OFF : Hid (∀ g, (Value.slice p4 n4 c4).ownBlock = some g → w1.heap.size + 2 ≤ g ∧ g < wr.heap.size) := Lib.hid fun g hg => rowK.own_lt O4.out g hg
                obtain ⟨u2, hu2⟩ : ∃ n, u + r.q = n := ⟨_, rfl⟩
                have HU2 : Hid (u2 = tt + totL (RS.take (j + 1))) := Lib.hid (by rw [tot_take HRJ.out, ← hu2, HU.out]; omega)
                have TQ := Lib.hid (tot_take HRJ.out)
                have UB : Hid (0 ≤ u ∧ u ≤ 121878) := Lib.hid (by
                  have h1 := TTB.out
                  have h2 : ∀ M : List R, (∀ z ∈ M, 0 ≤ z.q ∧ z.q ≤ 999) → 0 ≤ totL M ∧ totL M ≤ 999 * (M.length : Int) := by
                    intro M
                    induction M with
                    | nil => intro _; simp [totL]
                    | cons z M ih =>
                      intro h
                      have g1 := h z (by simp)
                      have g2 := ih fun y hy => h y (List.mem_cons_of_mem _ hy)
                      rw [totL, List.length_cons]
                      omega
                  have h3 := h2 (RS.take j) fun z hz => RB.out.2 z (List.take_subset _ _ hz)
                  have h4 := HU.out
                  have h5 := RB.out.1
                  rw [List.length_take] at h3
                  omega)
                have WU : Hid (wrap64 (u + r.q) = u2 ∧ IntKind.i64.wrap (u + r.q) = u2) := Lib.hid ⟨wrap_tot hu2 UB.out.1 UB.out.2 RQ.out.1 RQ.out.2, wrap_totI hu2 UB.out.1 UB.out.2 RQ.out.1 RQ.out.2⟩
                have hj1 : (j : Int) < (n3 : Int) := by as_aux_lemma => (omega)
                have hj0 : (0 : Int) ≤ (j : Int) := by as_aux_lemma => (omega)
                have wj : wrap64 ((j : Int) + 1) = (j : Int) + 1 := i64w (by as_aux_lemma => (unfold top; omega)) (by as_aux_lemma => (unfold top; have := N3.out; omega))
                have WJ := Lib.hid wj
                obtain ⟨⟨_, _, z2⟩, _, _, f2⟩ := sk_three_atG BK4.out
                have SRC : Hid (rowK.Src (wr.alloc (.cells #[.int .i64 r.o, .int .i64 r.d, .int .i64 r.c, .int .i64 r.a, .int .i64 r.q] tRw)) (.slice (some ⟨wr.heap.size, 0, none⟩) 1 1) [r]) := Lib.hid (sk_rsrc_row (heap_alloc_new _ _))
                clear wj hc9 hr hu2 hlt SR
                go_upto_region 27 with (fail)
                have l1 : w1.heap.size + 1 < wr.heap.size := BLT.out
                have l0 : w1.heap.size + 1 ≠ wr.heap.size := Nat.ne_of_lt l1
                go_cut [] (fun W => MfTwo w1 w3 zr st.seq (n4 + 1) (.slice (some a3) n3 c3) RS (st.rows ++ RS.take j ++ [r]) W)
                case first =>
                  go_region_law (
                    (refine mf_stepAppAtK rowK rfl _ _ rfl rfl (w1.heap.size + 2) ?hB _ _ (st.rows ++ RS.take j) [r] (n4 + 1) LEN.out rfl rfl ?hO (sk_rsrc_row (heap_alloc_new _ _)) LN.out ?_
                     case hB => exact Nat.le_trans HB4.out.2.2.2.1 (by simp)
                     case hO => first | exact rowK.own_keeps O4.out (ky_box wr _) | exact rowK.own_keeps O4.out (Keeps.trans (ky_box wr _) (ky_drew _)) | exact rowK.own_keeps O4.out (Keeps.trans (ky_drew wr) (ky_box _ _))
                     intro p5 c5 w5 o5 g5 a5
                     have hb5 := by first | exact mf_blk HB4.out (ky_box wr _) g5 | exact mf_blk HB4.out (Keeps.trans (ky_box wr _) (ky_drew _)) g5 | exact mf_blk HB4.out (Keeps.trans (ky_drew wr) (ky_box _ _)) g5
                     have hc5 := Joins.cell_of_block hb5 2
                     have hf5 := Joins.unfrozen_of_block hb5 2))
                  all_goals
                    have MT : Hid (MfTwo w1 w3 zr st.seq (n4 + 1) (.slice (some a3) n3 c3) RS (st.rows ++ RS.take j ++ [r]) (w5.setCell ⟨w1.heap.size + 1, 2, none⟩ (.slice p5 (n4 + 1) c5))) := Lib.hid (by first | exact mf_two HB4.out HOR.out OLT.out HOF.out SZR.out HWS.out (ky_box wr _) o5 g5 a5 | exact mf_two HB4.out HOR.out OLT.out HOF.out SZR.out HWS.out (Keeps.trans (ky_box wr _) (ky_drew _)) o5 g5 a5 | exact mf_two HB4.out HOR.out OLT.out HOF.out SZR.out HWS.out (Keeps.trans (ky_drew wr) (ky_box _ _)) o5 g5 a5)
                    clear o5 hb5 hc5 hf5 g5 a5 l0 l1 q0 q1 q2 q3 q4
                    go_wp2
                    go_meet
                    case rel => first | exact MT.out | exact MT.out.keeps (ky_drew _)
                case rest =>
                  obtain ⟨p5, c5, hb5, ho5, hf5, hs5⟩ := hcut
                  have B5 := Lib.hid hb5
                  have OR5 := Lib.hid ho5
                  have F5 := Lib.hid hf5
                  have S5 := Lib.hid hs5
                  obtain ⟨p9, c9, e9, _, _, hc9⟩ := own_rows ho5 (by have := RB.out.1; omega)
                  rw [HN3.out] at e9
                  simp only [Value.slice.injEq] at e9
                  obtain ⟨rfl, _, rfl⟩ := e9
                  obtain ⟨a4, ha4, s0, s1, s2, s3, s4⟩ := hc9 j r HRJ.out
                  cases ha4
                  obtain ⟨wu1, wu2⟩ := WU.out
                  clear hb5 ho5 hf5 hs5 hc9 l0 l1 z2 f2 q0 q1 q2 q3 q4
                  go_upto_region 28 with (fail)
                  go_quiet (fail)
                  have KQ := Lib.hid (keeps_drewN (Keeps.refl wc) nq)
                  clear wu1 wu2 s0 s1 s2 s3 s4
                  have wj := WJ.out
                  go_wp2_with fail
                  have TK1 : RS.take (j + 1) = RS.take j ++ [r] := (by rw [List.take_add_one, HRJ.out]; rfl)
                  exact ⟨⟨j + 1, n4 + 1, p5, c5, u2, r.o, HLT.out, by first | rfl | go_num, rfl, rfl, by rw [last_take HRJ.out]; rfl, HU2.out, by rw [TK1, ← List.append_assoc]; exact ⟨B5.out.1, (KQ.out.block _ (Array.getElem?_eq_some_iff.1 B5.out.2.1).1).trans B5.out.2.1, rowK.own_keeps B5.out.2.2.1 KQ.out, Nat.le_trans B5.out.2.2.2.1 KQ.out.size, B5.out.2.2.2.2.trans KQ.out⟩, rowK.own_keeps OR5.out KQ.out, F5.out, Nat.le_trans S5.out KQ.out.size⟩, by first | exact mf_meas HLT.out | (rw [WJ.out]; exact mf_meas HLT.out)⟩
      case rest =>
        have TR := Lib.hid hcut
        have wi := WI.out
        rcases TR.out with ⟨st', n2, p2, c2, e1, rfl, rfl, rfl, rfl, rfl, e2⟩ | ⟨a, b, e1, h0, rfl, rfl, k⟩
        · have E1 := Lib.hid e1
          have E2 := Lib.hid e2
          clear e1 e2
          go_wp2_with fail
          go_roundg g
          case measure => omega
          case rel => exact ⟨i + 1, n2, st', p2, c2, by as_aux_lemma => (have := HI.out; omega), rfl, rfl, rfl, rfl, by first | (rw [wi]; rfl) | rfl | go_num, by rw [Mft.step_n E1.out, HNI.out], Mft.step_inv E1.out HINV.out, NEXT.out _ E1.out, E2.out⟩
        · have E : Hid (Mft.parseM l = .error (i + 1, a, b)) := Lib.hid (ERR.out _ e1)
          have BX := Lib.hid (B2.out wc k)
          have ha : (0 : Int) < (a : Int) := by as_aux_lemma => (omega)
          have hda : decide ((0 : Int) < (a : Int)) = true := decide_eq_true ha
          clear y0 y1 y2 g0 g1 g2 r0 r1 r2 d0 d1 d2
          obtain ⟨⟨y0, y1, y2⟩, g0, g1, g2⟩ := sk_three_atG BX.out.1.1
          obtain ⟨⟨r0, r1, r2⟩, d0, d1, d2⟩ := sk_three_atG BX.out.1.2
          clear e1 k h0
          go_wp2
          obtain ⟨⟨e0, e1, e2⟩, e3, e4, e5⟩ := sk_six_set BX.out.1.1 BX.out.1.2 (.int .i64 0) (.int .i64 0) (.slice none 0 0) (.int .i64 ((i : Int) + 1)) (.int .i64 (a : Int)) (.int .i64 b)
          exact bodyPost_ret (v := .tuple #[.agg #[.int .i64 0, .int .i64 0, .slice none 0 0], .agg #[.int .i64 ((i : Int) + 1), .int .i64 (a : Int), .int .i64 b]]) (by simp [results, Tryd.results14, go_sem, e0, e1, e2, e3, e4, e5]) rfl (Or.inr ⟨i + 1, a, b, E.out, rfl, sk_six_keeps BX.out.2 (Nat.le_refl _) _ _ _ _ _ _⟩)
end Go.Proofs.YtnkcbefamajghaaDoor
