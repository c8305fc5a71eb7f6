
/- The document's files of the warehouse: Parse. -/
import Derived.Test.YtomonhghioamfaaGreatDoorSkSet
import Derived.Deep.CutRange
set_option linter.unusedVariables false
namespace Go.Proofs.YtomonhghioamfaaGreatDoor
open Go.ChangeShapes Go.WideShapes Go.ChangeAt Go.RowKit Ky Rw Csv Stk

theorem skA1 {w W : World} {o : Obj} (h : Keeps (w.alloc o).drew W) : W.heap[w.heap.size]? = some o := (h.block _ (by simp)).trans (heap_alloc_new w o)
theorem skA1_lt {w W : World} {o : Obj} (h : Keeps (w.alloc o).drew W) : w.heap.size < W.heap.size := by
  have := h.size
  simp at this
  omega
/-- A row in a block of the call's own. -/
def MidRow (wr : World) (F : List (List UInt8)) (x : Nat) (y : Int) (v11 v12 v13 : Value) (W : World) : Prop :=
  ∃ (g : Nat) (r : R), v11 = .pointer (some ⟨g, 0, none⟩) ∧ v12 = .int .i64 (x : Int) ∧ v13 = .int .i64 y ∧ W.heap[g]? = some (.cells #[.int .i64 r.o, .int .i64 r.d, .int .i64 r.c, .int .i64 r.a, .int .i64 r.q] tRw (0, 0)) ∧ wr.heap.size ≤ g ∧ (x = 0 → r = rowR F) ∧ Keeps wr W
theorem midA {w W : World} {F : List (List UInt8)} {x : Nat} {y : Int} {r : R} (hr : x = 0 → r = rowR F) (k : Keeps w.drew W) :
    MidRow w F x y (.pointer (some ⟨W.heap.size, 0, none⟩)) (.int .i64 (x : Int)) (.int .i64 y) (W.alloc (.cells #[.int .i64 r.o, .int .i64 r.d, .int .i64 r.c, .int .i64 r.a, .int .i64 r.q] tRw)) :=
  ⟨_, r, rfl, rfl, rfl, heap_alloc_new _ _, k.size, hr, kept_alloc ((ky_drew w).trans k) _⟩
theorem midB {w W : World} {F : List (List UInt8)} {x : Nat} {y : Int} {r : R} (hr : x = 0 → r = rowR F) (k : Keeps (w.alloc (skRow 0 0 0 0 0)).drew W) :
    MidRow w F x y (.pointer (some ⟨w.heap.size, 0, none⟩)) (.int .i64 (x : Int)) (.int .i64 y) (((((W.setCell ⟨w.heap.size, 0, none⟩ (.int .i64 r.o)).setCell ⟨w.heap.size, 1, none⟩ (.int .i64 r.d)).setCell ⟨w.heap.size, 2, none⟩ (.int .i64 r.c)).setCell ⟨w.heap.size, 3, none⟩ (.int .i64 r.a)).setCell ⟨w.heap.size, 4, none⟩ (.int .i64 r.q)) :=
  ⟨_, r, rfl, rfl, rfl, skFive_set (skA1 k) _ _ _ _ _, Nat.le_refl _, hr, skFive_keeps (((kept_alloc (Keeps.refl w) _).trans (ky_drew _)).trans k) (Nat.le_refl _) _ _ _ _ _⟩
/-- Behind a row. -/
def SkTail (w1 : World) (i : Nat) (st : PS) (F : List (List UInt8)) (v7 v9 v10 : Value) (W : World) : Prop :=
  (∃ (st' : PS) (n' : Nat) (p' : Option Addr) (c' : Nat), Stk.step st F = .ok st' ∧ v7 = .bool st'.ended ∧ v9 = .int .i64 0 ∧ st'.rows.length = n' ∧ W.heap[w1.heap.size + 1]? = some (.cells #[.int .i64 1, .int .i64 st'.seq, .slice p' n' c'] tSt (0, 0)) ∧ rowK.Own (w1.heap.size + 2) W (.slice p' n' c') st'.rows ∧ w1.heap.size + 2 ≤ W.heap.size ∧ Keeps w1 W) ∨
  (∃ (a : Nat) (b : Int), Stk.step st F = .error (i + 1, a, b) ∧ 0 < a ∧ v9 = .int .i64 (a : Int) ∧ v10 = .int .i64 b ∧ Keeps w1 W)
/-- Between two rows. -/
def SkPar (w1 : World) (T : List (List (List UInt8))) (N gh : Nat) (v7 v8 : Value) (W : World) : Prop :=
  ∃ (i n' : Nat) (st : PS) (p' : Option Addr) (c' : Nat), i + gh = N ∧ v7 = .bool st.ended ∧ v8 = .int .i64 (i : Int) ∧ st.n = i ∧ Stk.Inv st ∧ runL Stk.st0 T = runL st (T.drop i) ∧ st.rows.length = n' ∧
    W.heap[w1.heap.size + 1]? = some (.cells #[.int .i64 1, .int .i64 st.seq, .slice p' n' c'] tSt (0, 0)) ∧ rowK.Own (w1.heap.size + 2) W (.slice p' n' c') st.rows ∧ w1.heap.size + 2 ≤ W.heap.size ∧ Keeps w1 W
set_option maxHeartbeats 16000000 in
set_option maxRecDepth 100000 in
theorem sk_rparse (s : ByteArray) (w : World) (hs : s.size ≤ maxLen) :
    Calls Tryz.prog 15 #[.string s] w (SkOut s.data.toList w) := by
  have C1 := Lib.hid (fun W => rparse_all s W hs)
  obtain ⟨l, hl⟩ : ∃ l, s.data.toList = l := ⟨_, rfl⟩
  rw [hl] at C1 ⊢
  clear hs hl
  go_enter Tryz.func15, Tryz.ntmps15
  go_wp2_with fail
  refine (C1.out _).mono ?_
  rintro e w1 ⟨k1, v, line, col, code, rfl, ho⟩
  have HO := Lib.hid ho
  have B2 : Hid (∀ W, Keeps w1 W → (W.heap[w.heap.size]? = some (.cells #[.int .i64 0, .int .i64 0, .slice none 0 0] tSt (0, 0)) ∧ W.heap[w.heap.size + 1]? = some (.cells #[.int .i64 0, .int .i64 0, .int .i64 0] skRj (0, 0))) ∧ Keeps w W) := Lib.hid (by
    have s1 : (w.alloc zeSt).heap.size = w.heap.size + 1 := by simp
    have n0 := heap_alloc_new w zeSt
    have n1 := heap_alloc_new (w.alloc zeSt) zeRj
    rw [s1] at n1
    have k2 := kept_alloc (Keeps.refl (w.alloc zeSt)) zeRj
    intro W k
    have kk := Keeps.trans k1 k
    exact ⟨⟨(kk.block _ (by simp <;> omega)).trans ((k2.block _ (by simp)).trans n0), (kk.block _ (by simp)).trans n1⟩, (kept_alloc (kept_alloc (Keeps.refl w) _) _).trans kk⟩)
  clear ho k1 C1
  rcases HO.out with ⟨T, hr, hp, hfi, how, rfl, rfl, rfl⟩ | ⟨a, b, hp, hc, rfl, rfl, rfl⟩
  rotate_left
  · have E := Lib.hid hp
    have tc : (code == 0) = false := by rw [beq_eq_false_iff_ne]; exact hc
    have tc2 : (code != 0) = true := by rw [bne, tc]; rfl
    clear hp hc HO
    go_upto_region 3 with (fail)
    obtain ⟨W, hW⟩ : ∃ W, w1.alloc (.cells #[.int .i64 (a : Int), .int .i64 (b : Int), .int .i64 code] skRj) = W := ⟨_, rfl⟩
    have kW : Keeps w1 W := hW ▸ ky_box w1 _
    have xW : W.heap[w1.heap.size]? = some (.cells #[.int .i64 (a : Int), .int .i64 (b : Int), .int .i64 code] skRj (0, 0)) := hW ▸ heap_alloc_new w1 _
    rw [hW]
    have BW := Lib.hid (B2.out W kW)
    clear hW kW
    obtain ⟨⟨x0, x1, x2⟩, _⟩ := sk_three_atG xW
    obtain ⟨⟨y0, y1, y2⟩, g0, g1, g2⟩ := sk_three_atG BW.out.1.1
    obtain ⟨⟨r0, r1, r2⟩, d0, d1, d2⟩ := sk_three_atG BW.out.1.2
    have lt1 : w.heap.size + 1 < w1.heap.size := (Array.getElem?_eq_some_iff.1 (B2.out w1 (Keeps.refl _)).1.2).1
    have m1 : w1.heap.size ≠ w.heap.size := by omega
    have m2 : w1.heap.size ≠ w.heap.size + 1 := by omega
    have m3 : w.heap.size ≠ w1.heap.size := by omega
    have m4 : w.heap.size + 1 ≠ w1.heap.size := by omega
    clear xW lt1
    go_region
    go_wp2
    obtain ⟨⟨e0, e1, e2⟩, e3, e4, e5⟩ := sk_six_set BW.out.1.1 BW.out.1.2 (.int .i64 0) (.int .i64 0) (.slice none 0 0) (.int .i64 (a : Int)) (.int .i64 (b : Int)) (.int .i64 code)
    have K6 := sk_six_keeps BW.out.2 (Nat.le_refl _) (.int .i64 0) (.int .i64 0) (.slice none 0 0) (.int .i64 (a : Int)) (.int .i64 (b : Int)) (.int .i64 code)
    exact bodyPost_ret (v := .tuple #[.agg #[.int .i64 0, .int .i64 0, .slice none 0 0], .agg #[.int .i64 (a : Int), .int .i64 (b : Int), .int .i64 code]]) (by simp [results, Tryz.results15, go_sem, e0, e1, e2, e3, e4, e5]) rfl (Or.inr ⟨a, b, code, E.out, rfl, K6.trans (ky_drew _)⟩)
  obtain ⟨N, hN⟩ : ∃ N, T.length = N := ⟨_, rfl⟩
  have HN := Lib.hid hN
  have HR := Lib.hid hp
  have HF := Lib.hid hfi
  have RT : Hid (∀ W, Keeps w1 W → RowsAt W v T) := Lib.hid fun W k => how.rows.keeps k
  have HL : Hid (N ≤ 65536) := Lib.hid (by rw [← hN]; exact hfi.len)
  have LT : Hid (w.heap.size + 1 < w1.heap.size) := Lib.hid (Array.getElem?_eq_some_iff.1 (B2.out w1 (Keeps.refl _)).1.2).1
  obtain ⟨pv, cv, rfl, hmx, _⟩ := how.rows
  rw [hN] at hmx RT ⊢
  unfold maxLen at hmx
  clear hr hp hfi how hN HO
  go_upto_region 5 with (fail)
  obtain ⟨w2, hw2⟩ : ∃ W, (w1.alloc (.cells #[.int .i64 0, .int .i64 0, .int .i64 0] skRj)).alloc (.cells #[.int .i64 1, .int .i64 0, .slice none 0 0] tSt) = W := ⟨_, rfl⟩
  have S0 : Hid (w2.heap[w1.heap.size + 1]? = some (.cells #[.int .i64 1, .int .i64 0, .slice none 0 0] tSt (0, 0)) ∧ w1.heap.size + 2 ≤ w2.heap.size ∧ Keeps w1 w2) := Lib.hid (by
    rw [← hw2]
    have s1 : (w1.alloc (.cells #[.int .i64 0, .int .i64 0, .int .i64 0] skRj)).heap.size = w1.heap.size + 1 := by simp
    have n1 := heap_alloc_new (w1.alloc (.cells #[.int .i64 0, .int .i64 0, .int .i64 0] skRj)) (.cells #[.int .i64 1, .int .i64 0, .slice none 0 0] tSt)
    rw [s1] at n1
    exact ⟨n1, by simp, kept_alloc (kept_alloc (Keeps.refl w1) _) _⟩)
  rw [hw2]
  clear hw2
  go_wp2_with fail
  go_loopg [7, 8] N (fun g v7 v8 W => SkPar w1 T N g v7 v8 W)
  case atStart => exact ⟨0, 0, Stk.st0, none, 0, by omega, rfl, rfl, rfl, inv_zero, rfl, rfl, S0.out.1, rowK.own_nil _ _, S0.out.2.1, S0.out.2.2⟩
  case round =>
    obtain ⟨i, n', st, p', c', hi, rfl, rfl, hn, hinv, hrun, hlen, hbk, hown, hsz, hw⟩ := hrel
    have HI := Lib.hid hi
    have HNI := Lib.hid hn
    have HINV := Lib.hid hinv
    have HRUN := Lib.hid hrun
    have HLEN := Lib.hid hlen
    have HBK := Lib.hid hbk
    have HOWN := Lib.hid hown
    have HSZ := Lib.hid hsz
    have HW := Lib.hid hw
    have BW := Lib.hid (B2.out wr hw)
    obtain ⟨⟨z0, z1, z2⟩, f0, f1, f2⟩ := sk_three_atG hbk
    obtain ⟨⟨y0, y1, y2⟩, g0, g1, g2⟩ := sk_three_atG BW.out.1.1
    obtain ⟨⟨r0, r1, r2⟩, d0, d1, d2⟩ := sk_three_atG BW.out.1.2
    clear hn hinv hrun hlen hbk hown hsz hw
    cases gk with
    | zero =>
      have hiN : i = N := by as_aux_lemma => (omega)
      have hd : decide ((i : Int) < (N : Int)) = false := decide_eq_false (by as_aux_lemma => (omega))
      have PM : Hid (parseM l = runL st []) := Lib.hid (by
        rw [HR.out, HRUN.out, List.drop_eq_nil_of_le (by as_aux_lemma => (have := HN.out; omega))])
      have HIN := Lib.hid hiN
      have wN : wrap64 ((N : Int) + 1) = (N : Int) + 1 := i64w (by as_aux_lemma => (unfold top; omega)) (by as_aux_lemma => (unfold top; have := HL.out; omega))
      obtain ⟨en, hen⟩ : ∃ b, st.ended = b := ⟨_, rfl⟩
      have HEN := Lib.hid hen
      rw [hen]
      clear hen hiN
      cases en with
      | false =>
        have E : Hid (parseM l = .error (N + 1, 1, 7)) := Lib.hid (by rw [PM.out, runL, HEN.out, if_neg (by simp), HNI.out, HIN.out])
        go_wp2
        obtain ⟨⟨e0, e1, e2⟩, e3, e4, e5⟩ := sk_six_set BW.out.1.1 BW.out.1.2 (.int .i64 0) (.int .i64 0) (.slice none 0 0) (.int .i64 ((N : Int) + 1)) (.int .i64 1) (.int .i64 7)
        exact bodyPost_ret (v := .tuple #[.agg #[.int .i64 0, .int .i64 0, .slice none 0 0], .agg #[.int .i64 ((N : Int) + 1), .int .i64 1, .int .i64 7]]) (by simp [results, Tryz.results15, go_sem, e0, e1, e2, e3, e4, e5]) rfl (Or.inr ⟨N + 1, 1, 7, E.out, rfl, sk_six_keeps BW.out.2 (Nat.le_refl _) _ _ _ _ _ _⟩)
      | true =>
        have E : Hid (parseM l = .ok (st.seq, st.rows)) := Lib.hid (by rw [PM.out, runL, HEN.out, if_pos rfl])
        go_wp2
        obtain ⟨⟨e0, e1, e2⟩, e3, e4, e5⟩ := sk_six_set BW.out.1.1 BW.out.1.2 (.int .i64 1) (.int .i64 st.seq) (.slice p' n' c') (.int .i64 0) (.int .i64 0) (.int .i64 0)
        have O6 : Hid (rowK.Own (w1.heap.size + 2) (sk_sixW wr w.heap.size (.int .i64 1) (.int .i64 st.seq) (.slice p' n' c') (.int .i64 0) (.int .i64 0) (.int .i64 0)) (.slice p' n' c') st.rows) := Lib.hid (by
          have l0 : w.heap.size < w1.heap.size + 2 := by have := LT.out; omega
          have l1 : w.heap.size + 1 < w1.heap.size + 2 := by have := LT.out; omega
          exact sk_own_set (sk_own_set (sk_own_set (sk_own_set (sk_own_set (sk_own_set HOWN.out l0 _) l0 _) l0 _) l1 _) l1 _) l1 _)
        exact bodyPost_ret (v := .tuple #[.agg #[.int .i64 1, .int .i64 st.seq, .slice p' n' c'], .agg #[.int .i64 0, .int .i64 0, .int .i64 0]]) (by simp [results, Tryz.results15, go_sem, e0, e1, e2, e3, e4, e5]) rfl (Or.inl ⟨st.seq, st.rows, .slice p' n' c', E.out, rfl, own_rows O6.out (by as_aux_lemma => (have := HINV.out.few.1; omega)), sk_six_keeps BW.out.2 (Nat.le_refl _) _ _ _ _ _ _⟩)
    | succ g =>
      have hlt : i < N := by as_aux_lemma => (omega)
      obtain ⟨F, hF⟩ : ∃ F, T[i]? = some F := ⟨_, List.getElem?_eq_getElem (by as_aux_lemma => (have := HN.out; omega))⟩
      have HFI := Lib.hid hF
      have FF := Lib.hid (HF.out.row F (List.mem_of_getElem? hF))
      have FS : Hid (SkShort F) := Lib.hid (HF.out.short (List.mem_of_getElem? hF))
      obtain ⟨pq, cq, eq, _, hcq⟩ := RT.out wr HW.out
      rw [HN.out] at eq
      simp only [Value.slice.injEq] at eq
      obtain ⟨rfl, _, rfl⟩ := eq
      obtain ⟨ad, vF, rfl, hcl, hst⟩ := hcq i F hF
      have hi1 : (i : Int) < (N : Int) := by as_aux_lemma => (omega)
      have hi0 : (0 : Int) ≤ (i : Int) := by as_aux_lemma => (omega)
      have HCL := Lib.hid hcl
      have HST := Lib.hid hst
      have wi : wrap64 ((i : Int) + 1) = (i : Int) + 1 := i64w (by as_aux_lemma => (unfold top; omega)) (by as_aux_lemma => (unfold top; have := HL.out; omega))
      have DR : Hid (T.drop i = F :: T.drop (i + 1)) := Lib.hid (by
        obtain ⟨q1, q2⟩ := List.getElem?_eq_some_iff.1 hF
        rw [List.drop_eq_getElem_cons q1, q2])
      have ERR : Hid (∀ e, Stk.step st F = .error e → parseM l = .error e) := Lib.hid fun e he => by
        rw [HR.out, HRUN.out, DR.out, runL, he]
      have NEXT : Hid (∀ st', Stk.step st F = .ok st' → runL Stk.st0 T = runL st' (T.drop (i + 1))) := Lib.hid fun st' he => by
        rw [HRUN.out, DR.out, runL, he]
      obtain ⟨en, hen⟩ : ∃ b, st.ended = b := ⟨_, rfl⟩
      have HEN := Lib.hid hen
      rw [hen]
      clear hF hcq hst hen
      obtain ⟨pf, cf, rfl, _, hpf, hcf⟩ := strs_at HST.out
      obtain ⟨af, rfl⟩ := hpf (List.length_pos_iff.2 FF.out.1)
      obtain ⟨M, hM⟩ : ∃ M, F.length = M := ⟨_, rfl⟩
      have HM := Lib.hid hM
      have M0 : 0 < M := by rw [← hM]; exact List.length_pos_iff.2 FF.out.1
      have M0' : (0 : Int) < (M : Int) := by omega
      obtain ⟨S0, h0⟩ : ∃ S : ByteArray, ⟨(fa F 0).toArray⟩ = S := ⟨_, rfl⟩
      have L0 : Hid (S0.data.toList = fa F 0) := Lib.hid (by rw [← h0, data_mk])
      have Q0 : Hid (∀ W, Keeps wr W → W.cell? (ad.add i) = some (.slice (some af) M cf) ∧ W.cell? af = some (.string S0)) := Lib.hid fun W k => ⟨by rw [← hM]; exact cell_keeps k HCL.out, by rw [← h0]; exact cell_keeps k ((hcf af rfl).1 (by omega))⟩
      obtain ⟨S1, e1, C⟩ := sk_num (fa F 1) 1073741824 (FS.out 1) (by omega)
      have Q1 : Hid (1 < M → ∀ W, Keeps wr W → W.cell? ⟨af.block, af.off + 1, none⟩ = some (.string S1)) := Lib.hid fun h W k => by rw [← e1]; exact cell_keeps k ((hcf af rfl).2 1 (by omega) (by omega))
      have CN := Lib.hid C
      have CH := Lib.hid (fun W k => sk_head (.slice (some af) F.length cf) F W (HST.out.keeps k) FF.out.1 (by have := FF.out.2.1; omega) FS.out)
      have CT := Lib.hid (fun W k n hn hn4 => sk_tail (.slice (some af) F.length cf) F st.rows n W (HST.out.keeps k) (by have := FF.out.2.1; omega) FS.out hn hn4)
      have CM := Lib.hid (fun W k u hu => sk_middle (.slice (some af) F.length cf) u F st.rows W (HST.out.keeps k) (by have := FF.out.2.1; omega) FS.out hu HINV.out.few.1)
      rw [hM] at CH CT CM
      have LE := Lib.hid HINV.out.few
      clear hcf hM h0 e1 C hcl HCL HST
      go_upto_if 31 with (fail)
      go_cut [7, 9, 10] from 25 to 96 (fun v7 v9 v10 W => SkTail w1 i st F v7 v9 v10 W)
      case first =>
        cases en with
        | true =>
          have E : Hid (Stk.step st F = .error (i + 1, 1, 7)) := Lib.hid (by unfold Stk.step; rw [if_pos HEN.out, HNI.out])
          go_wp2
          go_meet
          case rel => exact Or.inr ⟨1, 7, E.out, by omega, rfl, rfl, HW.out⟩
        | false =>
          by_cases hz : i = 0
          · have ez : ((i : Int) == 0) = true := by rw [hz]; rfl
            have ST : Hid (Stk.step st F = if (headC F).1 ≠ 0 then .error (i + 1, headC F) else .ok ⟨i + 1, numN (fa F 1) 1073741824, st.rows, false⟩) := Lib.hid (by unfold Stk.step; rw [if_neg (by rw [HEN.out]; simp), HNI.out, if_pos hz])
            obtain ⟨x, y, hxy⟩ : ∃ x y, headC F = (x, y) := ⟨_, _, rfl⟩
            have HXY := Lib.hid hxy
            rw [hxy] at CH ST
            obtain ⟨q0, q1⟩ := Q0.out wr (Keeps.refl _)
            clear hz hxy
            go_wp2_with fail
            refine (CH.out _ (Keeps.refl _)).mono ?_
            rintro e w3 ⟨rfl, k3⟩
            have K3 := Lib.hid k3
            clear q0 q1 k3 z0 z1 z2 f0 f1 f2
            by_cases hx0 : x = 0
            rotate_left
            · have tx : ((x : Int) == 0) = false := by as_aux_lemma => (rw [beq_eq_false_iff_ne]; omega)
              have E := Lib.hid (ST.out.trans (if_pos hx0))
              have HX0 := Lib.hid (Nat.pos_of_ne_zero hx0)
              clear hx0
              go_wp2
              go_meet
              case rel => exact Or.inr ⟨x, y, E.out, HX0.out, rfl, rfl, HW.out.trans K3.out⟩
            · subst hx0
              have E := Lib.hid (ST.out.trans (if_neg (by simp)))
              have M2 : M = 2 := by
                have h := HXY.out
                unfold headC at h
                split at h
                · cases h
                · split at h
                  · rename_i h2; simp only [Prod.mk.injEq] at h; exact absurd h.1 h2
                  · rename_i h2; rw [← HM.out]; exact wide_zero (by omega)
              subst M2
              obtain ⟨q0, q1⟩ := Q0.out w3 K3.out
              have q2 := Q1.out (by omega) w3 K3.out
              have BX3 := Lib.hid ((K3.out.block _ (Array.getElem?_eq_some_iff.1 HBK.out).1).trans HBK.out)
              obtain ⟨⟨z0, z1, z2⟩, f0, f1, f2⟩ := sk_three_atG BX3.out
              go_wp2_with fail
              refine (CN.out _).mono ?_
              rintro e w4 ⟨rfl, k4⟩
              have K4 := Lib.hid (K3.out.trans k4)
              have BX4 := Lib.hid ((k4.block _ (Array.getElem?_eq_some_iff.1 BX3.out).1).trans BX3.out)
              clear z0 z1 z2 f0 f1 f2 q0 q1 q2 k4
              obtain ⟨⟨z0, z1, z2⟩, f0, f1, f2⟩ := sk_three_atG BX4.out
              go_wp2
              go_meet
              case rel => exact Or.inl ⟨_, n', p', c', E.out, rfl, rfl, HLEN.out, Joins.block_setCell (i := 1) BX4.out _, sk_own_set (rowK.own_keeps HOWN.out K4.out) (by omega) _, by simpa using Nat.le_trans HSZ.out K4.out.size, (HW.out.trans K4.out).setCell (p := ⟨w1.heap.size + 1, 1, none⟩) (by show w1.heap.size ≤ w1.heap.size + 1; omega) _⟩
          · have ez : ((i : Int) == 0) = false := by as_aux_lemma => (rw [beq_eq_false_iff_ne]; omega)
            have ST : Hid (Stk.step st F = if fa F 0 = wEnd then (if (tailC F st.rows).1 ≠ 0 then .error (i + 1, tailC F st.rows) else .ok ⟨i + 1, st.seq, st.rows, true⟩) else (if (rowC F st.rows).1 ≠ 0 then .error (i + 1, rowC F st.rows) else .ok ⟨i + 1, st.seq, st.rows ++ [rowR F], false⟩)) := Lib.hid (by unfold Stk.step; rw [if_neg (by rw [HEN.out]; simp), HNI.out, if_neg hz])
            obtain ⟨q0, q1⟩ := Q0.out wr (Keeps.refl _)
            have RI : Hid (RowsIn wr (.slice p' n' c') st.rows) := Lib.hid (own_rows HOWN.out (by as_aux_lemma => (have := LE.out.1; omega)))
            clear hz
            by_cases hE : S0 = ⟨#[101, 110, 100]⟩
            · have X : fa F 0 = wEnd := by rw [← L0.out, hE]
              have ST2 := Lib.hid (ST.out.trans (if_pos X))
              subst hE
              obtain ⟨x, y, hxy⟩ : ∃ x y, tailC F st.rows = (x, y) := ⟨_, _, rfl⟩
              rw [hxy] at CT ST2
              have CT2 := Lib.hid (fun W k => CT.out W k n' HLEN.out (by have := LE.out.1; have := HLEN.out; omega))
              have CS : Hid (∀ W, Keeps wr W → W.cell? (ad.add i) = some (.slice (some af) M cf) ∧ W.cell? ⟨w1.heap.size + 1, 2, none⟩ = some (.slice p' n' c')) := Lib.hid fun W k => ⟨(Q0.out W k).1, cell_keeps k z2⟩
              have HX := Lib.hid (Keeps.refl wr)
              clear hxy X CT ST
              go_upto_region 17 with (fail)
              go_region_held3 (fun W => W.cell? (ad.add i) = some (.slice (some af) M cf) ∧ W.cell? ⟨w1.heap.size + 1, 2, none⟩ = some (.slice p' n' c'))
                (first | exact CS.out _ HX.out | exact CS.out _ (HX.out.trans (ky_drew _)) | assumption)
                ((go_at_call 39; refine (CT2.out _ (HX.out.trans (ky_drew _))).mono ?_; rintro e wv ⟨rfl, hv⟩; have HX := Lib.hid ((HX.out.trans (ky_drew _)).trans hv); have zv := CS.out _ HX.out; clear hv))
              have BX3 := Lib.hid ((HX.out.block _ (Array.getElem?_eq_some_iff.1 HBK.out).1).trans HBK.out)
              clear z0 z1 z2 f0 f1 f2 q0 q1
              by_cases hx0 : x = 0
              rotate_left
              · have E := Lib.hid (ST2.out.trans (if_pos hx0))
                have HX0 := Lib.hid (Nat.pos_of_ne_zero hx0)
                clear hx0
                go_wp2
                go_meet
                case rel => exact Or.inr ⟨x, y, E.out, HX0.out, rfl, rfl, HW.out.trans HX.out⟩
              · subst hx0
                have E := Lib.hid (ST2.out.trans (if_neg (by simp)))
                go_wp2
                go_meet
                case rel => exact Or.inl ⟨_, n', p', c', E.out, rfl, rfl, HLEN.out, BX3.out, rowK.own_keeps HOWN.out HX.out, Nat.le_trans HSZ.out HX.out.size, HW.out.trans HX.out⟩
            · have X : fa F 0 ≠ wEnd := fun e => hE (bytes_inj (by rw [L0.out, e]))
              have ST2 := Lib.hid (ST.out.trans (if_neg X))
              obtain ⟨t1, t2, t3⟩ := sv_neS (S := S0) (l := [101, 110, 100]) (fun e => hE (bytes_inj (by rw [e])))
              obtain ⟨x, y, hxy⟩ : ∃ x y, rowC F st.rows = (x, y) := ⟨_, _, rfl⟩
              have HXY := Lib.hid hxy
              rw [hxy] at ST2
              have CM2 : Hid (∀ W, Keeps wr W → Calls Tryz.prog 40 #[.slice (some af) M cf, .slice p' n' c'] W fun e w' => ∃ r : R, e = .returned (.tuple #[rwV r, .int .i64 (x : Int), .int .i64 y]) ∧ (x = 0 → r = rowR F) ∧ Keeps W w') := Lib.hid fun W k => (CM.out W k (.slice p' n' c') (RI.out.keeps k)).mono fun e w' ⟨r, h1, h2, h3⟩ => by
                rw [hxy] at h1 h2
                exact ⟨r, h1, h2, h3⟩
              clear hxy X CM ST hE
              go_upto_region 19 with (fail)
              go_cut [11, 12, 13] from 25 to 96 (fun v11 v12 v13 W => MidRow wr F x y v11 v12 v13 W)
              case first =>
                unfold rwV at CM2
                have CS : Hid (∀ W, Keeps wr W → W.cell? (ad.add i) = some (.slice (some af) M cf) ∧ W.cell? ⟨w1.heap.size + 1, 2, none⟩ = some (.slice p' n' c')) := Lib.hid fun W k => ⟨(Q0.out W k).1, cell_keeps k z2⟩
                refine wp_region_held_drew (S := fun W => Keeps wr W) (by kernel_rfl) (ky_drew _) (fun hHeld => ?_)
                refine takeH (i := 0) (d := some 71) (v := ?av0) rfl rfl (by kernel_rfl) (by kernel_rfl) (by kernel_rfl) (fun _ _ _ h => h) (Or.inl ⟨by rfl, ?ay0⟩) (by assumption) ?ar0
                case ay0 => (intro W hSw; obtain ⟨x0, x1⟩ := CS.out W hSw; go_simp; try with_reducible rfl)
                try simp only [Act.put, List.setIfInBounds_toArray, List.set_cons_zero, List.set_cons_succ]
                refine takeH (i := 1) (d := some 72) (v := ?av1) rfl rfl (by kernel_rfl) (by kernel_rfl) (by kernel_rfl) (fun _ _ _ h => h) (Or.inl ⟨by rfl, ?ay1⟩) (by assumption) ?ar1
                case ay1 => (intro W hSw; obtain ⟨x0, x1⟩ := CS.out W hSw; go_simp; try with_reducible rfl)
                try simp only [Act.put, List.setIfInBounds_toArray, List.set_cons_zero, List.set_cons_succ]
                refine takeH (i := 2) (d := some 73) (v := ?av2) rfl rfl (by kernel_rfl) (by kernel_rfl) (by kernel_rfl) (fun _ _ _ h => h) (Or.inl ⟨by rfl, ?ay2⟩) (by assumption) ?ar2
                case ay2 => (intro W hSw; obtain ⟨x0, x1⟩ := CS.out W hSw; go_simp; try with_reducible rfl)
                try simp only [Act.put, List.setIfInBounds_toArray, List.set_cons_zero, List.set_cons_succ]
                refine takeH (i := 3) (d := some 74) (v := ?av3) rfl rfl (by kernel_rfl) (by kernel_rfl) (by kernel_rfl) (fun _ _ _ h => h) (Or.inl ⟨by rfl, ?ay3⟩) (by assumption) ?ar3
                case ay3 => (intro W hSw; obtain ⟨x0, x1⟩ := CS.out W hSw; go_simp; try with_reducible rfl)
                try simp only [Act.put, List.setIfInBounds_toArray, List.set_cons_zero, List.set_cons_succ]
                refine takeH (i := 4) (d := some 75) (v := ?av4) rfl rfl (by kernel_rfl) (by kernel_rfl) (by kernel_rfl) (fun _ _ _ h => h) (Or.inl ⟨by rfl, ?ay4⟩) (by assumption) ?ar4
                case ay4 => (intro W hSw; obtain ⟨x0, x1⟩ := CS.out W hSw; go_simp; try with_reducible rfl)
                try simp only [Act.put, List.setIfInBounds_toArray, List.set_cons_zero, List.set_cons_succ]
                refine takeH (i := 5) (d := some 76) (v := ?av5) rfl rfl (by kernel_rfl) (by kernel_rfl) (by kernel_rfl) (fun _ _ _ h => h) (Or.inl ⟨by rfl, ?ay5⟩) (by assumption) ?ar5
                case ay5 => (intro W hSw; obtain ⟨x0, x1⟩ := CS.out W hSw; go_simp; try with_reducible rfl)
                try simp only [Act.put, List.setIfInBounds_toArray, List.set_cons_zero, List.set_cons_succ]
                refine wpAnyH_ready (rs := [6, 11]) (by decide +kernel) (by simp) ?_
                refine AllReadyH.cons rfl (fun K hK => ?_) (AllReadyH.cons rfl (fun K hK => ?_) AllReadyH.nil)
                · go_simp
                  refine (CM2.out _ hHeld).mono ?_
                  rintro e wv ⟨r, rfl, hr, k3⟩
                  have hv := Keeps.trans hHeld k3
                  refine hK.out _ _ hv (fun hHeld => ?_)
                  clear hK K hv
                  try simp only [Act.put, List.setIfInBounds_toArray, List.set_cons_zero, List.set_cons_succ]
                  refine takeH (i := 7) (d := some 70) (v := ?bv7) rfl rfl (by kernel_rfl) (by kernel_rfl) (by kernel_rfl) (fun _ _ _ h => h) (Or.inl ⟨by rfl, ?by7⟩) (by assumption) ?br7
                  case by7 => (intro W hSw; obtain ⟨x0, x1⟩ := CS.out W hSw; go_simp; try with_reducible rfl)
                  try simp only [Act.put, List.setIfInBounds_toArray, List.set_cons_zero, List.set_cons_succ]
                  refine takeH (i := 8) (d := some 78) (v := ?bv8) rfl rfl (by kernel_rfl) (by kernel_rfl) (by kernel_rfl) (fun _ _ _ h => h) (Or.inl ⟨by rfl, ?by8⟩) (by assumption) ?br8
                  case by8 => (intro W hSw; obtain ⟨x0, x1⟩ := CS.out W hSw; go_simp; try with_reducible rfl)
                  try simp only [Act.put, List.setIfInBounds_toArray, List.set_cons_zero, List.set_cons_succ]
                  refine takeH (i := 9) (d := some 79) (v := ?bv9) rfl rfl (by kernel_rfl) (by kernel_rfl) (by kernel_rfl) (fun _ _ _ h => h) (Or.inl ⟨by rfl, ?by9⟩) (by assumption) ?br9
                  case by9 => (intro W hSw; obtain ⟨x0, x1⟩ := CS.out W hSw; go_simp; try with_reducible rfl)
                  try simp only [Act.put, List.setIfInBounds_toArray, List.set_cons_zero, List.set_cons_succ]
                  refine takeH (i := 10) (d := some 80) (v := ?bv10) rfl rfl (by kernel_rfl) (by kernel_rfl) (by kernel_rfl) (fun _ _ _ h => h) (Or.inl ⟨by rfl, ?by10⟩) (by assumption) ?br10
                  case by10 => (intro W hSw; obtain ⟨x0, x1⟩ := CS.out W hSw; go_simp; try with_reducible rfl)
                  try simp only [Act.put, List.setIfInBounds_toArray, List.set_cons_zero, List.set_cons_succ]
                  refine wpAnyH_ready (rs := [11]) (by decide +kernel) (by simp) ?_
                  refine AllReadyH.cons rfl (fun K hK => ?_) AllReadyH.nil
                  go_simp
                  refine hK.out _ _ (kept_alloc hHeld _) (fun hHeld2 => ?_)
                  clear hK K
                  try simp only [Act.put, List.setIfInBounds_toArray, List.set_cons_zero, List.set_cons_succ]
                  refine wpAnyH_ready (rs := [12]) (by decide +kernel) (by simp) ?_
                  refine AllReadyH.cons rfl (fun K hK => ?_) AllReadyH.nil
                  go_simp
                  refine hK.out _ _ (kept_alloc hHeld _) (fun hHeld3 => ?_)
                  clear hK K hHeld2
                  try simp only [Act.put, List.setIfInBounds_toArray, List.set_cons_zero, List.set_cons_succ]
                  refine takeH (i := 13) (d := some 12) (v := ?bv13) rfl rfl (by kernel_rfl) (by kernel_rfl) (by kernel_rfl) (fun _ _ _ h => h) (Or.inl ⟨by rfl, ?by13⟩) (by assumption) ?br13
                  case by13 => (intro W hSw; obtain ⟨x0, x1⟩ := CS.out W hSw; go_simp; try with_reducible rfl)
                  try simp only [Act.put, List.setIfInBounds_toArray, List.set_cons_zero, List.set_cons_succ]
                  refine takeH (i := 14) (d := some 13) (v := ?bv14) rfl rfl (by kernel_rfl) (by kernel_rfl) (by kernel_rfl) (fun _ _ _ h => h) (Or.inl ⟨by rfl, ?by14⟩) (by assumption) ?br14
                  case by14 => (intro W hSw; obtain ⟨x0, x1⟩ := CS.out W hSw; go_simp; try with_reducible rfl)
                  try simp only [Act.put, List.setIfInBounds_toArray, List.set_cons_zero, List.set_cons_succ]
                  refine wpAnyH_done (by kernel_rfl) ?_ _
                  go_wp2
                  go_meet
                  case rel => exact ⟨_, r, rfl, rfl, rfl, heap_alloc_new _ _, hHeld.size, hr, kept_alloc hHeld _⟩
                · go_simp
                  refine hK.out _ _ (kept_alloc hHeld _) (fun hHeld => ?_)
                  clear hK K
                  try simp only [Act.put, List.setIfInBounds_toArray, List.set_cons_zero, List.set_cons_succ]
                  refine wpAnyH_ready (rs := [6]) (by decide +kernel) (by simp) ?_
                  refine AllReadyH.cons rfl (fun K hK => ?_) AllReadyH.nil
                  go_simp
                  refine (CM2.out _ hHeld).mono ?_
                  rintro e wv ⟨r, rfl, hr, k3⟩
                  have hv := Keeps.trans hHeld k3
                  have q9 := (k3.block wr.heap.size (by simp)).trans (heap_alloc_new wr.drew (.cells #[.int .i64 0, .int .i64 0, .int .i64 0, .int .i64 0, .int .i64 0] tRw))
                  refine hK.out _ _ hv (fun hHeld => ?_)
                  clear hK K hv
                  try simp only [Act.put, List.setIfInBounds_toArray, List.set_cons_zero, List.set_cons_succ]
                  obtain ⟨⟨a0, a1, a2, a3, a4⟩, h0, h1, h2, h3, h4⟩ := skFive_at (n := wr.heap.size) q9
                  refine takeH (i := 7) (d := some 70) (v := ?cv7) rfl rfl (by kernel_rfl) (by kernel_rfl) (by kernel_rfl) (fun _ _ _ h => h) (Or.inl ⟨by rfl, ?cy7⟩) (by assumption) ?cr7
                  case cy7 => (intro W hSw; obtain ⟨x0, x1⟩ := CS.out W hSw; go_simp; try with_reducible rfl)
                  try simp only [Act.put, List.setIfInBounds_toArray, List.set_cons_zero, List.set_cons_succ]
                  refine takeH (i := 8) (d := some 78) (v := ?cv8) rfl rfl (by kernel_rfl) (by kernel_rfl) (by kernel_rfl) (fun _ _ _ h => h) (Or.inl ⟨by rfl, ?cy8⟩) (by assumption) ?cr8
                  case cy8 => (intro W hSw; obtain ⟨x0, x1⟩ := CS.out W hSw; go_simp; try with_reducible rfl)
                  try simp only [Act.put, List.setIfInBounds_toArray, List.set_cons_zero, List.set_cons_succ]
                  refine takeH (i := 9) (d := some 79) (v := ?cv9) rfl rfl (by kernel_rfl) (by kernel_rfl) (by kernel_rfl) (fun _ _ _ h => h) (Or.inl ⟨by rfl, ?cy9⟩) (by assumption) ?cr9
                  case cy9 => (intro W hSw; obtain ⟨x0, x1⟩ := CS.out W hSw; go_simp; try with_reducible rfl)
                  try simp only [Act.put, List.setIfInBounds_toArray, List.set_cons_zero, List.set_cons_succ]
                  refine takeH (i := 10) (d := some 80) (v := ?cv10) rfl rfl (by kernel_rfl) (by kernel_rfl) (by kernel_rfl) (fun _ _ _ h => h) (Or.inl ⟨by rfl, ?cy10⟩) (by assumption) ?cr10
                  case cy10 => (intro W hSw; obtain ⟨x0, x1⟩ := CS.out W hSw; go_simp; try with_reducible rfl)
                  try simp only [Act.put, List.setIfInBounds_toArray, List.set_cons_zero, List.set_cons_succ]
                  refine wpAnyH_ready (rs := [12]) (by decide +kernel) (by simp) ?_
                  refine AllReadyH.cons rfl (fun K hK => ?_) AllReadyH.nil
                  go_simp
                  have hv5 := skFive_keeps hHeld (n := wr.heap.size) (Nat.le_refl _) (.int .i64 r.o) (.int .i64 r.d) (.int .i64 r.c) (.int .i64 r.a) (.int .i64 r.q)
                  refine hK.out _ _ hv5 (fun hHeld3 => ?_)
                  clear hK K
                  try simp only [Act.put, List.setIfInBounds_toArray, List.set_cons_zero, List.set_cons_succ]
                  refine takeH (i := 13) (d := some 12) (v := ?cv13) rfl rfl (by kernel_rfl) (by kernel_rfl) (by kernel_rfl) (fun _ _ _ h => h) (Or.inl ⟨by rfl, ?cy13⟩) (by assumption) ?cr13
                  case cy13 => (intro W hSw; obtain ⟨x0, x1⟩ := CS.out W hSw; go_simp; try with_reducible rfl)
                  try simp only [Act.put, List.setIfInBounds_toArray, List.set_cons_zero, List.set_cons_succ]
                  refine takeH (i := 14) (d := some 13) (v := ?cv14) rfl rfl (by kernel_rfl) (by kernel_rfl) (by kernel_rfl) (fun _ _ _ h => h) (Or.inl ⟨by rfl, ?cy14⟩) (by assumption) ?cr14
                  case cy14 => (intro W hSw; obtain ⟨x0, x1⟩ := CS.out W hSw; go_simp; try with_reducible rfl)
                  try simp only [Act.put, List.setIfInBounds_toArray, List.set_cons_zero, List.set_cons_succ]
                  refine wpAnyH_done (by kernel_rfl) ?_ _
                  go_wp2
                  go_meet
                  case rel => exact ⟨_, r, rfl, rfl, rfl, skFive_set (n := wr.heap.size) q9 _ _ _ _ _, Nat.le_refl _, hr, hv5⟩
              case rest =>
                obtain ⟨g, r, rfl, rfl, rfl, hg, hgl, hr, hk⟩ := hcut
                have KC := Lib.hid hk
                have HR2 := Lib.hid hr
                have RB := Lib.hid hg
                have BN := Lib.hid ((hk.block _ (Array.getElem?_eq_some_iff.1 HBK.out).1).trans HBK.out)
                have ON := Lib.hid (rowK.own_keeps HOWN.out hk)
                have SZ : Hid (wr.heap.size ≤ wc.heap.size) := Lib.hid hk.size
                have OFF : Hid (∀ j, (Value.slice p' n' c').ownBlock = some j → w1.heap.size + 2 ≤ j ∧ j < wr.heap.size) := Lib.hid fun j hj => rowK.own_lt HOWN.out j hj
                clear z0 z1 z2 f0 f1 f2 q0 q1 hk hr
                obtain ⟨⟨_, _, z2⟩, _, _, f2⟩ := sk_three_atG BN.out
                obtain ⟨⟨v0, v1, v2, v3, v4⟩, _⟩ := skFive_at RB.out
                clear hg hgl
                obtain ⟨p5, c5, w5, R1, R2, R3⟩ := rowK.app_row (wc.alloc (.cells #[.int .i64 r.o, .int .i64 r.d, .int .i64 r.c, .int .i64 r.a, .int .i64 r.q] tRw)) (w1.heap.size + 2) (.slice p' n' c') st.rows (.slice (some ⟨wc.heap.size, 0, none⟩) 1 1) [r] (rowK.own_keeps ON.out (ky_box wc _)) (sk_rsrc_row (heap_alloc_new _ _)) (by as_aux_lemma => (have := LE.out.1; simp; omega)) (by as_aux_lemma => (simp; have := HSZ.out; have := SZ.out; omega))
                rw [List.length_singleton, HLEN.out] at R1 R2
                have HRA : Hid ((Builtin.append_ #[rowK.ts, rowK.ts] rowK.ts #[.slice p' n' c', .slice (some ⟨wc.heap.size, 0, none⟩) 1 1]).run Tryz.prog (wc.alloc (.cells #[.int .i64 r.o, .int .i64 r.d, .int .i64 r.c, .int .i64 r.a, .int .i64 r.q] tRw)) = .ok (.slice p5 (n' + 1) c5) w5) := Lib.hid R1
                have hb5 := (R3.block (w1.heap.size + 1) (by as_aux_lemma => (simp; have := HSZ.out; have := SZ.out; omega)) (fun e => by as_aux_lemma => (have := OFF.out _ e.symm; omega))).trans (Eq.trans ((ky_box wc _).block _ (Array.getElem?_eq_some_iff.1 BN.out).1) BN.out)
                have L5 := Lib.hid (sk_mono (HW.out.trans (KC.out.trans (ky_box wc _))) R3 (fun j hj => by as_aux_lemma => (have := (OFF.out j hj).1; omega)))
                have S5 : Hid (w1.heap.size + 2 ≤ w5.heap.size) := Lib.hid (by have h1 := R3.size; have := HSZ.out; have := SZ.out; simp at h1; omega)
                have f5 := Joins.unfrozen_of_block hb5 2
                have cc5 := Joins.cell_of_block hb5 2
                have BX5 := Lib.hid (Joins.block_setCell (i := 2) hb5 (.slice p5 (n' + 1) c5))
                have OX5 := Lib.hid (sk_own_set (i := 2) (b := w1.heap.size + 1) R2 (Nat.lt_succ_self _) (.slice p5 (n' + 1) c5))
                have KX5 := Lib.hid (L5.out.setCell (p := ⟨w1.heap.size + 1, 2, none⟩) (Nat.le_succ _) (.slice p5 (n' + 1) c5))
                clear R1 R2 R3 hb5
                by_cases hx0 : x = 0
                · subst hx0
                  have E := Lib.hid (ST2.out.trans (if_neg (by simp)))
                  have ER := Lib.hid (HR2.out rfl)
                  go_wp2_with (at_builtin; refine wpAppKnown rfl _ _ _ _ rfl _ _ _ _ rfl rfl HRA.out ?_)
                  go_meet
                  case rel => exact Or.inl ⟨_, n' + 1, p5, c5, E.out, rfl, rfl, by rw [List.length_append, HLEN.out]; rfl, BX5.out, by rw [← ER.out]; exact OX5.out, by simpa using S5.out, KX5.out⟩
                · have E := Lib.hid (ST2.out.trans (if_pos hx0))
                  have HX0 := Lib.hid (Nat.pos_of_ne_zero hx0)
                  clear hx0
                  go_wp2_with (at_builtin; refine wpAppKnown rfl _ _ _ _ rfl _ _ _ _ rfl rfl HRA.out ?_)
                  go_meet
                  case rel => exact Or.inr ⟨x, y, E.out, HX0.out, rfl, rfl, KX5.out⟩
      case rest =>
        have TR := Lib.hid hcut
        rcases TR.out with ⟨st', n2, p2, c2, e1, rfl, rfl, e2, e3, e4, e5, e6⟩ | ⟨a, b, e1, h0, rfl, rfl, k⟩
        · have E1 := Lib.hid e1
          have E2 := Lib.hid e2
          have E3 := Lib.hid e3
          have E4 := Lib.hid e4
          have E5 := Lib.hid e5
          have E6 := Lib.hid e6
          clear e1 e2 e3 e4 e5 e6
          go_wp2_with fail
          go_roundg g
          case measure => omega
          case rel => exact ⟨i + 1, n2, st', p2, c2, by as_aux_lemma => (have := HI.out; omega), rfl, by first | (rw [wi]; rfl) | rfl | go_num, by rw [step_n E1.out, HNI.out], step_inv E1.out HINV.out, NEXT.out _ E1.out, E2.out, E3.out, E4.out, E5.out, E6.out⟩
        · have E : Hid (parseM l = .error (i + 1, a, b)) := Lib.hid (ERR.out _ e1)
          have BX := Lib.hid (B2.out wc k)
          have ha : (0 : Int) < (a : Int) := by as_aux_lemma => (omega)
          have hda : decide ((0 : Int) < (a : Int)) = true := decide_eq_true ha
          clear y0 y1 y2 g0 g1 g2 r0 r1 r2 d0 d1 d2
          obtain ⟨⟨y0, y1, y2⟩, g0, g1, g2⟩ := sk_three_atG BX.out.1.1
          obtain ⟨⟨r0, r1, r2⟩, d0, d1, d2⟩ := sk_three_atG BX.out.1.2
          clear e1 k h0
          go_wp2
          obtain ⟨⟨e0, e1, e2⟩, e3, e4, e5⟩ := sk_six_set BX.out.1.1 BX.out.1.2 (.int .i64 0) (.int .i64 0) (.slice none 0 0) (.int .i64 ((i : Int) + 1)) (.int .i64 (a : Int)) (.int .i64 b)
          exact bodyPost_ret (v := .tuple #[.agg #[.int .i64 0, .int .i64 0, .slice none 0 0], .agg #[.int .i64 ((i : Int) + 1), .int .i64 (a : Int), .int .i64 b]]) (by simp [results, Tryz.results15, go_sem, e0, e1, e2, e3, e4, e5]) rfl (Or.inr ⟨i + 1, a, b, E.out, rfl, sk_six_keeps BX.out.2 (Nat.le_refl _) _ _ _ _ _ _⟩)
end Go.Proofs.YtomonhghioamfaaGreatDoor
