
/- The document's files of the payment: Parse. -/
import Derived.Test.YtomonhghioamfaaGreatDoorStSet
set_option linter.unusedVariables false
namespace Go.Proofs.YtomonhghioamfaaGreatDoor
open Go.ChangeShapes Go.WideShapes Go.ChangeAt Go.RowKit Ky Rw Stl

/-- Behind a line. -/
def TailR (w w1 : World) (i : Nat) (st : PS) (l : List UInt8) (v6 v13 v14 : Value) (W : World) : Prop :=
  (∃ (st' : PS) (n' : Nat) (p' : Option Addr) (c' : Nat), Stl.step st l = .ok st' ∧ v6 = .bool st'.ended ∧ v13 = .int .i64 0 ∧ st'.rows.length = n' ∧ W.heap[w.heap.size + 1 + 1]? = some (.cells #[.int .i64 0, .int .i64 st'.seq, .slice p' n' c'] tSt (0, 0)) ∧ rowK.Own w1.heap.size W (.slice p' n' c') st'.rows ∧ QK w1 (w.heap.size + 1 + 1) W ∧ Keeps w W) ∨
  (∃ (a : Nat) (b : Int), Stl.step st l = .error (i + 1, a, b) ∧ 0 < a ∧ v13 = .int .i64 (a : Int) ∧ v14 = .int .i64 b ∧ QK w1 (w.heap.size + 1 + 1) W ∧ Keeps w W)
/-- Between two lines. -/
def ParR (w w1 : World) (LS : List (List UInt8)) (N gh : Nat) (v6 v7 : Value) (W : World) : Prop :=
  ∃ (i n' : Nat) (st : PS) (pre : List UInt8) (p' : Option Addr) (c' : Nat), i + gh = N ∧ v6 = .bool st.ended ∧ v7 = .int .i64 (i : Int) ∧ st.n = i ∧ Inv st pre ∧ runL st0 LS = runL st (LS.drop i) ∧ st.rows.length = n' ∧
    W.heap[w.heap.size + 1 + 1]? = some (.cells #[.int .i64 0, .int .i64 st.seq, .slice p' n' c'] tSt (0, 0)) ∧ rowK.Own w1.heap.size W (.slice p' n' c') st.rows ∧ QK w1 (w.heap.size + 1 + 1) W ∧ Keeps w W
set_option maxHeartbeats 16000000 in
set_option maxRecDepth 100000 in
theorem sr_parse_long (s : ByteArray) (w : World) (hs : s.size ≤ maxLen) (hbig : ¬ s.size ≤ 65536) :
    Calls Tryz.prog 8 #[.string s] w (SetOut s.data.toList w) := by
  have E : Hid (parseM s.data.toList = .error (1, 1, 8)) := Lib.hid (by unfold parseM; rw [if_pos (by as_aux_lemma => (rw [len_data]; omega))])
  unfold maxLen at hs
  go_enter Tryz.func8, Tryz.ntmps8
  go_wp2_with fail
  have e0 := heap_alloc_new (w.alloc (.cells #[.int .i64 0, .int .i64 0, .slice none 0 0] tSt)) (.cells #[.int .i64 1, .int .i64 1, .int .i64 8] tRj)
  have s1 : (w.alloc (.cells #[.int .i64 0, .int .i64 0, .slice none 0 0] tSt)).heap.size = w.heap.size + 1 := by simp
  rw [s1] at e0
  have e1 := ((kept_alloc (Keeps.refl (w.alloc (.cells #[.int .i64 0, .int .i64 0, .slice none 0 0] tSt))) (.cells #[.int .i64 1, .int .i64 1, .int .i64 8] tRj)).block w.heap.size (by simp)).trans (heap_alloc_new w (.cells #[.int .i64 0, .int .i64 0, .slice none 0 0] tSt))
  obtain ⟨⟨a0, a1, a2⟩, _⟩ := three_atG e1
  obtain ⟨⟨b0, b1, b2⟩, _⟩ := three_atG e0
  exact bodyPost_ret (v := .tuple #[.agg #[.int .i64 0, .int .i64 0, .slice none 0 0], .agg #[.int .i64 1, .int .i64 1, .int .i64 8]]) (by simp [results, Tryz.results8, go_sem, a0, a1, a2, b0, b1, b2]) rfl (Or.inr ⟨1, 1, 8, E.out, rfl, kept_alloc (kept_alloc (Keeps.refl _) _) _⟩)
set_option maxHeartbeats 16000000 in
set_option maxRecDepth 100000 in
theorem sr_parse (s : ByteArray) (w : World) (hs : s.size ≤ maxLen) :
    Calls Tryz.prog 8 #[.string s] w (SetOut s.data.toList w) := by
  have HS := Lib.hid hs
  by_cases hbig : s.size ≤ 65536
  rotate_left
  · exact sr_parse_long s w hs hbig
  have HBG := Lib.hid hbig
  have C1 := Lib.hid (fun W => sr_lines s W hbig)
  unfold maxLen at hs
  go_enter Tryz.func8, Tryz.ntmps8
  go_wp2_with fail
  refine (C1.out _).mono ?_
  rintro e w1 ⟨N, pl, cl, rfl, hN, ho, k1⟩
  have HN := Lib.hid hN
  have HO := Lib.hid ho
  have K1 := Lib.hid k1
  have LR := Lib.hid (lines_read ho (b := w.heap.size + 1 + 1) (by simp))
  have B3 : Hid (w1.heap[w.heap.size]? = some (.cells #[.int .i64 0, .int .i64 0, .slice none 0 0] tSt (0, 0)) ∧ w1.heap[w.heap.size + 1]? = some (.cells #[.int .i64 0, .int .i64 0, .int .i64 0] tRj (0, 0)) ∧ w1.heap[w.heap.size + 1 + 1]? = some (.cells #[.int .i64 0, .int .i64 0, .slice none 0 0] tSt (0, 0)) ∧ Keeps w w1) := Lib.hid (by
    have s1 : (w.alloc zSt).heap.size = w.heap.size + 1 := by simp
    have s2 : ((w.alloc zSt).alloc zRj).heap.size = w.heap.size + 1 + 1 := by simp
    have n0 := heap_alloc_new w zSt
    have n1 := heap_alloc_new (w.alloc zSt) zRj
    have n2 := heap_alloc_new ((w.alloc zSt).alloc zRj) zSt
    rw [s1] at n1
    rw [s2] at n2
    have k2 := kept_alloc (Keeps.refl (w.alloc zSt)) zRj
    have k3 := kept_alloc (Keeps.refl ((w.alloc zSt).alloc zRj)) zSt
    exact ⟨(k1.block _ (by simp <;> omega)).trans ((k3.block _ (by simp <;> omega)).trans ((k2.block _ (by simp)).trans n0)), (k1.block _ (by simp <;> omega)).trans ((k3.block _ (by simp)).trans n1), (k1.block _ (by simp)).trans n2, (kept_alloc (kept_alloc (kept_alloc (Keeps.refl w) _) _) _).trans k1⟩)
  have NS : Hid (∀ l ∈ linesL s.data.toList, 1 ≤ l.length ∧ l.length ≤ 65536) := Lib.hid fun l hl => by
    have e := lines_flat _ s.data.toList (Nat.le_refl _)
    have h2 := congrArg List.length e
    rw [len_data] at h2
    have h3 : l.length ≤ (linesL s.data.toList).flatten.length := (List.sublist_flatten_of_mem hl).length_le
    exact ⟨line_pos _ _ (Nat.le_refl _) l hl, by as_aux_lemma => (omega)⟩
  have HLE : Hid (N ≤ 65536) := Lib.hid (by have := lines_count _ s.data.toList (Nat.le_refl _); rw [len_data] at this; omega)
  clear hN ho k1 C1
  go_wp2_with fail
  go_loopg [6, 7] N (fun g v6 v7 W => ParR w w1 (linesL s.data.toList) N g v6 v7 W)
  case atStart => exact ⟨0, 0, st0, [], none, 0, by as_aux_lemma => (omega), rfl, rfl, rfl, Or.inl ⟨rfl, rfl, rfl, rfl⟩, rfl, rfl, B3.out.2.2.1, rowK.own_nil _ _, QK.refl _ _, B3.out.2.2.2⟩
  case round =>
    obtain ⟨i, n', st, pre, p', c', hi, rfl, rfl, hn, hinv, hrun, hlen, hbk, hown, hqk, hw⟩ := hrel
    have HI := Lib.hid hi
    have HNI := Lib.hid hn
    have HINV := Lib.hid hinv
    have HRUN := Lib.hid hrun
    have HLEN := Lib.hid hlen
    have HBK := Lib.hid hbk
    have HOWN := Lib.hid hown
    have HQK := Lib.hid hqk
    have HW := Lib.hid hw
    obtain ⟨⟨z0, z1, z2⟩, f0, f1, f2⟩ := three_atG hbk
    clear hn hinv hrun hlen hbk hown hqk hw
    cases gk with
    | zero =>
      have hiN : i = N := by as_aux_lemma => (omega)
      have hd : decide ((i : Int) < (N : Int)) = false := decide_eq_false (by as_aux_lemma => (omega))
      have PM : Hid (parseM s.data.toList = runL st []) := Lib.hid (by
        unfold parseM
        rw [if_neg (by as_aux_lemma => (rw [len_data]; have := HBG.out; omega)), HRUN.out, List.drop_eq_nil_of_le (by as_aux_lemma => (have := HN.out; omega))])
      have HIN := Lib.hid hiN
      have HB0 := Lib.hid ((HQK.out.same w.heap.size (Array.getElem?_eq_some_iff.1 B3.out.1).1 (by as_aux_lemma => (omega))).trans B3.out.1)
      have HB1 := Lib.hid ((HQK.out.same (w.heap.size + 1) (Array.getElem?_eq_some_iff.1 B3.out.2.1).1 (by as_aux_lemma => (omega))).trans B3.out.2.1)
      obtain ⟨⟨y0, y1, y2⟩, g0, g1, g2⟩ := three_atG HB0.out
      obtain ⟨⟨r0, r1, r2⟩, d0, d1, d2⟩ := three_atG HB1.out
      have wN : wrap64 ((N : Int) + 1) = (N : Int) + 1 := i64w (by as_aux_lemma => (unfold top; omega)) (by as_aux_lemma => (unfold top; have := HLE.out; omega))
      obtain ⟨en, hen⟩ : ∃ b, st.ended = b := ⟨_, rfl⟩
      have HEN := Lib.hid hen
      rw [hen]
      clear hen hiN
      cases en with
      | false =>
        have E : Hid (parseM s.data.toList = .error (N + 1, 1, 7)) := Lib.hid (by rw [PM.out, runL, HEN.out, if_neg (by simp), HNI.out, HIN.out])
        go_wp2
        obtain ⟨⟨e0, e1, e2⟩, e3, e4, e5⟩ := six_set HB0.out HB1.out (.int .i64 0) (.int .i64 0) (.slice none 0 0) (.int .i64 ((N : Int) + 1)) (.int .i64 1) (.int .i64 7)
        exact bodyPost_ret (v := .tuple #[.agg #[.int .i64 0, .int .i64 0, .slice none 0 0], .agg #[.int .i64 ((N : Int) + 1), .int .i64 1, .int .i64 7]]) (by simp [results, Tryz.results8, go_sem, e0, e1, e2, e3, e4, e5]) rfl (Or.inr ⟨N + 1, 1, 7, E.out, rfl, six_keeps HW.out (Nat.le_refl _) _ _ _ _ _ _⟩)
      | true =>
        have E : Hid (parseM s.data.toList = .ok (st.seq, st.rows)) := Lib.hid (by rw [PM.out, runL, HEN.out, if_pos rfl])
        have LE : Hid (st.rows.length ≤ 400) := Lib.hid (by
          rcases HINV.out with ⟨_, h, _⟩ | ⟨_, h, _⟩
          · rw [h]; simp
          · exact h.good.len)
        go_wp2
        obtain ⟨⟨e0, e1, e2⟩, e3, e4, e5⟩ := six_set HB0.out HB1.out (.int .i64 0) (.int .i64 st.seq) (.slice p' n' c') (.int .i64 0) (.int .i64 0) (.int .i64 0)
        have O6 : Hid (rowK.Own w1.heap.size (sixW wr w.heap.size (.int .i64 0) (.int .i64 st.seq) (.slice p' n' c') (.int .i64 0) (.int .i64 0) (.int .i64 0)) (.slice p' n' c') st.rows) := Lib.hid (by
          have l0 : w.heap.size < w1.heap.size := (Array.getElem?_eq_some_iff.1 B3.out.1).1
          have l1 : w.heap.size + 1 < w1.heap.size := (Array.getElem?_eq_some_iff.1 B3.out.2.1).1
          exact own_set (own_set (own_set (own_set (own_set (own_set HOWN.out l0 _) l0 _) l0 _) l1 _) l1 _) l1 _)
        exact bodyPost_ret (v := .tuple #[.agg #[.int .i64 0, .int .i64 st.seq, .slice p' n' c'], .agg #[.int .i64 0, .int .i64 0, .int .i64 0]]) (by simp [results, Tryz.results8, go_sem, e0, e1, e2, e3, e4, e5]) rfl (Or.inl ⟨st.seq, st.rows, .slice p' n' c', E.out, rfl, own_rows O6.out (by as_aux_lemma => (have := LE.out; omega)), six_keeps HW.out (Nat.le_refl _) _ _ _ _ _ _⟩)
    | succ g =>
      have hlt : i < N := by as_aux_lemma => (omega)
      obtain ⟨l, hl⟩ : ∃ l, (linesL s.data.toList)[i]? = some l := ⟨_, List.getElem?_eq_getElem (by as_aux_lemma => (have := HN.out; omega))⟩
      have HL := Lib.hid hl
      obtain ⟨hl1, hl2⟩ := NS.out l (List.mem_of_getElem? hl)
      obtain ⟨a, rfl, hc⟩ := LR.out wr HQK.out i l hl
      obtain ⟨S, hS⟩ : ∃ S : ByteArray, ⟨l.toArray⟩ = S := ⟨_, rfl⟩
      unfold sv at hc
      rw [hS] at hc
      have HS2 : Hid (S.data.toList = l) := Lib.hid (by rw [← hS, data_mk])
      have hsz : S.size = l.length := by rw [← hS, size_mk]
      obtain ⟨m, hm⟩ : ∃ m, S.size - 1 = m := ⟨_, rfl⟩
      have m1 : (S.size : Int) - 1 = (m : Int) := by as_aux_lemma => (omega)
      have m2 : m < S.size := by as_aux_lemma => (omega)
      have m3 : m ≤ S.size := by as_aux_lemma => (omega)
      have hss : S.size ≤ 65536 := by as_aux_lemma => (omega)
      have wm : wrap64 (m : Int) = (m : Int) := i64w (by as_aux_lemma => (unfold top; omega)) (by as_aux_lemma => (unfold top; omega))
      have hi1 : (i : Int) < (N : Int) := by as_aux_lemma => (omega)
      have hi0 : (0 : Int) ≤ (i : Int) := by as_aux_lemma => (omega)
      obtain ⟨wb, hwb⟩ : ∃ b, wholeB l = b := ⟨_, rfl⟩
      have hlast : l.getLast? = some (S[m]'m2) := by
        rw [List.getLast?_eq_getElem?, ← hsz, hm, ← HS2.out, List.getElem?_eq_getElem (by rw [len_data]; exact m2)]
        rfl
      have t : (((S[m]'m2).toNat : Int) == 10) = wb := by
        rw [← hwb]
        unfold wholeB
        rw [hlast, Bool.eq_iff_iff, beq_iff_eq, beq_iff_eq, Option.some.injEq]
        exact ⟨fun e => UInt8.toNat.inj (by as_aux_lemma => (show (S[m]'m2).toNat = 10; omega)), fun e => by rw [e]; rfl⟩
      obtain ⟨Bd, hBd⟩ : ∃ B : ByteArray, B = ⟨(bodyOf l).toArray⟩ := ⟨_, rfl⟩
      have HBD : Hid (Bd.data.toList = bodyOf l) := Lib.hid (by rw [hBd, data_mk])
      have EX : Hid ((wb = true → S.extract 0 m = Bd) ∧ (wb = false → S = Bd)) := Lib.hid (by
        refine ⟨fun e => ?_, fun e => ?_⟩
        · apply bytes_inj
          have q : (S.extract 0 m).data.toList = (S.data.toList.drop 0).take (m - 0) := by rw [← extract_list, ByteArray.toList_eq]
          rw [HBD.out, q, HS2.out]
          unfold bodyOf
          rw [hwb, e, if_pos rfl, List.dropLast_eq_take, ← hsz, hm]
          simp
        · apply bytes_inj
          rw [HBD.out, HS2.out]
          unfold bodyOf
          rw [hwb, e, if_neg (by simp)])
      have HWB := Lib.hid hwb
      have HSZ := Lib.hid hsz
      have HM := Lib.hid hm
      clear hl hS hsz hm hwb hlast hBd hl1 hl2
      go_upto_if 41 with (fail)
      go_cut [8, 9] (fun v8 v9 wc => v8 = .string Bd ∧ v9 = .bool wb ∧ wc = wr)
      case first =>
        cases wb with
        | true =>
          have hx := EX.out.1 rfl
          go_wp2
          go_meet
          case rel => exact ⟨rfl, rfl, rfl⟩
        | false =>
          obtain rfl := EX.out.2 rfl
          go_wp2
          go_meet
          case rel => exact ⟨rfl, rfl, rfl⟩
      case rest =>
        obtain ⟨rfl, rfl, rfl⟩ := hcut
        obtain ⟨kk, hkk⟩ : ∃ k, kindOf (bodyOf l) = k := ⟨_, rfl⟩
        have HKK := Lib.hid hkk
        have KI : Hid ((∀ h : 0 < Bd.size, Bd[0]'h = kk) ∧ (¬ 0 < Bd.size → kk = 0)) := Lib.hid (by
          have e := HBD.out
          refine ⟨fun h => ?_, fun h => ?_⟩
          · rw [← hkk, ← e]
            have e2 : Bd.data.toList[0]? = some (Bd[0]'h) := by rw [List.getElem?_eq_getElem (by rw [len_data]; exact h)]; rfl
            unfold kindOf
            cases hq : Bd.data.toList with
            | nil => rw [hq] at e2; cases e2
            | cons c r => rw [hq] at e2; simp at e2; rw [← e2]; rfl
          · rw [← hkk, ← e]
            have : Bd.data.toList = [] := List.length_eq_zero_iff.1 (by as_aux_lemma => (rw [len_data]; omega))
            rw [this]
            rfl)
        clear hkk t m1 m2 m3 wm hss hc
        go_upto_if 49 with (fail)
        go_cut [10] (fun v10 wc2 => v10 = .int .u8 (kk.toNat : Int) ∧ wc2 = wc)
        case first =>
          by_cases h0 : 0 < Bd.size
          · have hk := KI.out.1 h0
            have hd0 : decide (0 < (Bd.size : Int)) = true := decide_eq_true (by as_aux_lemma => (omega))
            have hd1 : decide (0 < Bd.size) = true := decide_eq_true h0
            go_wp2
            go_meet
            case rel => exact ⟨by rw [← hk], rfl⟩
          · have hk := KI.out.2 h0
            have hd0 : decide (0 < (Bd.size : Int)) = false := decide_eq_false (by as_aux_lemma => (omega))
            have hd1 : decide (0 < Bd.size) = false := decide_eq_false h0
            go_wp2
            go_meet
            case rel => exact ⟨by rw [hk]; rfl, rfl⟩
        case rest =>
          obtain ⟨rfl, rfl⟩ := hcut
          have hb0 := (HQK.out.same w.heap.size (Array.getElem?_eq_some_iff.1 B3.out.1).1 (by as_aux_lemma => (omega))).trans B3.out.1
          have hb1 := (HQK.out.same (w.heap.size + 1) (Array.getElem?_eq_some_iff.1 B3.out.2.1).1 (by as_aux_lemma => (omega))).trans B3.out.2.1
          have HB0 := Lib.hid hb0
          have HB1 := Lib.hid hb1
          obtain ⟨⟨y0, y1, y2⟩, g0, g1, g2⟩ := three_atG hb0
          obtain ⟨⟨r0, r1, r2⟩, d0, d1, d2⟩ := three_atG hb1
          have DR : Hid ((linesL s.data.toList).drop i = l :: (linesL s.data.toList).drop (i + 1)) := Lib.hid (by
            obtain ⟨q1, q2⟩ := List.getElem?_eq_some_iff.1 HL.out
            rw [List.drop_eq_getElem_cons q1, q2])
          have ERR : Hid (∀ e, Stl.step st l = .error e → parseM s.data.toList = .error e) := Lib.hid fun e he => by
            unfold parseM
            rw [if_neg (by as_aux_lemma => (rw [len_data]; have := HBG.out; omega)), HRUN.out, DR.out, runL, he]
          have NEXT : Hid (∀ st', Stl.step st l = .ok st' → runL st0 (linesL s.data.toList) = runL st' ((linesL s.data.toList).drop (i + 1))) := Lib.hid fun st' he => by
            rw [HRUN.out, DR.out, runL, he]
          clear hb0 hb1
          obtain ⟨en, hen⟩ : ∃ b, st.ended = b := ⟨_, rfl⟩
          have HEN := Lib.hid hen
          rw [hen]
          obtain ⟨k72, t72⟩ : ∃ b, ((kk.toNat : Int) == 72) = b := ⟨_, rfl⟩
          obtain ⟨k68, t68⟩ : ∃ b, ((kk.toNat : Int) == 68) = b := ⟨_, rfl⟩
          obtain ⟨k84, t84⟩ : ∃ b, ((kk.toNat : Int) == 84) = b := ⟨_, rfl⟩
          have hkn : (kk = 72 ↔ k72 = true) ∧ (kk = 68 ↔ k68 = true) ∧ (kk = 84 ↔ k84 = true) := by
            refine ⟨?_, ?_, ?_⟩
            · rw [← t72, beq_iff_eq]
              exact ⟨fun e => by rw [e]; rfl, fun e => UInt8.toNat.inj (by as_aux_lemma => (show kk.toNat = 72; omega))⟩
            · rw [← t68, beq_iff_eq]
              exact ⟨fun e => by rw [e]; rfl, fun e => UInt8.toNat.inj (by as_aux_lemma => (show kk.toNat = 68; omega))⟩
            · rw [← t84, beq_iff_eq]
              exact ⟨fun e => by rw [e]; rfl, fun e => UInt8.toNat.inj (by as_aux_lemma => (show kk.toNat = 84; omega))⟩
          have HKN := Lib.hid hkn
          obtain ⟨bad, hbad⟩ : ∃ b, (en || (decide (i = 0) && !k72) || (decide (0 < i) && !k68 && !k84)) = b := ⟨_, rfl⟩
          have HB2 := Lib.hid hbad
          have HBAD : Hid (bad = true ↔ (st.ended = true ∨ (i = 0 ∧ kk ≠ 72) ∨ (0 < i ∧ kk ≠ 68 ∧ kk ≠ 84))) := Lib.hid (by
            have n72 : kk ≠ 72 ↔ k72 = false := by rw [Ne, hkn.1]; simp
            have n68 : kk ≠ 68 ↔ k68 = false := by rw [Ne, hkn.2.1]; simp
            have n84 : kk ≠ 84 ↔ k84 = false := by rw [Ne, hkn.2.2]; simp
            rw [← hbad, hen, n72, n68, n84]
            simp [or_assoc, and_assoc])
          have v72 : ((kk.toNat : Int) != 72) = !k72 := by rw [bne, t72]
          have v68 : ((kk.toNat : Int) != 68) = !k68 := by rw [bne, t68]
          have v84 : ((kk.toNat : Int) != 84) = !k84 := by rw [bne, t84]
          have wi : wrap64 ((i : Int) + 1) = (i : Int) + 1 := i64w (by as_aux_lemma => (unfold top; omega)) (by as_aux_lemma => (unfold top; have := HLE.out; omega))
          clear hbad hkn hen
          go_upto_region 15 with (fail)
          go_cut [72] (fun v72 wc2 => v72 = .bool bad ∧ wc2 = wc)
          case first =>
           as_aux_lemma =>
            rcases Nat.eq_zero_or_pos i with h0 | h0
            · have e0 : ((i : Int) == 0) = true := by rw [h0]; rfl
              have e1 : decide (0 < (i : Int)) = false := decide_eq_false (by as_aux_lemma => (omega))
              have e2 : decide (0 < i) = false := decide_eq_false (by as_aux_lemma => (omega))
              have HI0 := Lib.hid h0
              clear h0
              cases en <;> cases k72
              all_goals
                go_wp2
                go_meet
                case rel => exact ⟨by rw [← HB2.out]; simp [HI0.out], rfl⟩
            · have e0 : ((i : Int) == 0) = false := by as_aux_lemma => (rw [beq_eq_false_iff_ne]; omega)
              have e1 : decide (0 < (i : Int)) = true := decide_eq_true (by as_aux_lemma => (omega))
              have e2 : decide (0 < i) = true := decide_eq_true h0
              have e3 : decide (i = 0) = false := decide_eq_false (by as_aux_lemma => (omega))
              have HI0 := Lib.hid h0
              clear h0
              cases en <;> cases k68 <;> cases k84
              all_goals
                go_wp2
                go_meet
                case rel => exact ⟨by rw [← HB2.out]; simp [HI0.out, Nat.ne_of_gt HI0.out], rfl⟩
          case rest =>
            obtain ⟨rfl, rfl⟩ := hcut
            cases bad with
            | true =>
              have E : Hid (parseM s.data.toList = .error (i + 1, 1, 7)) := Lib.hid (ERR.out _ (by unfold Stl.step; rw [HKK.out, HNI.out, if_pos (HBAD.out.1 rfl)]))
              go_wp2
              obtain ⟨⟨e0, e1, e2⟩, e3, e4, e5⟩ := six_set HB0.out HB1.out (.int .i64 0) (.int .i64 0) (.slice none 0 0) (.int .i64 ((i : Int) + 1)) (.int .i64 1) (.int .i64 7)
              exact bodyPost_ret (v := .tuple #[.agg #[.int .i64 0, .int .i64 0, .slice none 0 0], .agg #[.int .i64 ((i : Int) + 1), .int .i64 1, .int .i64 7]]) (by simp [results, Tryz.results8, go_sem, e0, e1, e2, e3, e4, e5]) rfl (Or.inr ⟨i + 1, 1, 7, E.out, rfl, six_keeps HW.out (Nat.le_refl _) _ _ _ _ _ _⟩)
            | false =>
              have NB : ¬ (st.ended = true ∨ (i = 0 ∧ kk ≠ 72) ∨ (0 < i ∧ kk ≠ 68 ∧ kk ≠ 84)) := fun h => by have := HBAD.out.2 h; cases this
              have ST : Hid (Stl.step st l = if (Fix.pa (widthsOf kk) (bodyOf l)).2 ≠ 0 then .error (i + 1, (Fix.pa (widthsOf kk) (bodyOf l)).2, 1) else if wb = false then .error (i + 1, (bodyOf l).length + 1, 1) else if kk = 72 then (if (headC (Fix.pa wH (bodyOf l)).1).1 ≠ 0 then .error (i + 1, headC (Fix.pa wH (bodyOf l)).1) else .ok ⟨i + 1, numI (fa (Fix.pa wH (bodyOf l)).1 2) 10, st.rows, false⟩) else if kk = 68 then (if (rowC (Fix.pa wD (bodyOf l)).1 st.rows).1 ≠ 0 then .error (i + 1, rowC (Fix.pa wD (bodyOf l)).1 st.rows) else .ok ⟨i + 1, st.seq, st.rows ++ [rowR (Fix.pa wD (bodyOf l)).1], false⟩) else (if (trailC (Fix.pa wT (bodyOf l)).1 st.rows).1 ≠ 0 then .error (i + 1, trailC (Fix.pa wT (bodyOf l)).1 st.rows) else .ok ⟨i + 1, st.seq, st.rows, true⟩)) := Lib.hid (by unfold Stl.step; rw [HKK.out, HNI.out, HWB.out, if_neg NB])
              have KIND : (i = 0 ∧ kk = 72) ∨ (0 < i ∧ kk = 68) ∨ (0 < i ∧ kk = 84) := by
                rcases Nat.eq_zero_or_pos i with h | h
                · exact Or.inl ⟨h, Classical.byContradiction fun e => NB (Or.inr (Or.inl ⟨h, e⟩))⟩
                · by_cases a : kk = 68
                  · exact Or.inr (Or.inl ⟨h, a⟩)
                  · exact Or.inr (Or.inr ⟨h, Classical.byContradiction fun b => NB (Or.inr (Or.inr ⟨h, a, b⟩))⟩)
              have hen : en = false := by
                rw [← HEN.out]
                cases hb : st.ended with
                | false => rfl
                | true => exact absurd (Or.inl hb) NB
              subst hen
              have BSZ : Hid (Bd.size ≤ 65536) := Lib.hid (by
                have e := congrArg List.length HBD.out
                rw [len_data] at e
                have h1 := body_le l
                have h2 := (NS.out l (List.mem_of_getElem? HL.out)).2
                omega)
              have KND := Lib.hid KIND
              have W0 := Lib.hid (lay_ints (w' := wc) (cs := #[.int .i64 1, .int .i64 8, .int .i64 10]) (r := wH) 3 rfl rfl rfl (by simp [maxLen, wH]))
              have W1 := Lib.hid (lay_ints (w' := wc.alloc (.cells #[.int .i64 1, .int .i64 8, .int .i64 10] 3)) (cs := #[.int .i64 1, .int .i64 4, .int .i64 8, .int .i64 1, .int .i64 14]) (r := wD) 3 (b := wc.heap.size + 1) (n := 5) (by simp) rfl rfl (by simp [maxLen, wD]))
              have W2 := Lib.hid (lay_ints (w' := wc.alloc (.cells #[.int .i64 1, .int .i64 8, .int .i64 10] 3)) (cs := #[.int .i64 1, .int .i64 6, .int .i64 16]) (r := wT) 3 (b := wc.heap.size + 1) (n := 3) (by simp) rfl rfl (by simp [maxLen, wT]))
              have KK : Hid ((kk = 72 ∧ k72 = true ∧ k68 = false ∧ k84 = false) ∨ (kk = 68 ∧ k72 = false ∧ k68 = true ∧ k84 = false) ∨ (kk = 84 ∧ k72 = false ∧ k68 = false ∧ k84 = true)) := Lib.hid (by
                have n72 : kk ≠ 72 → k72 = false := fun h => by rw [Ne, HKN.out.1] at h; simpa using h
                have n68 : kk ≠ 68 → k68 = false := fun h => by rw [Ne, HKN.out.2.1] at h; simpa using h
                have n84 : kk ≠ 84 → k84 = false := fun h => by rw [Ne, HKN.out.2.2] at h; simpa using h
                rcases KIND with ⟨_, h⟩ | ⟨_, h⟩ | ⟨_, h⟩
                · exact Or.inl ⟨h, HKN.out.1.1 h, n68 (by rw [h]; decide), n84 (by rw [h]; decide)⟩
                · exact Or.inr (Or.inl ⟨h, n72 (by rw [h]; decide), HKN.out.2.1.1 h, n84 (by rw [h]; decide)⟩)
                · exact Or.inr (Or.inr ⟨h, n72 (by rw [h]; decide), n68 (by rw [h]; decide), HKN.out.2.2.1 h⟩))
              clear NB v72 v68 v84 KIND
              go_upto_if 79 with (fail)
              go_cut [11] (fun v11 wc2 => IntsAt wc2 v11 (widthsOf kk) ∧ Keeps wc wc2)
              case first =>
                rcases KK.out with ⟨hk, rfl, rfl, rfl⟩ | ⟨hk, rfl, rfl, rfl⟩ | ⟨hk, rfl, rfl, rfl⟩
                all_goals
                  have HK := Lib.hid hk
                  clear hk
                  go_wp2
                  go_meet
                · have e : widthsOf kk = wH := by rw [HK.out]; decide
                  rw [e]
                  exact ⟨W0.out, ky_box _ _⟩
                · have e : widthsOf kk = wD := by rw [HK.out]; decide
                  rw [e]
                  exact ⟨W1.out, (ky_box _ _).trans (ky_box _ _)⟩
                · have e : widthsOf kk = wT := by rw [HK.out]; decide
                  rw [e]
                  exact ⟨W2.out, (ky_box _ _).trans (ky_box _ _)⟩
              case rest =>
                obtain ⟨hints, kc⟩ := hcut
                have CP := Lib.hid (rfparse_any _ (widthsOf kk) Bd _ hints (by as_aux_lemma => (have := BSZ.out; unfold maxLen; omega)))
                have KC := Lib.hid kc
                clear hints kc W0 W1 W2
                go_wp2_with fail
                refine CP.out.mono ?_
                rintro e w3 ⟨k3, vf, col, rfl, hcol, hstr⟩
                rw [HBD.out] at hcol hstr
                have K3 := Lib.hid (KC.out.trans k3)
                have HCOL := Lib.hid hcol
                have HSTR := Lib.hid hstr
                have BX := Lib.hid ((K3.out.block _ (Array.getElem?_eq_some_iff.1 HBK.out).1).trans HBK.out)
                have OX := Lib.hid (rowK.own_keeps HOWN.out K3.out)
                have QX := Lib.hid (HQK.out.keeps K3.out)
                have WX := Lib.hid (HW.out.trans K3.out)
                clear k3 hcol hstr CP KC
                obtain ⟨cb, hcb⟩ : ∃ b, decide (col = 0) = b := ⟨_, rfl⟩
                have HCB := Lib.hid hcb
                have tc : ((col : Int) == 0) = cb := by
                  rw [← hcb, Bool.eq_iff_iff, beq_iff_eq, decide_eq_true_eq]
                  omega
                clear hcb
                go_upto_region 24 with (fail)
                go_cut [95] (fun v95 wc2 => v95 = .bool (cb && !wb) ∧ wc2 = w3)
                case first =>
                  cases cb <;> cases wb
                  all_goals
                    go_wp2
                    go_meet
                    case rel => exact ⟨rfl, rfl⟩
                case rest =>
                  obtain ⟨rfl, rfl⟩ := hcut
                  go_upto_if 95 with (fail)
                  go_cut [6, 13, 14] (fun v6 v13 v14 W => TailR w w1 i st l v6 v13 v14 W)
                  case first =>
                    cases cb with
                    | false =>
                      have hc0 : (Fix.pa (widthsOf kk) (bodyOf l)).2 ≠ 0 := by rw [HCOL.out]; exact of_decide_eq_false HCB.out
                      have E := Lib.hid (ST.out.trans (if_pos hc0))
                      cases wb
                      all_goals
                        go_wp2
                        go_meet
                        case rel => exact Or.inr ⟨col, 1, by rw [E.out, HCOL.out], Nat.pos_of_ne_zero (of_decide_eq_false HCB.out), rfl, rfl, QX.out, WX.out⟩
                    | true =>
                      obtain rfl : col = 0 := of_decide_eq_true HCB.out
                      cases wb with
                      | false =>
                        have E := Lib.hid ((ST.out.trans (if_neg (by rw [HCOL.out]; simp))).trans (if_pos rfl))
                        have wb1 : wrap64 ((Bd.size : Int) + 1) = (Bd.size : Int) + 1 := i64w (by as_aux_lemma => (unfold top; omega)) (by as_aux_lemma => (unfold top; have := BSZ.out; omega))
                        have tb1 : ((Bd.size : Int) + 1 == 0) = false := by as_aux_lemma => (rw [beq_eq_false_iff_ne]; omega)
                        have EB : Hid ((bodyOf l).length = Bd.size) := Lib.hid (by rw [← HBD.out, len_data])
                        go_wp2
                        go_meet
                        case rel => exact Or.inr ⟨Bd.size + 1, 1, by rw [E.out, EB.out], by as_aux_lemma => (omega), rfl, rfl, QX.out, WX.out⟩
                      | true =>
                        have E := Lib.hid ((ST.out.trans (if_neg (by rw [HCOL.out]; simp))).trans (if_neg (by simp)))
                        rcases KK.out with ⟨hk, rfl, rfl, rfl⟩ | ⟨hk, rfl, rfl, rfl⟩ | ⟨hk, rfl, rfl, rfl⟩
                        · have HK := Lib.hid hk
                          have WW : Hid (widthsOf kk = wH) := Lib.hid (by rw [hk]; decide)
                          have E2 := Lib.hid (E.out.trans (if_pos hk))
                          have hcol0 : (Fix.pa wH (bodyOf l)).2 = 0 := by rw [← WW.out]; exact HCOL.out
                          obtain ⟨hsh, hln⟩ := pa_short okH (by decide) hcol0
                          obtain ⟨F, hF⟩ : ∃ F, (Fix.pa wH (bodyOf l)).1 = F := ⟨_, rfl⟩
                          rw [hF] at hsh hln E2
                          have hst : StrsAt wc vf F := by rw [← hF, ← WW.out]; exact HSTR.out
                          have CH := Lib.hid (sr_header vf F wc hst hln hsh)
                          obtain ⟨S2, q2, CN⟩ := sr_num (fa F 2) 10 (hsh 2)
                          obtain ⟨ad, cc, rfl, z3, z4, z5⟩ := strs_three hst hln
                          unfold sv at z5
                          rw [q2] at z5
                          have Z5 := Lib.hid z5
                          have CN2 := Lib.hid CN
                          have SH := Lib.hid hsh
                          obtain ⟨x, y, hxy⟩ : ∃ x y, headC F = (x, y) := ⟨_, _, rfl⟩
                          rw [hxy] at CH E2
                          clear hk hcol0 hF hst q2 CN z3 z4 z5 hsh
                          go_wp2_with fail
                          refine CH.out.mono ?_
                          rintro e w4 ⟨rfl, k4⟩
                          have K4 := Lib.hid k4
                          have z5 := cell_keeps k4 Z5.out
                          have hbx := (K4.out.block _ (Array.getElem?_eq_some_iff.1 BX.out).1).trans BX.out
                          have BX4 := Lib.hid hbx
                          obtain ⟨⟨zz0, zz1, zz2⟩, ff0, ff1, ff2⟩ := three_atG hbx
                          clear k4 CH hxy hbx
                          by_cases hx0 : x = 0
                          rotate_left
                          · have tx : ((x : Int) == 0) = false := by as_aux_lemma => (rw [beq_eq_false_iff_ne]; omega)
                            have E3 := Lib.hid (E2.out.trans (if_pos hx0))
                            have HX0 := Lib.hid (Nat.pos_of_ne_zero hx0)
                            clear hx0
                            go_wp2
                            go_meet
                            case rel => exact Or.inr ⟨x, y, E3.out, HX0.out, rfl, rfl, QX.out.keeps K4.out, WX.out.trans K4.out⟩
                          · subst hx0
                            have E3 := Lib.hid (E2.out.trans (if_neg (by simp)))
                            go_wp2_with fail
                            refine (CN2.out _).mono ?_
                            rintro e w5 ⟨rfl, k5⟩
                            have K5 := Lib.hid (K4.out.trans k5)
                            have hbx := (k5.block _ (Array.getElem?_eq_some_iff.1 BX4.out).1).trans BX4.out
                            have BX5 := Lib.hid hbx
                            clear zz0 zz1 zz2 ff0 ff1 ff2
                            obtain ⟨⟨zz0, zz1, zz2⟩, ff0, ff1, ff2⟩ := three_atG hbx
                            clear k5 hbx CN2
                            go_wp2
                            go_meet
                            case rel => exact Or.inl ⟨_, n', p', c', E3.out, rfl, rfl, HLEN.out, Joins.block_setCell (i := 1) BX5.out _, own_set (rowK.own_keeps OX.out K5.out) (Array.getElem?_eq_some_iff.1 B3.out.2.2.1).1 _, (QX.out.keeps K5.out).set _, (WX.out.trans K5.out).setCell (p := ⟨w.heap.size + 1 + 1, 1, none⟩) (by simp <;> omega) _⟩
                        · have HK := Lib.hid hk
                          have WW : Hid (widthsOf kk = wD) := Lib.hid (by rw [hk]; decide)
                          have E2 := Lib.hid ((E.out.trans (if_neg (by rw [hk]; decide))).trans (if_pos hk))
                          have hcol0 : (Fix.pa wD (bodyOf l)).2 = 0 := by rw [← WW.out]; exact HCOL.out
                          obtain ⟨hsh, hln⟩ := pa_short okD (by decide) hcol0
                          obtain ⟨F, hF⟩ : ∃ F, (Fix.pa wD (bodyOf l)).1 = F := ⟨_, rfl⟩
                          rw [hF] at hsh hln E2
                          have hst : StrsAt wc vf F := by rw [← hF, ← WW.out]; exact HSTR.out
                          have VA : Hid (st.rows.length ≤ 400 ∧ ∀ x ∈ st.rows, Row1 0 x) := Lib.hid (by
                            rcases HINV.out with ⟨_, h, _⟩ | ⟨_, h, _⟩
                            · rw [h]; simp
                            · exact ⟨h.good.len, h.good.each⟩)
                          have CH := Lib.hid (sr_detail vf (.slice p' n' c') F st.rows wc hst hln hsh (own_rows OX.out (by as_aux_lemma => (have := VA.out.1; omega))) VA.out.1)
                          obtain ⟨x, y, hxy⟩ : ∃ x y, rowC F st.rows = (x, y) := ⟨_, _, rfl⟩
                          have HXY := Lib.hid hxy
                          rw [hxy] at E2
                          obtain ⟨⟨zz0, zz1, zz2⟩, ff0, ff1, ff2⟩ := three_atG BX.out
                          clear hk hcol0 hF hst hsh hxy
                          go_wp2_with fail
                          refine CH.out.mono ?_
                          rintro e w4 ⟨rr, rfl, hrr, k4⟩
                          rw [HXY.out] at hrr ⊢
                          have HRR := Lib.hid hrr
                          have K4 := Lib.hid k4
                          have BX4 := Lib.hid ((K4.out.block _ (Array.getElem?_eq_some_iff.1 BX.out).1).trans BX.out)
                          clear k4 CH zz0 zz1 zz2 ff0 ff1 ff2 hrr
                          unfold rwV
                          go_upto_region 33 with (fail)
                          have RB := heap_alloc_new w4 (.cells #[.int .i64 rr.o, .int .i64 rr.d, .int .i64 rr.c, .int .i64 rr.a, .int .i64 rr.q] tRw)
                          have K6 := Lib.hid (K4.out.trans (ky_box w4 (.cells #[.int .i64 rr.o, .int .i64 rr.d, .int .i64 rr.c, .int .i64 rr.a, .int .i64 rr.q] tRw)))
                          have SZ : Hid (wc.heap.size ≤ w4.heap.size) := Lib.hid K4.out.size
                          have OFF : Hid (∀ j, (Value.slice p' n' c').ownBlock = some j → w1.heap.size ≤ j ∧ j < wc.heap.size) := Lib.hid fun j hj => rowK.own_lt OX.out j hj
                          have TLT : Hid (w.heap.size + 1 + 1 < w1.heap.size) := Lib.hid (Array.getElem?_eq_some_iff.1 B3.out.2.2.1).1
                          obtain ⟨wN, hwN⟩ : ∃ W, w4.alloc (.cells #[.int .i64 rr.o, .int .i64 rr.d, .int .i64 rr.c, .int .i64 rr.a, .int .i64 rr.q] tRw) = W := ⟨_, rfl⟩
                          have SN : Hid (w4.heap.size < wN.heap.size) := Lib.hid (by rw [← hwN]; simp)
                          rw [hwN] at RB K6 ⊢
                          clear hwN
                          have BN := Lib.hid ((K6.out.block _ (Array.getElem?_eq_some_iff.1 BX.out).1).trans BX.out)
                          have ON := Lib.hid (rowK.own_keeps OX.out K6.out)
                          obtain ⟨⟨zz0, zz1, z2⟩, ff0, ff1, f2⟩ := three_atG BN.out
                          have v0 := Joins.cell_of_block RB 0
                          have v1 := Joins.cell_of_block RB 1
                          have v2 := Joins.cell_of_block RB 2
                          have v3 := Joins.cell_of_block RB 3
                          have v4 := Joins.cell_of_block RB 4
                          simp at v0 v1 v2 v3 v4
                          clear zz0 zz1 ff0 ff1 f2
                          obtain ⟨p5, c5, w5, R1, R2, R3⟩ := rowK.app_row (wN.alloc (.cells #[.int .i64 rr.o, .int .i64 rr.d, .int .i64 rr.c, .int .i64 rr.a, .int .i64 rr.q] tRw)) w1.heap.size (.slice p' n' c') st.rows (.slice (some ⟨wN.heap.size, 0, none⟩) 1 1) [rr] (rowK.own_keeps ON.out (ky_box wN _)) (rsrc_row (heap_alloc_new _ _)) (by as_aux_lemma => (have := VA.out.1; simp; omega)) (by as_aux_lemma => (simp; have := QX.out.size; have := SZ.out; have := SN.out; omega))
                          rw [List.length_singleton, HLEN.out] at R1 R2
                          have HR : Hid ((Builtin.append_ #[rowK.ts, rowK.ts] rowK.ts #[.slice p' n' c', .slice (some ⟨wN.heap.size, 0, none⟩) 1 1]).run Tryz.prog (wN.alloc (.cells #[.int .i64 rr.o, .int .i64 rr.d, .int .i64 rr.c, .int .i64 rr.a, .int .i64 rr.q] tRw)) = .ok (.slice p5 (n' + 1) c5) w5) := Lib.hid R1
                          have hb5 := (R3.block (w.heap.size + 1 + 1) (by as_aux_lemma => (simp; have := QX.out.size; have := SZ.out; have := SN.out; have := TLT.out; omega)) (fun e => by as_aux_lemma => (have := OFF.out _ e.symm; have := TLT.out; omega))).trans (Eq.trans ((ky_box wN _).block _ (Array.getElem?_eq_some_iff.1 BN.out).1) BN.out)
                          have L5 := Lib.hid (mono_grown' (WX.out.trans (K6.out.trans (ky_box wN _))) R3 (fun j hj => by as_aux_lemma => (have := (OFF.out j hj).1; have := TLT.out; omega)))
                          have Q5 := Lib.hid ((QX.out.keeps (K6.out.trans (ky_box wN _))).grown R3 (fun j hj => (OFF.out j hj).1))
                          have f5 := Joins.unfrozen_of_block hb5 2
                          have cc5 := Joins.cell_of_block hb5 2
                          have BX5 := Lib.hid (Joins.block_setCell (i := 2) hb5 (.slice p5 (n' + 1) c5))
                          have OX5 := Lib.hid (own_set (i := 2) R2 TLT.out (.slice p5 (n' + 1) c5))
                          have QX5 := Lib.hid (Q5.out.set (i := 2) (.slice p5 (n' + 1) c5))
                          have KX5 := Lib.hid (L5.out.setCell (p := ⟨w.heap.size + 1 + 1, 2, none⟩) (by simp <;> omega) (.slice p5 (n' + 1) c5))
                          clear R1 R2 R3 hb5
                          by_cases hx0 : x = 0
                          · subst hx0
                            have E3 := Lib.hid (E2.out.trans (if_neg (by simp)))
                            have ER := Lib.hid (HRR.out rfl)
                            go_wp2_with (at_builtin; refine wpAppKnown rfl _ _ _ _ rfl _ _ _ _ rfl rfl HR.out ?_)
                            go_meet
                            case rel => exact Or.inl ⟨_, n' + 1, p5, c5, E3.out, rfl, rfl, by rw [List.length_append, HLEN.out]; rfl, BX5.out, by rw [← ER.out]; exact OX5.out, QX5.out, KX5.out⟩
                          · have E3 := Lib.hid (E2.out.trans (if_pos hx0))
                            have HX0 := Lib.hid (Nat.pos_of_ne_zero hx0)
                            clear hx0
                            go_wp2_with (at_builtin; refine wpAppKnown rfl _ _ _ _ rfl _ _ _ _ rfl rfl HR.out ?_)
                            go_meet
                            case rel => exact Or.inr ⟨x, y, E3.out, HX0.out, rfl, rfl, QX5.out, KX5.out⟩
                        · have HK := Lib.hid hk
                          have WW : Hid (widthsOf kk = wT) := Lib.hid (by rw [hk]; decide)
                          have E2 := Lib.hid ((E.out.trans (if_neg (by rw [hk]; decide))).trans (if_neg (by rw [hk]; decide)))
                          have hcol0 : (Fix.pa wT (bodyOf l)).2 = 0 := by rw [← WW.out]; exact HCOL.out
                          obtain ⟨hsh, hln⟩ := pa_short okT (by decide) hcol0
                          obtain ⟨F, hF⟩ : ∃ F, (Fix.pa wT (bodyOf l)).1 = F := ⟨_, rfl⟩
                          rw [hF] at hsh hln E2
                          have hst : StrsAt wc vf F := by rw [← hF, ← WW.out]; exact HSTR.out
                          have VA : Hid (st.rows.length ≤ 400 ∧ ∀ x ∈ st.rows, Row1 0 x) := Lib.hid (by
                            rcases HINV.out with ⟨_, h, _⟩ | ⟨_, h, _⟩
                            · rw [h]; simp
                            · exact ⟨h.good.len, h.good.each⟩)
                          have CH := Lib.hid (sr_trailer vf (.slice p' n' c') F st.rows wc hst hln hsh (own_rows OX.out (by as_aux_lemma => (have := VA.out.1; omega))) VA.out.2 VA.out.1)
                          obtain ⟨x, y, hxy⟩ : ∃ x y, trailC F st.rows = (x, y) := ⟨_, _, rfl⟩
                          rw [hxy] at CH E2
                          obtain ⟨⟨zz0, zz1, zz2⟩, ff0, ff1, ff2⟩ := three_atG BX.out
                          clear hk hcol0 hF hst hsh
                          go_wp2_with fail
                          refine CH.out.mono ?_
                          rintro e w4 ⟨rfl, k4⟩
                          have K4 := Lib.hid k4
                          have BX4 := Lib.hid ((K4.out.block _ (Array.getElem?_eq_some_iff.1 BX.out).1).trans BX.out)
                          clear k4 CH hxy zz0 zz1 zz2 ff0 ff1 ff2
                          by_cases hx0 : x = 0
                          rotate_left
                          · have E3 := Lib.hid (E2.out.trans (if_pos hx0))
                            have HX0 := Lib.hid (Nat.pos_of_ne_zero hx0)
                            clear hx0
                            go_wp2
                            go_meet
                            case rel => exact Or.inr ⟨x, y, E3.out, HX0.out, rfl, rfl, QX.out.keeps K4.out, WX.out.trans K4.out⟩
                          · subst hx0
                            have E3 := Lib.hid (E2.out.trans (if_neg (by simp)))
                            go_wp2
                            go_meet
                            case rel => exact Or.inl ⟨_, n', p', c', E3.out, rfl, rfl, HLEN.out, BX4.out, rowK.own_keeps OX.out K4.out, QX.out.keeps K4.out, WX.out.trans K4.out⟩
                  case rest =>
                    have TR := Lib.hid hcut
                    rcases TR.out with ⟨st', n2, p2, c2, e1, rfl, rfl, e2, e3, e4, e5, e6⟩ | ⟨a, b, e1, h0, rfl, rfl, q, k⟩
                    · have E1 := Lib.hid e1
                      have E2 := Lib.hid e2
                      have E3 := Lib.hid e3
                      have E4 := Lib.hid e4
                      have E5 := Lib.hid e5
                      have E6 := Lib.hid e6
                      clear e1 e2 e3 e4 e5 e6
                      go_wp2_with fail
                      go_roundg g
                      case measure => omega
                      case rel => exact ⟨i + 1, n2, st', pre ++ l, p2, c2, by as_aux_lemma => (have := HI.out; omega), rfl, by rw [wi]; rfl, by rw [step_n E1.out, HNI.out], step_inv E1.out HINV.out, NEXT.out _ E1.out, E2.out, E3.out, E4.out, E5.out, E6.out⟩
                    · have E : Hid (parseM s.data.toList = .error (i + 1, a, b)) := Lib.hid (ERR.out _ e1)
                      have Q1 := Lib.hid q
                      have K1' := Lib.hid k
                      have ha : (0 : Int) < (a : Int) := by as_aux_lemma => (omega)
                      have hda : decide ((0 : Int) < (a : Int)) = true := decide_eq_true ha
                      have HB0' := Lib.hid ((q.same w.heap.size (Array.getElem?_eq_some_iff.1 B3.out.1).1 (by as_aux_lemma => (omega))).trans B3.out.1)
                      have HB1' := Lib.hid ((q.same (w.heap.size + 1) (Array.getElem?_eq_some_iff.1 B3.out.2.1).1 (by as_aux_lemma => (omega))).trans B3.out.2.1)
                      clear y0 y1 y2 g0 g1 g2 r0 r1 r2 d0 d1 d2
                      obtain ⟨⟨y0, y1, y2⟩, g0, g1, g2⟩ := three_atG HB0'.out
                      obtain ⟨⟨r0, r1, r2⟩, d0, d1, d2⟩ := three_atG HB1'.out
                      clear e1 q k h0
                      go_wp2
                      obtain ⟨⟨e0, e1, e2⟩, e3, e4, e5⟩ := six_set HB0'.out HB1'.out (.int .i64 0) (.int .i64 0) (.slice none 0 0) (.int .i64 ((i : Int) + 1)) (.int .i64 (a : Int)) (.int .i64 b)
                      exact bodyPost_ret (v := .tuple #[.agg #[.int .i64 0, .int .i64 0, .slice none 0 0], .agg #[.int .i64 ((i : Int) + 1), .int .i64 (a : Int), .int .i64 b]]) (by simp [results, Tryz.results8, go_sem, e0, e1, e2, e3, e4, e5]) rfl (Or.inr ⟨i + 1, a, b, E.out, rfl, six_keeps K1'.out (Nat.le_refl _) _ _ _ _ _ _⟩)
end Go.Proofs.YtomonhghioamfaaGreatDoor
