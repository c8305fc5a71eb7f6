
/- The program's rows: Get. -/
import Derived.Test.YtomonhghioamfaaDoorRwC4
import Derived.Test.YtomonhghioamfaaDoorRwP
set_option linter.unusedVariables false
namespace Go.Proofs.YtomonhghioamfaaDoor
open Go.ChangeShapes Go.WideShapes Go.ChangeAt Go.RowKit Bit Ky Rw Csv

theorem own_put {W : World} {tb j c : Nat} {p : Option Addr} {L : List R} {v : Value} (h : rowK.Own (tb + 1) W (.slice p j c) L) (hl : L.length = j) : rowK.Own (tb + 1) (W.setCell ⟨tb, 2, none⟩ v) (.slice p j c) L := by
  subst hl
  exact rowK.own_local h fun g hg => Below.heap_setCell W ⟨tb, 2, none⟩ _ g (by
    have := (rowK.own_lt h g hg).1
    show g ≠ tb
    omega)
/-- Five cells stored into a block of the call's own: another block stays. -/
theorem five_far {W : World} {n m : Nat} (h : m ≠ n) (a0 a1 a2 a3 a4 : Value) : (((((W.setCell ⟨n, 0, none⟩ a0).setCell ⟨n, 1, none⟩ a1).setCell ⟨n, 2, none⟩ a2).setCell ⟨n, 3, none⟩ a3).setCell ⟨n, 4, none⟩ a4).heap[m]? = W.heap[m]? := by
  rw [Below.heap_setCell _ ⟨n, 4, none⟩ _ _ h, Below.heap_setCell _ ⟨n, 3, none⟩ _ _ h, Below.heap_setCell _ ⟨n, 2, none⟩ _ _ h, Below.heap_setCell _ ⟨n, 1, none⟩ _ _ h, Below.heap_setCell _ ⟨n, 0, none⟩ _ _ h]
set_option maxHeartbeats 16000000 in
set_option maxRecDepth 100000 in
theorem pw_get (s : ByteArray) (w : World) (hp : HasP w) (hs : s.size ≤ 50000) : Calls Tryd.prog 18 #[.string s] w (GotS s.data.toList w) := by
  have KB := Lib.hid (ky_box w stZ)
  have CX : Hid (∀ W, Keeps (w.alloc stZ) W → W.heap[w.heap.size]? = some (.cells #[.int .i64 0, .int .i64 0, .slice none 0 0] tSt (0, 0))) := Lib.hid fun W k => (k.block _ (by simp)).trans (heap_alloc_new w stZ)
  have HP := Lib.hid hp
  have HS := Lib.hid hs
  obtain ⟨n1, R1, b1, e1, d1, s1, t1, H1⟩ := read_is s (by unfold maxLen; omega)
  obtain ⟨n2, R2, b2, e2, d2, s2, t2, H2⟩ := read_is R1 (by unfold maxLen; omega)
  obtain ⟨n3, R3, b3, e3, d3, s3, t3, H3⟩ := read_is R2 (by unfold maxLen; omega)
  have H1 := Lib.hid H1
  have H2 := Lib.hid H2
  have H3 := Lib.hid H3
  have S3 : Hid (R3.size ≤ 50000) := Lib.hid (by omega)
  obtain ⟨p, w1⟩ : ∃ I, wrap64 (n1 : Int) = I := ⟨_, rfl⟩
  obtain ⟨q, w2⟩ : ∃ I, wrap64 (n2 : Int) = I := ⟨_, rfl⟩
  rw [d1] at e2 d2
  rw [d2] at e3 d3
  have D3 := Lib.hid d3
  have MANY : Hid (400 < n3 → ∀ p s M, Valid p s M → putR p s M ≠ _) := Lib.hid fun h => none_many (l := s.data.toList) (by rw [e3]; exact h)
  have NONE : Hid (∀ L, rowsR n3 R3.data.toList = L → ¬ (Valid p q L ∧ putR p q L = s.data.toList) → ∀ p s M, Valid p s M → putR p s M ≠ _) := Lib.hid fun L e => none_read (l := s.data.toList) (by rw [e1]; exact w1) (by rw [e2]; exact w2) e3 (by rw [← d3]; exact e)
  clear hs hp e1 e2 e3 d1 d2 d3 s1 s2 s3 t1 t2
  unfold stZ stBox at KB CX
  go_enter Tryd.func18, Tryd.ntmps18
  go_wp2_with fail
  refine (H1.out _).mono ?_
  rintro e wa ⟨rfl, k⟩
  have HV := Lib.hid k
  clear k H1
  go_wp2_with fail
  refine (H2.out _).mono ?_
  rintro e wb ⟨rfl, k⟩
  have HV := Lib.hid (HV.out.trans k)
  clear k H2
  go_wp2_with fail
  refine (H3.out _).mono ?_
  rintro e wd ⟨rfl, k⟩
  have HV := Lib.hid (HV.out.trans k)
  clear k H3
  have hb1 := CX.out _ HV.out
  have B1 := Lib.hid hb1
  obtain ⟨⟨z0, z1, z2⟩, f0, f1, f2⟩ := three_at hb1
  by_cases hm : n3 ≤ 400
  rotate_left
  · have G := Lib.hid (MANY.out (by omega))
    obtain ⟨e0, e1, e2⟩ := (three_at (three_set hb1 (.int .i64 0) (.int .i64 0) (.slice none 0 0))).1
    have EE := Lib.hid (And.intro e0 (And.intro e1 e2))
    clear hb1 e0 e1 e2
    go_wp2
    obtain ⟨e0, e1, e2⟩ := EE.out
    exact bodyPost_ret (v := .tuple #[.agg #[.int .i64 0, .int .i64 0, .slice none 0 0], .int .i64 10]) (by simp [results, Tryd.results18, go_sem, e0, e1, e2]) rfl ⟨0, 0, [], _, 10, rfl, Or.inr ⟨G.out, rfl, rfl, rfl, rfl⟩, rows_nil _, three_keeps (KB.out.trans HV.out) (Nat.le_refl _) _ _ _⟩
  have HM := Lib.hid hm
  have B6 := Lib.hid (three_set hb1 (.int .i64 p) (.int .i64 q) (.slice none 0 0))
  have K6 := Lib.hid (three_keeps (KB.out.trans HV.out) (Nat.le_refl _) (.int .i64 p) (.int .i64 q) (.slice none 0 0))
  clear hb1
  obtain ⟨tb, htb⟩ : ∃ t, w.heap.size = t := ⟨_, rfl⟩
  have HTB := Lib.hid htb
  have z3 : (n3 : Int) ≤ 400 := by omega
  clear CX
  rw [htb] at B6 K6 z0 z1 z2 f0 f1 f2 ⊢
  clear htb B1
  go_wp2_with fail
  clear w1 w2
  go_loopw [5, 39] (fun v5 v39 W => ∃ (j : Nat) (T : ByteArray) (p' : Option Addr) (c' : Nat), j ≤ n3 ∧ v39 = .int .u64 (j : Int) ∧ v5 = .string T ∧ T.data.toList = restR j R3.data.toList ∧ T.size ≤ 50000 ∧ W.heap[tb]? = some (.cells #[.int .i64 p, .int .i64 q, .slice p' j c'] tSt (0, 0)) ∧ rowK.Own (tb + 1) W (.slice p' j c') (rowsR j R3.data.toList) ∧ Keeps w W) (fun _ v39 _ => n3 - (intOf v39).toNat)
  case atStart => exact ⟨0, R3, none, 0, by omega, rfl, rfl, rfl, S3.out, B6.out, rowK.own_nil _ _, K6.out⟩
  case round =>
    obtain ⟨j, T, p', c', hj, rfl, rfl, hT, hTs, hb, ho, hk⟩ := hrel
    have HJ := Lib.hid hj
    have HT := Lib.hid hT
    have HO := Lib.hid ho
    have HB := Lib.hid hb
    have HW := Lib.hid hk
    clear z0 z1 z2 f0 f1 f2 B6 K6 hj hT hb ho hk
    by_cases hlt : j < n3
    · have HL := Lib.hid hlt
      obtain ⟨T', hT', hTs', hC⟩ := pw_getRow T (by unfold maxLen; omega) (wr.alloc rwZ)
      obtain ⟨x, hx⟩ : ∃ x, rowRd T.data.toList = x := ⟨_, rfl⟩
      have C := Lib.hid (hx ▸ hC)
      have LX : Hid (rowsR (j + 1) R3.data.toList = rowsR j R3.data.toList ++ [x]) := Lib.hid (by rw [rowsR_next, ← HT.out, hx])
      have HT' : Hid (T'.data.toList = restR (j + 1) R3.data.toList) := Lib.hid (by rw [hT', HT.out]; rfl)
      have TS' : Hid (T'.size ≤ 50000) := Lib.hid (by omega)
      have KZ := Lib.hid (ky_box wr rwZ)
      have BZ := Lib.hid (heap_alloc_new wr rwZ)
      have TL : Hid (tb < wr.heap.size) := Lib.hid (Array.getElem?_eq_some_iff.1 HB.out).1
      unfold rwZ at C KZ BZ
      unfold rwV at C
      clear hC hx hT' hTs' hTs
      go_wp2_with fail
      refine C.out.mono ?_
      rintro e wv ⟨rfl, k⟩
      have KV := Lib.hid k
      have hz := (k.block wr.heap.size (Array.getElem?_eq_some_iff.1 BZ.out).1).trans BZ.out
      have HZ := Lib.hid (rfive_set hz (.int .i64 x.o) (.int .i64 x.d) (.int .i64 x.c) (.int .i64 x.a) (.int .i64 x.q))
      obtain ⟨⟨z0, z1, z2, z3, z4⟩, f0, f1, f2, f3, f4⟩ := rfive_at hz
      clear k C hz
      go_upto_region 11 with (fail)
      clear z0 z1 z2 z3 z4 f0 f1 f2 f3 f4
      have TV : Hid (tb ≠ wr.heap.size) := Lib.hid (Nat.ne_of_lt TL.out)
      have HB5 := Lib.hid ((five_far TV.out (W := wv) (.int .i64 x.o) (.int .i64 x.d) (.int .i64 x.c) (.int .i64 x.a) (.int .i64 x.q)).trans (((KZ.out.trans KV.out).block tb TL.out).trans HB.out))
      have HK5 := Lib.hid (rfive_keeps ((HW.out.trans KZ.out).trans KV.out) HW.out.size (.int .i64 x.o) (.int .i64 x.d) (.int .i64 x.c) (.int .i64 x.a) (.int .i64 x.q))
      have OW : Hid (rowK.Own (tb + 1) wr (.slice p' (rowsR j R3.data.toList).length c') (rowsR j R3.data.toList)) := Lib.hid (by rw [rowsR_len]; exact HO.out)
      have HO5 := Lib.hid (rowK.own_local (w' := ((((wv.setCell ⟨wr.heap.size, 0, none⟩ (.int .i64 x.o)).setCell ⟨wr.heap.size, 1, none⟩ (.int .i64 x.d)).setCell ⟨wr.heap.size, 2, none⟩ (.int .i64 x.c)).setCell ⟨wr.heap.size, 3, none⟩ (.int .i64 x.a)).setCell ⟨wr.heap.size, 4, none⟩ (.int .i64 x.q)) OW.out fun g hg => (five_far (Nat.ne_of_lt (rowK.own_lt OW.out g hg).2) _ _ _ _ _).trans ((KZ.out.trans KV.out).block g (rowK.own_lt OW.out g hg).2))
      obtain ⟨W5, hW5⟩ : ∃ W5, ((((wv.setCell ⟨wr.heap.size, 0, none⟩ (.int .i64 x.o)).setCell ⟨wr.heap.size, 1, none⟩ (.int .i64 x.d)).setCell ⟨wr.heap.size, 2, none⟩ (.int .i64 x.c)).setCell ⟨wr.heap.size, 3, none⟩ (.int .i64 x.a)).setCell ⟨wr.heap.size, 4, none⟩ (.int .i64 x.q) = W5 := ⟨_, rfl⟩
      rw [hW5] at HB5 HK5 HO5 HZ ⊢
      clear hW5
      obtain ⟨⟨z0, z1, z2⟩, f0, f1, f2⟩ := three_at HB5.out
      obtain ⟨y0, y1, y2, y3, y4⟩ := (rfive_at HZ.out).1
      have AB := Lib.hid (ky_box W5 (.cells #[.int .i64 x.o, .int .i64 x.d, .int .i64 x.c, .int .i64 x.a, .int .i64 x.q] tRw))
      have SZ5 : Hid (tb + 1 ≤ W5.heap.size) := Lib.hid (Array.getElem?_eq_some_iff.1 HB5.out).1
      obtain ⟨p6, c6, w6, Q1, Q2, Q3⟩ := rowK.app_row (W5.alloc (.cells #[.int .i64 x.o, .int .i64 x.d, .int .i64 x.c, .int .i64 x.a, .int .i64 x.q] tRw)) (tb + 1) (.slice p' (rowsR j R3.data.toList).length c') (rowsR j R3.data.toList) (.slice (some ⟨W5.heap.size, 0, none⟩) 1 1) [x] (rowK.own_keeps HO5.out AB.out) (rsrc_one (heap_alloc_new _ _)) (by rw [rowsR_len]; simp; have := HM.out; omega) (Nat.le_trans SZ5.out AB.out.size)
      have h6 := (Q3.block tb (Nat.lt_of_lt_of_le SZ5.out AB.out.size) (fun e => by have := (rowK.own_lt OW.out tb e.symm).1; omega)).trans ((AB.out.block tb SZ5.out).trans HB5.out)
      have K6 := Lib.hid (mono_grown (HK5.out.trans AB.out) Q3 fun g hg => by have := (rowK.own_lt OW.out g hg).1; have := HTB.out; omega)
      rw [rowsR_len] at Q1 Q2
      have HR : Hid ((Builtin.append_ #[tRs, tRs] tRs #[.slice p' j c', .slice (some ⟨W5.heap.size, 0, none⟩) 1 1]).run Tryd.prog (W5.alloc (.cells #[.int .i64 x.o, .int .i64 x.d, .int .i64 x.c, .int .i64 x.a, .int .i64 x.q] tRw)) = .ok (.slice p6 (j + 1) c6) w6) := Lib.hid Q1
      have O6 : Hid (rowK.Own (tb + 1) w6 (.slice p6 (j + 1) c6) (rowsR (j + 1) R3.data.toList)) := Lib.hid (by rw [LX.out]; exact Q2)
      have H6 := Lib.hid h6
      obtain ⟨⟨d0, d1, d2⟩, g0, g1, g2⟩ := three_at h6
      clear Q1 Q2 Q3 h6 OW
      go_wp2_with (at_builtin; refine wpAppKnown rfl _ _ _ _ rfl _ _ _ _ rfl rfl HR.out ?_)
      have HJ1 : Hid (j + 1 ≤ n3) := HL
      exact ⟨⟨j + 1, T', p6, c6, HJ1.out, by go_num, rfl, HT'.out, TS'.out, Joins.block_setCell (i := 2) H6.out (.slice p6 (j + 1) c6), own_put O6.out (rowsR_len _ _), Below.setCell K6.out (p := ⟨tb, 2, none⟩) (by have := HTB.out; simp; omega) (.slice p6 (j + 1) c6)⟩, by have := HL.out; simp [intOf]; omega⟩
    · obtain rfl : j = n3 := by have := HJ.out; omega
      obtain ⟨LL, hLL⟩ : ∃ M, rowsR j R3.data.toList = M := ⟨_, rfl⟩
      rw [hLL] at HO
      have LEN : Hid (LL.length = j) := Lib.hid (by rw [← hLL, rowsR_len])
      have NO := Lib.hid (NONE.out LL hLL)
      have RI := Lib.hid (own_rows HO.out (by rw [LEN.out]; omega))
      obtain ⟨b, hvb⟩ : ∃ b, validB p q LL = b := ⟨_, rfl⟩
      have HVB := Lib.hid hvb
      obtain ⟨X, hX⟩ : ∃ X, putSB p q LL = X := ⟨_, rfl⟩
      have HX := Lib.hid hX
      have C6 := Lib.hid (hvb ▸ pw_valid p q _ LL wr (HP.out.keeps HW.out) RI.out)
      have C7 : Hid (∀ W, Keeps wr W → Calls Tryd.prog 13 #[stV p q (.slice p' j c')] W fun e w' => e = .returned (.string X) ∧ Keeps wr w') := Lib.hid fun W k => (hX ▸ pw_put p q _ LL W (HP.out.keeps (HW.out.trans k)) (RI.out.keeps k)).mono fun e w' h => ⟨h.1, k.trans h.2⟩
      have HN : Hid (w.heap.size ≤ tb) := Lib.hid (by have := HTB.out; omega)
      unfold stV at C6 C7
      obtain ⟨⟨z0, z1, z2⟩, f0, f1, f2⟩ := three_at HB.out
      clear hLL hvb hX MANY NONE H1 H2 H3 hTs HT HJ hlt t3
      go_wp2_with fail
      refine C6.out.mono ?_
      rintro e wg ⟨rfl, k⟩
      have K7 := Lib.hid k
      have h7 := (k.block tb (Array.getElem?_eq_some_iff.1 HB.out).1).trans HB.out
      have B7 := Lib.hid h7
      clear k C6 z0 z1 z2 f0 f1 f2
      obtain ⟨⟨z0, z1, z2⟩, f0, f1, f2⟩ := three_at h7
      clear h7
      cases b with
      | false =>
        have G := Lib.hid (NO.out fun h => by have := HVB.out; rw [valid_iff.2 h.1] at this; cases this)
        go_wp2
        obtain ⟨e0, e1, e2⟩ := (three_at (three_set B7.out (.int .i64 0) (.int .i64 0) (.slice none 0 0))).1
        exact bodyPost_ret (v := .tuple #[.agg #[.int .i64 0, .int .i64 0, .slice none 0 0], .int .i64 10]) (by simp [results, Tryd.results18, go_sem, e0, e1, e2]) rfl ⟨0, 0, [], _, 10, rfl, Or.inr ⟨G.out, rfl, rfl, rfl, rfl⟩, rows_nil _, three_keeps (HW.out.trans K7.out) HN.out _ _ _⟩
      | true =>
        have VA := Lib.hid (valid_iff.1 HVB.out)
        go_wp2_with fail
        refine (C7.out _ K7.out).mono ?_
        rintro e wh ⟨rfl, k⟩
        have K8 := Lib.hid k
        have h8 := (k.block tb (Array.getElem?_eq_some_iff.1 HB.out).1).trans HB.out
        have B8 := Lib.hid h8
        clear k C7 z0 z1 z2 f0 f1 f2
        obtain ⟨⟨z0, z1, z2⟩, f0, f1, f2⟩ := three_at h8
        clear h8
        by_cases hx : X = s
        · have G : Hid (IsS s.data.toList p q LL 0) := Lib.hid (Or.inl ⟨VA.out, by rw [← hx, ← HX.out]; unfold putSB; rw [putS_yes VA.out, data_mk], rfl⟩)
          have F := Lib.hid (rows_far (a0 := .int .i64 p) (a1 := .int .i64 q) (a2 := .slice p' j c') (RI.out.keeps K8.out) HO.out K8.out (Nat.lt_succ_self tb) LEN.out)
          subst hx
          go_wp2
          obtain ⟨e0, e1, e2⟩ := (three_at (three_set B8.out (.int .i64 p) (.int .i64 q) (.slice p' j c'))).1
          exact bodyPost_ret (v := .tuple #[.agg #[.int .i64 p, .int .i64 q, .slice p' j c'], .int .i64 0]) (by simp [results, Tryd.results18, go_sem, e0, e1, e2]) rfl ⟨p, q, LL, _, 0, rfl, G.out, F.out, three_keeps (HW.out.trans K8.out) HN.out _ _ _⟩
        · have G := Lib.hid (NO.out fun h => hx (bytes_inj (by rw [← h.2, ← HX.out]; unfold putSB; rw [putS_yes VA.out, data_mk])))
          have t : (X.toList == s.toList) = false := bytes_eq hx
          clear hx
          go_wp2
          obtain ⟨e0, e1, e2⟩ := (three_at (three_set B8.out (.int .i64 0) (.int .i64 0) (.slice none 0 0))).1
          exact bodyPost_ret (v := .tuple #[.agg #[.int .i64 0, .int .i64 0, .slice none 0 0], .int .i64 10]) (by simp [results, Tryd.results18, go_sem, e0, e1, e2]) rfl ⟨0, 0, [], _, 10, rfl, Or.inr ⟨G.out, rfl, rfl, rfl, rfl⟩, rows_nil _, three_keeps (HW.out.trans K8.out) HN.out _ _ _⟩
end Go.Proofs.YtomonhghioamfaaDoor
