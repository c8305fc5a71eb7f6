
/- The document's rows: Put. -/
import Derived.Test.YtomonhghioamfaaDoorRwRefV
set_option linter.unusedVariables false
namespace Go.Proofs.YtomonhghioamfaaDoor
open Go.ChangeShapes Go.WideShapes Go.ChangeAt Go.RowKit Bit Ky Rw Csv

def putSB (p s : Int) (L : List R) : ByteArray := ⟨(Rw.putS p s L).toArray⟩
theorem sev_small {n : Nat} (h : n < topN) : (⟨(sev n).toArray⟩ : ByteArray).size ≤ 10 := by rw [size_mk]; exact sev_le h
theorem head_cat {p s : Int} {n : Nat} {V1 V2 V3 S1 S2 : ByteArray} (h1 : ⟨(sev p.toNat).toArray⟩ = V1) (h2 : ⟨(sev s.toNat).toArray⟩ = V2) (h3 : ⟨(sev n).toArray⟩ = V3) (e1 : V1 ++ V2 = S1) (e2 : S1 ++ V3 = S2) : S2.data.toList = headL p s n := by
  subst h1 h2 h3 e1 e2
  unfold headL
  simp
theorem row_cat {x : R} {S0 V1 V2 V3 V4 V5 S1 S2 S3 S4 S5 : ByteArray} (h1 : ⟨(sev x.o.toNat).toArray⟩ = V1) (h2 : ⟨(sev x.d.toNat).toArray⟩ = V2) (h3 : ⟨(sev x.c.toNat).toArray⟩ = V3) (h4 : ⟨(sev x.a.toNat).toArray⟩ = V4) (h5 : ⟨(sev x.q.toNat).toArray⟩ = V5)
    (e1 : S0 ++ V1 = S1) (e2 : S1 ++ V2 = S2) (e3 : S2 ++ V3 = S3) (e4 : S3 ++ V4 = S4) (e5 : S4 ++ V5 = S5) : S5.data.toList = S0.data.toList ++ rowL x := by
  subst h1 h2 h3 h4 h5 e1 e2 e3 e4 e5
  unfold rowL
  simp
theorem rwu {n : Int} (h0 : 0 ≤ n) (h : n ≤ 1099511627776) : IntKind.u64.wrap n = ((n.toNat : Nat) : Int) := by
  rw [u64w h0 (by have ht : (topN : Int) = 18446744073709551616 := rfl; omega)]; omega
theorem flat_take {L : List R} {k : Nat} {x : R} (hx : L[k]? = some x) : (L.take (k + 1)).flatMap rowL = (L.take k).flatMap rowL ++ rowL x := by
  have e : L.take (k + 1) = L.take k ++ [x] := by rw [List.take_add_one, hx]; rfl
  rw [e, List.flatMap_append]
  simp
theorem rowL_le {p : Int} {x : R} (h : Row1 p x) : (rowL x).length ≤ 50 := by
  obtain ⟨h1, h2, h3, h4, h5⟩ := h.small
  have := sev_le h1
  have := sev_le h2
  have := sev_le h3
  have := sev_le h4
  have := sev_le h5
  unfold rowL
  simp only [List.length_append]
  omega
theorem flat_le {p : Int} : ∀ {L : List R}, (∀ x ∈ L, Row1 p x) → (L.flatMap rowL).length ≤ 50 * L.length
  | [], _ => by simp
  | x :: L, h => by
    have h1 := rowL_le (h x (by simp))
    have h2 := flat_le (L := L) fun y hy => h y (by simp [hy])
    rw [List.flatMap_cons, List.length_append, List.length_cons]
    omega
theorem headL_le {p s : Int} {n : Nat} (h1 : p.toNat < topN) (h2 : s.toNat < topN) (h3 : n < topN) : (headL p s n).length ≤ 30 := by
  have := sev_le h1
  have := sev_le h2
  have := sev_le h3
  unfold headL
  simp only [List.length_append]
  omega
theorem putR_le {p s : Int} {L : List R} (h : Valid p s L) : (putR p s L).length ≤ 20030 := by
  obtain ⟨h1, h2, h3⟩ := h.small
  have := headL_le h1 h2 h3
  have := flat_le h.good.each
  have := h.good.len
  unfold putR
  rw [List.length_append]
  omega
theorem putSB_le (p s : Int) (L : List R) : (putSB p s L).size ≤ 20030 := by
  unfold putSB
  rw [size_mk]
  unfold Rw.putS
  split
  · exact putR_le (valid_iff.1 ‹_›)
  · simp
set_option maxHeartbeats 16000000 in
set_option maxRecDepth 100000 in
theorem rr_put (p s : Int) (v : Value) (L : List R) (w : World) (h : RowsIn w v L) :
    Calls Tryd.prog 14 #[stV p s v] w fun e w' => e = .returned (.string (putSB p s L)) ∧ Keeps w w' := by
  have KB := Lib.hid (ky_box w (stBox p s v))
  have HR := Lib.hid (h.keeps KB.out)
  have HV1 := Lib.hid (rr_valid p s v L _ HR.out)
  have CX := Lib.hid (st_cells w p s v)
  obtain ⟨pp, cp, rfl, hmx, _, _⟩ := h
  obtain ⟨N, hN⟩ : ∃ N, L.length = N := ⟨_, rfl⟩
  have HN := Lib.hid hN
  rw [hN] at hmx KB HR HV1 CX ⊢
  clear hN
  unfold maxLen at hmx
  obtain ⟨b, hb⟩ : ∃ b, validB p s L = b := ⟨_, rfl⟩
  have HB := Lib.hid hb
  rw [hb] at HV1
  clear hb
  unfold stBox at KB HR HV1 CX
  unfold stV at HV1 ⊢
  go_enter Tryd.func14, Tryd.ntmps14
  go_wp2_with fail
  refine HV1.out.mono ?_
  rintro e w1 ⟨rfl, k1⟩
  have K1 := Lib.hid k1
  clear k1 HV1
  cases b with
  | false =>
    have E : Hid (putSB p s L = ⟨#[]⟩) := Lib.hid (by unfold putSB; rw [putS_no (fun g => by have := HB.out; rw [valid_iff.2 g] at this; cases this)])
    go_wp2
    go_ret
    exact ⟨ret_str E.out.symm, KB.out.trans K1.out⟩
  | true =>
    have VA := Lib.hid (valid_iff.1 HB.out)
    have SM := Lib.hid VA.out.small
    have N4 : N ≤ 400 := by have := VA.out.good.len; rw [HN.out] at this; exact this
    have HN4 := Lib.hid N4
    obtain ⟨V1, h1⟩ : ∃ V : ByteArray, ⟨(sev p.toNat).toArray⟩ = V := ⟨_, rfl⟩
    obtain ⟨V2, h2⟩ : ∃ V : ByteArray, ⟨(sev s.toNat).toArray⟩ = V := ⟨_, rfl⟩
    obtain ⟨V3, h3⟩ : ∃ V : ByteArray, ⟨(sev N).toArray⟩ = V := ⟨_, rfl⟩
    obtain ⟨S1, e1⟩ : ∃ S, V1 ++ V2 = S := ⟨_, rfl⟩
    obtain ⟨S2, e2⟩ : ∃ S, S1 ++ V3 = S := ⟨_, rfl⟩
    have ht : topN = 18446744073709551616 := rfl
    have z1 : V1.size ≤ 10 := h1 ▸ sev_small SM.out.1
    have z2 : V2.size ≤ 10 := h2 ▸ sev_small SM.out.2.1
    have z3 : V3.size ≤ 10 := h3 ▸ sev_small (by omega)
    have y1 : S1.size ≤ 20 := by rw [← e1, ByteArray.size_append]; omega
    have n1 : ¬ (9223372036854775807 < V1.size + V2.size) := by omega
    have n2 : ¬ (9223372036854775807 < S1.size + V3.size) := by omega
    have HS2 : Hid (S2.data.toList = headL p s N) := Lib.hid (head_cat h1 h2 h3 e1 e2)
    obtain ⟨N1, m1⟩ : ∃ N : Nat, p.toNat = N := ⟨_, rfl⟩
    obtain ⟨N2, m2⟩ : ∃ N : Nat, s.toNat = N := ⟨_, rfl⟩
    have u1 : IntKind.u64.wrap p = ((N1 : Nat) : Int) := m1 ▸ rwu VA.out.good.p0 (by have := VA.out.good.p2; omega)
    have u2 : IntKind.u64.wrap s = ((N2 : Nat) : Int) := m2 ▸ rwu (by have := VA.out.s0; omega) (by have := VA.out.s1; omega)
    have u3 : IntKind.u64.wrap (N : Int) = (N : Int) := u64w (by omega) (by rw [ht]; omega)
    have CV : Hid (∀ (n : Nat) (V : ByteArray) W, n < topN → ⟨(sev n).toArray⟩ = V → Keeps w1 W → Calls Tryd.prog 35 #[.int .u64 n] W fun e w' => e = .returned (.string V) ∧ Keeps w1 w') := Lib.hid fun n V W hN hV kk => by
      subst hV
      exact (rvar_any' n W hN).mono fun e w' h => ⟨h.1, kk.trans h.2⟩
    have C1 := Lib.hid fun W => CV.out N1 V1 W (by have := SM.out.1; omega) (m1 ▸ h1)
    have C2 := Lib.hid fun W => CV.out N2 V2 W (by have := SM.out.2.1; omega) (m2 ▸ h2)
    have C3 := Lib.hid fun W => CV.out N V3 W (by omega) h3
    have HV := Lib.hid (Keeps.refl w1)
    obtain ⟨x0, x1, x2⟩ := CX.out w1 K1.out
    clear h1 h2 h3 z1 z2 z3 y1 m1 m2 ht CV
    go_upto_region 3 with (fail)
    go_region_held3 (fun W => W.cell? ⟨w.heap.size, 0, none⟩ = some (.int .i64 p) ∧ W.cell? ⟨w.heap.size, 1, none⟩ = some (.int .i64 s) ∧ W.cell? ⟨w.heap.size, 2, none⟩ = some (.slice pp N cp))
      (first | exact CX.out _ (K1.out.trans HV.out) | exact CX.out _ (K1.out.trans (ky_drew _)) | assumption) (first
      | (go_at_call 35; (with_reducible refine (C1.out _ (ky_drew _)).mono ?_); clear HV; rintro e wv ⟨rfl, hv⟩; have HV := Lib.hid hv; have zv := CX.out _ (K1.out.trans hv); clear hv C1)
      | (go_at_call 35; (with_reducible refine (C2.out _ HV.out).mono ?_); clear HV C2; rintro e wv ⟨rfl, hv⟩; have HV := Lib.hid hv; have zv := CX.out _ (K1.out.trans hv); clear hv)
      | (go_at_call 35; (with_reducible refine (C3.out _ HV.out).mono ?_); clear HV C3; rintro e wv ⟨rfl, hv⟩; have HV := Lib.hid hv; have zv := CX.out _ (K1.out.trans hv); clear hv))
    have K2 := Lib.hid (K1.out.trans HV.out)
    clear n1 n2 u1 u2 u3 x0 x1 x2 HV K1
    go_wp2_with fail
    go_loopw [3, 4] (fun v3 v4 W => ∃ (k : Nat) (S : ByteArray), k ≤ N ∧ v3 = .string S ∧ v4 = .int .i64 (k : Int) ∧ S.data.toList = headL p s N ++ (L.take k).flatMap rowL ∧ Keeps (w.alloc (.cells #[.int .i64 p, .int .i64 s, .slice pp N cp] tSt)) W) (fun _ v4 _ => N - (intOf v4).toNat)
    case atStart => exact ⟨0, S2, by omega, rfl, rfl, by rw [HS2.out]; simp, K2.out⟩
    case round =>
      obtain ⟨k, S0, hk, rfl, rfl, hS, hw⟩ := hrel
      have HS := Lib.hid hS
      have HW := Lib.hid hw
      clear hS hw K2 HS2
      obtain ⟨x0, x1, x2⟩ := CX.out _ HW.out
      by_cases hlt : k < N
      rotate_left
      · obtain rfl : k = N := by omega
        have E : Hid (putSB p s L = S0) := Lib.hid (by
          refine bytes_inj ?_
          rw [HS.out, List.take_of_length_le (by rw [HN.out]; exact Nat.le_refl _)]
          unfold putSB
          rw [putS_yes VA.out]
          unfold putR
          rw [HN.out])
        go_wp2
        go_ret
        exact ⟨ret_str E.out.symm, KB.out.trans HW.out⟩
      have HK := Lib.hid hlt
      obtain ⟨x, hx⟩ : ∃ x, L[k]? = some x := ⟨_, List.getElem?_eq_getElem (by have := HN.out; omega)⟩
      obtain ⟨p1, c1, e1, _, _, hc1⟩ := HR.out.keeps HW.out
      rw [HN.out] at e1
      simp only [Value.slice.injEq] at e1
      obtain ⟨rfl, _, rfl⟩ := e1
      obtain ⟨ad, rfl, q⟩ := hc1 k x hx
      have RX := Lib.hid (VA.out.good.each x (List.mem_of_getElem? hx))
      have SX := Lib.hid RX.out.small
      obtain ⟨q0, q1, q2, q3, q4⟩ := q
      have hi1 : (k : Int) < (N : Int) := by omega
      have hi0 : (0 : Int) ≤ (k : Int) := by omega
      have FT := Lib.hid (flat_take hx)
      have hS0 : S0.size ≤ 20030 := by
        rw [← len_data, HS.out, List.length_append]
        have a1 := headL_le SM.out.1 SM.out.2.1 (n := N) (by have ht : topN = 18446744073709551616 := rfl; have := HN4.out; omega)
        have a2 := flat_le (L := L.take k) (p := p) fun y hy => VA.out.good.each y (List.mem_of_mem_take hy)
        have a3 := List.length_take_le k L
        have := HN4.out
        omega
      obtain ⟨V1, h1⟩ : ∃ V : ByteArray, ⟨(sev x.o.toNat).toArray⟩ = V := ⟨_, rfl⟩
      obtain ⟨V2, h2⟩ : ∃ V : ByteArray, ⟨(sev x.d.toNat).toArray⟩ = V := ⟨_, rfl⟩
      obtain ⟨V3, h3⟩ : ∃ V : ByteArray, ⟨(sev x.c.toNat).toArray⟩ = V := ⟨_, rfl⟩
      obtain ⟨V4, h4⟩ : ∃ V : ByteArray, ⟨(sev x.a.toNat).toArray⟩ = V := ⟨_, rfl⟩
      obtain ⟨V5, h5⟩ : ∃ V : ByteArray, ⟨(sev x.q.toNat).toArray⟩ = V := ⟨_, rfl⟩
      obtain ⟨T1, t1⟩ : ∃ S, S0 ++ V1 = S := ⟨_, rfl⟩
      obtain ⟨T2, t2⟩ : ∃ S, T1 ++ V2 = S := ⟨_, rfl⟩
      obtain ⟨T3, t3⟩ : ∃ S, T2 ++ V3 = S := ⟨_, rfl⟩
      obtain ⟨T4, t4⟩ : ∃ S, T3 ++ V4 = S := ⟨_, rfl⟩
      obtain ⟨T5, t5⟩ : ∃ S, T4 ++ V5 = S := ⟨_, rfl⟩
      have z1 : V1.size ≤ 10 := h1 ▸ sev_small SX.out.1
      have z2 : V2.size ≤ 10 := h2 ▸ sev_small SX.out.2.1
      have z3 : V3.size ≤ 10 := h3 ▸ sev_small SX.out.2.2.1
      have z4 : V4.size ≤ 10 := h4 ▸ sev_small SX.out.2.2.2.1
      have z5 : V5.size ≤ 10 := h5 ▸ sev_small SX.out.2.2.2.2
      have y1 : T1.size ≤ 20040 := by rw [← t1, ByteArray.size_append]; omega
      have y2 : T2.size ≤ 20050 := by rw [← t2, ByteArray.size_append]; omega
      have y3 : T3.size ≤ 20060 := by rw [← t3, ByteArray.size_append]; omega
      have y4 : T4.size ≤ 20070 := by rw [← t4, ByteArray.size_append]; omega
      have y5 : T5.size ≤ 20080 := by rw [← t5, ByteArray.size_append]; omega
      have n1 : ¬ (9223372036854775807 < S0.size + V1.size) := by omega
      have n2 : ¬ (9223372036854775807 < T1.size + V2.size) := by omega
      have n3 : ¬ (9223372036854775807 < T2.size + V3.size) := by omega
      have n4 : ¬ (9223372036854775807 < T3.size + V4.size) := by omega
      have n5 : ¬ (9223372036854775807 < T4.size + V5.size) := by omega
      have HT : Hid (T5.data.toList = headL p s N ++ (L.take (k + 1)).flatMap rowL) := Lib.hid (by rw [row_cat h1 h2 h3 h4 h5 t1 t2 t3 t4 t5, HS.out, FT.out, List.append_assoc])
      obtain ⟨N1, m1⟩ : ∃ N : Nat, x.o.toNat = N := ⟨_, rfl⟩
      obtain ⟨N2, m2⟩ : ∃ N : Nat, x.d.toNat = N := ⟨_, rfl⟩
      obtain ⟨N3, m3⟩ : ∃ N : Nat, x.c.toNat = N := ⟨_, rfl⟩
      obtain ⟨N4, m4⟩ : ∃ N : Nat, x.a.toNat = N := ⟨_, rfl⟩
      obtain ⟨N5, m5⟩ : ∃ N : Nat, x.q.toNat = N := ⟨_, rfl⟩
      have u1 : IntKind.u64.wrap x.o = ((N1 : Nat) : Int) := m1 ▸ rwu (by have := RX.out.key.o0; omega) (by have := RX.out.key.o1; omega)
      have u2 : IntKind.u64.wrap x.d = ((N2 : Nat) : Int) := m2 ▸ rwu (RX.out.key.d0) (by have := RX.out.key.d1; omega)
      have u3 : IntKind.u64.wrap x.c = ((N3 : Nat) : Int) := m3 ▸ rwu (by have := RX.out.c1; omega) (by have := RX.out.c2; omega)
      have u4 : IntKind.u64.wrap x.a = ((N4 : Nat) : Int) := m4 ▸ rwu (RX.out.a0) (RX.out.a1)
      have u5 : IntKind.u64.wrap x.q = ((N5 : Nat) : Int) := m5 ▸ rwu (RX.out.q0) (by have := RX.out.q1; omega)
      have CV : Hid (∀ (n : Nat) (V : ByteArray) W, n < topN → ⟨(sev n).toArray⟩ = V → Keeps (wr.alloc (.cells #[.int .i64 x.o, .int .i64 x.d, .int .i64 x.c, .int .i64 x.a, .int .i64 x.q] tRw)) W → Calls Tryd.prog 35 #[.int .u64 n] W fun e w' => e = .returned (.string V) ∧ Keeps (wr.alloc (.cells #[.int .i64 x.o, .int .i64 x.d, .int .i64 x.c, .int .i64 x.a, .int .i64 x.q] tRw)) w') := Lib.hid fun n V W hN hV kk => by
        subst hV
        exact (rvar_any' n W hN).mono fun e w' h => ⟨h.1, kk.trans h.2⟩
      have C1 := Lib.hid fun W => CV.out N1 V1 W (m1 ▸ SX.out.1) (m1 ▸ h1)
      have C2 := Lib.hid fun W => CV.out N2 V2 W (m2 ▸ SX.out.2.1) (m2 ▸ h2)
      have C3 := Lib.hid fun W => CV.out N3 V3 W (m3 ▸ SX.out.2.2.1) (m3 ▸ h3)
      have C4 := Lib.hid fun W => CV.out N4 V4 W (m4 ▸ SX.out.2.2.2.1) (m4 ▸ h4)
      have C5 := Lib.hid fun W => CV.out N5 V5 W (m5 ▸ SX.out.2.2.2.2) (m5 ▸ h5)
      have CY := Lib.hid (rw_cells wr x)
      have A1 := Lib.hid (ky_box wr (.cells #[.int .i64 x.o, .int .i64 x.d, .int .i64 x.c, .int .i64 x.a, .int .i64 x.q] tRw))
      have HV := Lib.hid (Keeps.refl (wr.alloc (.cells #[.int .i64 x.o, .int .i64 x.d, .int .i64 x.c, .int .i64 x.a, .int .i64 x.q] tRw)))
      clear hc1 hx h1 z1 y1 m1 h2 z2 y2 m2 h3 z3 y3 m3 h4 z4 y4 m4 h5 z5 y5 m5 CV hS0
      go_upto_region 8 with (fail)
      clear q0 q1 q2 q3 q4 x0 x1 x2
      obtain ⟨z0, z1, z2, z3, z4⟩ := CY.out _ HV.out
      go_region_held3 (fun W => W.cell? ⟨wr.heap.size, 0, none⟩ = some (.int .i64 x.o) ∧ W.cell? ⟨wr.heap.size, 1, none⟩ = some (.int .i64 x.d) ∧ W.cell? ⟨wr.heap.size, 2, none⟩ = some (.int .i64 x.c) ∧ W.cell? ⟨wr.heap.size, 3, none⟩ = some (.int .i64 x.a) ∧ W.cell? ⟨wr.heap.size, 4, none⟩ = some (.int .i64 x.q))
        (first | exact CY.out _ HV.out | exact CY.out _ (HV.out.trans (ky_drew _)) | assumption) (first
        | (go_at_call 35; (with_reducible refine (C1.out _ (HV.out.trans (ky_drew _))).mono ?_); clear HV C1; rintro e wv ⟨rfl, hv⟩; have HV := Lib.hid hv; have zv := CY.out _ hv; clear hv)
        | (go_at_call 35; (with_reducible refine (C2.out _ HV.out).mono ?_); clear HV C2; rintro e wv ⟨rfl, hv⟩; have HV := Lib.hid hv; have zv := CY.out _ hv; clear hv)
        | (go_at_call 35; (with_reducible refine (C3.out _ HV.out).mono ?_); clear HV C3; rintro e wv ⟨rfl, hv⟩; have HV := Lib.hid hv; have zv := CY.out _ hv; clear hv)
        | (go_at_call 35; (with_reducible refine (C4.out _ HV.out).mono ?_); clear HV C4; rintro e wv ⟨rfl, hv⟩; have HV := Lib.hid hv; have zv := CY.out _ hv; clear hv)
        | (go_at_call 35; (with_reducible refine (C5.out _ HV.out).mono ?_); clear HV C5; rintro e wv ⟨rfl, hv⟩; have HV := Lib.hid hv; have zv := CY.out _ hv; clear hv))
      have K9 := Lib.hid (HW.out.trans (A1.out.trans HV.out))
      clear n1 n2 n3 n4 n5 u1 u2 u3 u4 u5 z0 z1 z2 z3 z4
      go_wp2_with fail
      exact ⟨⟨k + 1, T5, by have := HK.out; omega, rfl, by go_num, HT.out, K9.out⟩, by have := HK.out; simp [intOf]; omega⟩
end Go.Proofs.YtomonhghioamfaaDoor
