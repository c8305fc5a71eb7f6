
/- The program's rows: putRow, Put. -/
import Derived.Test.YtomonhghioamfaaDoorRwRefP
import Derived.Test.YtomonhghioamfaaDoorRwCP
import Derived.Test.YtomonhghioamfaaDoorTextW
set_option linter.unusedVariables false
namespace Go.Proofs.YtomonhghioamfaaDoor
open Go.ChangeShapes Go.WideShapes Go.ChangeAt Go.RowKit Bit Ky Rw Csv

theorem row_cat5 {x : R} {V1 V2 V3 V4 V5 S2 S3 S4 S5 : ByteArray} (h1 : ⟨(sev x.o.toNat).toArray⟩ = V1) (h2 : ⟨(sev x.d.toNat).toArray⟩ = V2) (h3 : ⟨(sev x.c.toNat).toArray⟩ = V3) (h4 : ⟨(sev x.a.toNat).toArray⟩ = V4) (h5 : ⟨(sev x.q.toNat).toArray⟩ = V5)
    (e2 : V1 ++ V2 = S2) (e3 : S2 ++ V3 = S3) (e4 : S3 ++ V4 = S4) (e5 : S4 ++ V5 = S5) : S5 = ⟨(rowL x).toArray⟩ := by
  subst h1 h2 h3 h4 h5 e2 e3 e4 e5
  unfold rowL
  simp only [ByteArray.mk_append_mk]
set_option maxHeartbeats 16000000 in
set_option maxRecDepth 100000 in
theorem pw_putRow (p : Int) (x : R) (w : World) (hr : Row1 p x) :
    Calls Tryd.prog 33 #[rwV x] w fun e w' => e = .returned (.string ⟨(rowL x).toArray⟩) ∧ Keeps w w' := by
  have RX := Lib.hid hr
  have SX := Lib.hid hr.small
  obtain ⟨V1, h1⟩ : ∃ V : ByteArray, ⟨(sev x.o.toNat).toArray⟩ = V := ⟨_, rfl⟩
  obtain ⟨V2, h2⟩ : ∃ V : ByteArray, ⟨(sev x.d.toNat).toArray⟩ = V := ⟨_, rfl⟩
  obtain ⟨V3, h3⟩ : ∃ V : ByteArray, ⟨(sev x.c.toNat).toArray⟩ = V := ⟨_, rfl⟩
  obtain ⟨V4, h4⟩ : ∃ V : ByteArray, ⟨(sev x.a.toNat).toArray⟩ = V := ⟨_, rfl⟩
  obtain ⟨V5, h5⟩ : ∃ V : ByteArray, ⟨(sev x.q.toNat).toArray⟩ = V := ⟨_, rfl⟩
  obtain ⟨T2, t2⟩ : ∃ S, V1 ++ V2 = S := ⟨_, rfl⟩
  obtain ⟨T3, t3⟩ : ∃ S, T2 ++ V3 = S := ⟨_, rfl⟩
  obtain ⟨T4, t4⟩ : ∃ S, T3 ++ V4 = S := ⟨_, rfl⟩
  obtain ⟨T5, t5⟩ : ∃ S, T4 ++ V5 = S := ⟨_, rfl⟩
  have z1 : V1.size ≤ 10 := h1 ▸ sev_small SX.out.1
  have z2 : V2.size ≤ 10 := h2 ▸ sev_small SX.out.2.1
  have z3 : V3.size ≤ 10 := h3 ▸ sev_small SX.out.2.2.1
  have z4 : V4.size ≤ 10 := h4 ▸ sev_small SX.out.2.2.2.1
  have z5 : V5.size ≤ 10 := h5 ▸ sev_small SX.out.2.2.2.2
  have y2 : T2.size ≤ 20 := by rw [← t2, ByteArray.size_append]; omega
  have y3 : T3.size ≤ 30 := by rw [← t3, ByteArray.size_append]; omega
  have y4 : T4.size ≤ 40 := by rw [← t4, ByteArray.size_append]; omega
  have n2 : ¬ (9223372036854775807 < V1.size + V2.size) := by omega
  have n3 : ¬ (9223372036854775807 < T2.size + V3.size) := by omega
  have n4 : ¬ (9223372036854775807 < T3.size + V4.size) := by omega
  have n5 : ¬ (9223372036854775807 < T4.size + V5.size) := by omega
  have E : Hid (⟨(rowL x).toArray⟩ = T5) := Lib.hid (row_cat5 h1 h2 h3 h4 h5 t2 t3 t4 t5).symm
  obtain ⟨N1, m1⟩ : ∃ N : Nat, x.o.toNat = N := ⟨_, rfl⟩
  obtain ⟨N2, m2⟩ : ∃ N : Nat, x.d.toNat = N := ⟨_, rfl⟩
  obtain ⟨N3, m3⟩ : ∃ N : Nat, x.c.toNat = N := ⟨_, rfl⟩
  obtain ⟨N4, m4⟩ : ∃ N : Nat, x.a.toNat = N := ⟨_, rfl⟩
  obtain ⟨N5, m5⟩ : ∃ N : Nat, x.q.toNat = N := ⟨_, rfl⟩
  have u1 : IntKind.u64.wrap x.o = ((N1 : Nat) : Int) := m1 ▸ rwu (by have := RX.out.key.o0; omega) (by have := RX.out.key.o1; omega)
  have u2 : IntKind.u64.wrap x.d = ((N2 : Nat) : Int) := m2 ▸ rwu (RX.out.key.d0) (by have := RX.out.key.d1; omega)
  have u3 : IntKind.u64.wrap x.c = ((N3 : Nat) : Int) := m3 ▸ rwu (by have := RX.out.c1; omega) (by have := RX.out.c2; omega)
  have u4 : IntKind.u64.wrap x.a = ((N4 : Nat) : Int) := m4 ▸ rwu (RX.out.a0) (RX.out.a1)
  have u5 : IntKind.u64.wrap x.q = ((N5 : Nat) : Int) := m5 ▸ rwu (RX.out.q0) (by have := RX.out.q1; omega)
  have CV : Hid (∀ (n : Nat) (V : ByteArray) W, n < topN → ⟨(sev n).toArray⟩ = V → Keeps (w.alloc (.cells #[.int .i64 x.o, .int .i64 x.d, .int .i64 x.c, .int .i64 x.a, .int .i64 x.q] tRw)) W → Calls Tryd.prog 32 #[.int .u64 n] W fun e w' => e = .returned (.string V) ∧ Keeps (w.alloc (.cells #[.int .i64 x.o, .int .i64 x.d, .int .i64 x.c, .int .i64 x.a, .int .i64 x.q] tRw)) w') := Lib.hid fun n V W hN hV kk => by
    subst hV
    exact (var_any n W hN).mono fun e w' h => ⟨h.1, kk.trans h.2⟩
  have C1 := Lib.hid fun W => CV.out N1 V1 W (m1 ▸ SX.out.1) (m1 ▸ h1)
  have C2 := Lib.hid fun W => CV.out N2 V2 W (m2 ▸ SX.out.2.1) (m2 ▸ h2)
  have C3 := Lib.hid fun W => CV.out N3 V3 W (m3 ▸ SX.out.2.2.1) (m3 ▸ h3)
  have C4 := Lib.hid fun W => CV.out N4 V4 W (m4 ▸ SX.out.2.2.2.1) (m4 ▸ h4)
  have C5 := Lib.hid fun W => CV.out N5 V5 W (m5 ▸ SX.out.2.2.2.2) (m5 ▸ h5)
  have CY := Lib.hid (rw_cells w x)
  have A1 := Lib.hid (ky_box w (.cells #[.int .i64 x.o, .int .i64 x.d, .int .i64 x.c, .int .i64 x.a, .int .i64 x.q] tRw))
  have HV := Lib.hid (Keeps.refl (w.alloc (.cells #[.int .i64 x.o, .int .i64 x.d, .int .i64 x.c, .int .i64 x.a, .int .i64 x.q] tRw)))
  obtain ⟨z0, z1', z2', z3', z4'⟩ := CY.out _ HV.out
  unfold rwV
  clear h1 z1 y2 m1 h2 z2 y3 m2 h3 z3 y4 m3 h4 z4 m4 h5 z5 m5 CV hr
  go_enter Tryd.func33, Tryd.ntmps33
  go_wp2_with fail
  go_region_held3 (fun W => W.cell? ⟨w.heap.size, 0, none⟩ = some (.int .i64 x.o) ∧ W.cell? ⟨w.heap.size, 1, none⟩ = some (.int .i64 x.d) ∧ W.cell? ⟨w.heap.size, 2, none⟩ = some (.int .i64 x.c) ∧ W.cell? ⟨w.heap.size, 3, none⟩ = some (.int .i64 x.a) ∧ W.cell? ⟨w.heap.size, 4, none⟩ = some (.int .i64 x.q))
    (first | exact CY.out _ HV.out | exact CY.out _ (HV.out.trans (ky_drew _)) | assumption) (first
    | (go_at_call 32; (with_reducible refine (C1.out _ (HV.out.trans (ky_drew _))).mono ?_); clear HV C1; rintro e wv ⟨rfl, hv⟩; have HV := Lib.hid hv; have zv := CY.out _ hv; clear hv)
    | (go_at_call 32; (with_reducible refine (C2.out _ HV.out).mono ?_); clear HV C2; rintro e wv ⟨rfl, hv⟩; have HV := Lib.hid hv; have zv := CY.out _ hv; clear hv)
    | (go_at_call 32; (with_reducible refine (C3.out _ HV.out).mono ?_); clear HV C3; rintro e wv ⟨rfl, hv⟩; have HV := Lib.hid hv; have zv := CY.out _ hv; clear hv)
    | (go_at_call 32; (with_reducible refine (C4.out _ HV.out).mono ?_); clear HV C4; rintro e wv ⟨rfl, hv⟩; have HV := Lib.hid hv; have zv := CY.out _ hv; clear hv)
    | (go_at_call 32; (with_reducible refine (C5.out _ HV.out).mono ?_); clear HV C5; rintro e wv ⟨rfl, hv⟩; have HV := Lib.hid hv; have zv := CY.out _ hv; clear hv))
  go_wp2
  go_ret
  exact ⟨ret_str E.out.symm, A1.out.trans HV.out⟩
set_option maxHeartbeats 16000000 in
set_option maxRecDepth 100000 in
theorem pw_put (p s : Int) (v : Value) (L : List R) (w : World) (hp : HasP w) (h : RowsIn w v L) :
    Calls Tryd.prog 13 #[stV p s v] w fun e w' => e = .returned (.string (putSB p s L)) ∧ Keeps w w' := by
  have KB := Lib.hid (ky_box w (stBox p s v))
  have HR := Lib.hid (h.keeps KB.out)
  have HV1 := Lib.hid (pw_valid p s v L _ (hp.keeps KB.out) HR.out)
  have CX := Lib.hid (st_cells w p s v)
  obtain ⟨pp, cp, rfl, hmx, _, _⟩ := h
  obtain ⟨N, hN⟩ : ∃ N, L.length = N := ⟨_, rfl⟩
  have HN := Lib.hid hN
  rw [hN] at hmx KB HR HV1 CX ⊢
  clear hN hp
  unfold maxLen at hmx
  obtain ⟨b, hb⟩ : ∃ b, validB p s L = b := ⟨_, rfl⟩
  have HB := Lib.hid hb
  rw [hb] at HV1
  clear hb
  unfold stBox at KB HR HV1 CX
  unfold stV at HV1 ⊢
  go_enter Tryd.func13, Tryd.ntmps13
  go_wp2_with fail
  refine HV1.out.mono ?_
  rintro e w1 ⟨rfl, k1⟩
  have K1 := Lib.hid k1
  clear k1 HV1
  cases b with
  | false =>
    have E : Hid (putSB p s L = ⟨#[]⟩) := Lib.hid (by unfold putSB; rw [putS_no (fun g => by have := HB.out; rw [valid_iff.2 g] at this; cases this)])
    go_wp2
    go_ret
    exact ⟨ret_str E.out.symm, KB.out.trans K1.out⟩
  | true =>
    have VA := Lib.hid (valid_iff.1 HB.out)
    have SM := Lib.hid VA.out.small
    have N4 : N ≤ 400 := by have := VA.out.good.len; rw [HN.out] at this; exact this
    have HN4 := Lib.hid N4
    obtain ⟨V1, h1⟩ : ∃ V : ByteArray, ⟨(sev p.toNat).toArray⟩ = V := ⟨_, rfl⟩
    obtain ⟨V2, h2⟩ : ∃ V : ByteArray, ⟨(sev s.toNat).toArray⟩ = V := ⟨_, rfl⟩
    obtain ⟨V3, h3⟩ : ∃ V : ByteArray, ⟨(sev N).toArray⟩ = V := ⟨_, rfl⟩
    obtain ⟨S1, e1⟩ : ∃ S, V1 ++ V2 = S := ⟨_, rfl⟩
    obtain ⟨S2, e2⟩ : ∃ S, S1 ++ V3 = S := ⟨_, rfl⟩
    have ht : topN = 18446744073709551616 := rfl
    have z1 : V1.size ≤ 10 := h1 ▸ sev_small SM.out.1
    have z2 : V2.size ≤ 10 := h2 ▸ sev_small SM.out.2.1
    have z3 : V3.size ≤ 10 := h3 ▸ sev_small (by omega)
    have y1 : S1.size ≤ 20 := by rw [← e1, ByteArray.size_append]; omega
    have y2 : S2.size ≤ 30 := by rw [← e2, ByteArray.size_append]; omega
    have n1 : ¬ (9223372036854775807 < V1.size + V2.size) := by omega
    have n2 : ¬ (9223372036854775807 < S1.size + V3.size) := by omega
    have HS2 : Hid (S2.data.toList = headL p s N) := Lib.hid (head_cat h1 h2 h3 e1 e2)
    obtain ⟨N1, m1⟩ : ∃ N : Nat, p.toNat = N := ⟨_, rfl⟩
    obtain ⟨N2, m2⟩ : ∃ N : Nat, s.toNat = N := ⟨_, rfl⟩
    have u1 : IntKind.u64.wrap p = ((N1 : Nat) : Int) := m1 ▸ rwu VA.out.good.p0 (by have := VA.out.good.p2; omega)
    have u2 : IntKind.u64.wrap s = ((N2 : Nat) : Int) := m2 ▸ rwu (by have := VA.out.s0; omega) (by have := VA.out.s1; omega)
    have u3 : IntKind.u64.wrap (N : Int) = (N : Int) := u64w (by omega) (by rw [ht]; omega)
    have CV : Hid (∀ (n : Nat) (V : ByteArray) W, n < topN → ⟨(sev n).toArray⟩ = V → TwText w1 w1.heap.size [] W → Calls Tryd.prog 32 #[.int .u64 n] W fun e w' => e = .returned (.string V) ∧ TwText w1 w1.heap.size [] w') := Lib.hid fun n V W hN hV kk => by
      subst hV
      exact (var_any n W hN).mono fun e w' h => ⟨h.1, kk.on h.2⟩
    have C1 := Lib.hid fun W => CV.out N1 V1 W (by have := SM.out.1; omega) (m1 ▸ h1)
    have C2 := Lib.hid fun W => CV.out N2 V2 W (by have := SM.out.2.1; omega) (m2 ▸ h2)
    have C3 := Lib.hid fun W => CV.out N V3 W (by omega) h3
    have C4 : Hid (∀ W, TwText w1 w1.heap.size [] W → Calls Tryd.prog 31 #[.pointer (some ⟨w1.heap.size, 0, none⟩), .string S2] W fun e w' => (∃ n : Int, e = .returned (.tuple #[.int .i64 n, .nilIface])) ∧ TwText w1 w1.heap.size (headL p s N) w') := Lib.hid fun W ht => by
      have h := twText_string w1 W w1.heap.size [] S2.data.toList ht (by simp) (by rw [len_data]; omega)
      rw [HS2.out, List.nil_append] at h
      rw [← HS2.out] at h ⊢
      exact h
    have HV := Lib.hid (twText_new w1)
    obtain ⟨x0, x1, x2⟩ := CX.out _ (K1.out.trans HV.out.keeps)
    clear h1 h2 h3 z1 z2 z3 y1 y2 m1 m2 ht CV
    go_wp2_with fail
    go_region_held3 (fun W => W.cell? ⟨w.heap.size, 0, none⟩ = some (.int .i64 p) ∧ W.cell? ⟨w.heap.size, 1, none⟩ = some (.int .i64 s) ∧ W.cell? ⟨w.heap.size, 2, none⟩ = some (.slice pp N cp))
      (first | exact CX.out _ (K1.out.trans HV.out.keeps) | exact CX.out _ ((K1.out.trans HV.out.keeps).trans (ky_drew _)) | assumption) (first
      | (go_at_call 32; (with_reducible refine (C1.out _ (HV.out.on (ky_drew _))).mono ?_); clear HV C1; rintro e wv ⟨rfl, hv⟩; have HV := Lib.hid hv; have zv := CX.out _ (K1.out.trans hv.keeps); clear hv)
      | (go_at_call 32; (with_reducible refine (C2.out _ HV.out).mono ?_); clear HV C2; rintro e wv ⟨rfl, hv⟩; have HV := Lib.hid hv; have zv := CX.out _ (K1.out.trans hv.keeps); clear hv)
      | (go_at_call 32; (with_reducible refine (C3.out _ HV.out).mono ?_); clear HV C3; rintro e wv ⟨rfl, hv⟩; have HV := Lib.hid hv; have zv := CX.out _ (K1.out.trans hv.keeps); clear hv)
      | (go_at_call 31; (with_reducible refine (C4.out _ HV.out).mono ?_); clear HV C4; rintro e wv ⟨⟨n9, rfl⟩, hv⟩; have HV := Lib.hid hv; have zv := CX.out _ (K1.out.trans hv.keeps); clear hv))
    clear n1 n2 u1 u2 u3 x0 x1 x2 e1 e2
    obtain ⟨x0, x1, x2⟩ := CX.out _ (K1.out.trans HV.out.keeps)
    go_wp2_with fail
    go_loopw [28] (fun v28 W => ∃ k : Nat, k ≤ N ∧ v28 = .int .i64 (k : Int) ∧ TwText w1 w1.heap.size (headL p s N ++ (L.take k).flatMap rowL) W) (fun v28 _ => N - (intOf v28).toNat)
    case atStart => exact ⟨0, by omega, rfl, by simpa using HV.out⟩
    case round =>
      obtain ⟨k, hk, rfl, hw⟩ := hrel
      have HW := Lib.hid hw
      clear hw HV HS2 x0 x1 x2
      by_cases hlt : k < N
      rotate_left
      · obtain rfl : k = N := by omega
        have E : Hid (putSB p s L = ⟨(headL p s k ++ (L.take k).flatMap rowL).toArray⟩) := Lib.hid (by
          rw [List.take_of_length_le (by rw [HN.out]; exact Nat.le_refl _)]
          unfold putSB
          rw [putS_yes VA.out]
          unfold putR
          rw [HN.out])
        have CD := Lib.hid (twText_done w1 wr w1.heap.size _ HW.out)
        rw [← E.out] at CD
        go_wp2_with fail
        refine CD.out.mono ?_
        rintro e w9 ⟨rfl, k9⟩
        go_wp2
        go_ret
        exact ⟨rfl, KB.out.trans (K1.out.trans k9)⟩
      have HK := Lib.hid hlt
      obtain ⟨x, hx⟩ : ∃ x, L[k]? = some x := ⟨_, List.getElem?_eq_getElem (by have := HN.out; omega)⟩
      obtain ⟨p1, c1, e1, _, _, hc1⟩ := HR.out.keeps (K1.out.trans HW.out.keeps)
      rw [HN.out] at e1
      simp only [Value.slice.injEq] at e1
      obtain ⟨rfl, _, rfl⟩ := e1
      obtain ⟨ad, rfl, q⟩ := hc1 k x hx
      have RX := Lib.hid (VA.out.good.each x (List.mem_of_getElem? hx))
      obtain ⟨q0, q1, q2, q3, q4⟩ := q
      have hi1 : (k : Int) < (N : Int) := by omega
      have hi0 : (0 : Int) ≤ (k : Int) := by omega
      have FT := Lib.hid (flat_take hx)
      have HA : Hid ((headL p s N ++ (L.take k).flatMap rowL).length ≤ 20030) := Lib.hid (by
        rw [List.length_append]
        have a1 := headL_le SM.out.1 SM.out.2.1 (n := N) (by have ht : topN = 18446744073709551616 := rfl; have := HN4.out; omega)
        have a2 := flat_le (L := L.take k) (p := p) fun y hy => VA.out.good.each y (List.mem_of_mem_take hy)
        have a3 := List.length_take_le k L
        have := HN4.out
        omega)
      have A1 := Lib.hid (ky_box wr (.cells #[.int .i64 x.o, .int .i64 x.d, .int .i64 x.c, .int .i64 x.a, .int .i64 x.q] tRw))
      have HT := Lib.hid (HW.out.on A1.out)
      obtain ⟨z0, z1, z2, z3, z4⟩ := rw_cells wr x _ (Keeps.refl _)
      obtain ⟨X, hX⟩ : ∃ X : ByteArray, ⟨(rowL x).toArray⟩ = X := ⟨_, rfl⟩
      have CP : Hid (∀ W, Calls Tryd.prog 33 #[rwV x] W fun e w' => e = .returned (.string X) ∧ Keeps W w') := Lib.hid fun W => hX ▸ pw_putRow p x W RX.out
      have CW : Hid (∀ W, TwText w1 w1.heap.size (headL p s N ++ (L.take k).flatMap rowL) W → Calls Tryd.prog 31 #[.pointer (some ⟨w1.heap.size, 0, none⟩), .string X] W fun e w' => (∃ n : Int, e = .returned (.tuple #[.int .i64 n, .nilIface])) ∧ TwText w1 w1.heap.size (headL p s N ++ (L.take (k + 1)).flatMap rowL) w') := Lib.hid fun W ht => by
        have h := twText_string w1 W w1.heap.size _ (rowL x) ht (by have := HA.out; omega) (by have := rowL_le RX.out; omega)
        rw [hX, List.append_assoc, ← FT.out] at h
        exact h
      unfold rwV at CP
      clear hc1 hx hX
      go_wp2_with fail
      refine (CP.out _).mono ?_
      rintro e w5 ⟨rfl, k5⟩
      have HT := Lib.hid (HT.out.on k5)
      clear k5 z0 z1 z2 z3 z4 q0 q1 q2 q3 q4
      go_wp2_with fail
      refine (CW.out _ HT.out).mono ?_
      rintro e w6 ⟨⟨n6, rfl⟩, h6⟩
      have HT := Lib.hid h6
      clear h6
      go_wp2_with fail
      exact ⟨⟨k + 1, by have := HK.out; omega, by go_num, HT.out⟩, by have := HK.out; simp [intOf]; omega⟩
end Go.Proofs.YtomonhghioamfaaDoor
