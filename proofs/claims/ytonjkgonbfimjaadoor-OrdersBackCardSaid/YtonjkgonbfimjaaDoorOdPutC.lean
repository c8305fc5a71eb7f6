/- The program's Put of orders, and the document's. -/
import Derived.Test.YtonjkgonbfimjaaDoorOdC2
import Derived.Test.YtonjkgonbfimjaaDoorBitsReadC
import Derived.Test.YtonjkgonbfimjaaDoorBitsRefC
import Derived.Test.YtonjkgonbfimjaaDoorKyRefG
import Derived.Deep.RegionHeld3
import Derived.Deep.QuietTactic
import Derived.BigQuiet
set_option linter.unusedVariables false
namespace Go.Proofs.YtonjkgonbfimjaaDoor
open Go.ChangeShapes Go.WideShapes Go.ChangeAt Go.RowKit Bit Ky Od

def putOS (i : Int) (r s : ByteArray) (q a : Int) : ByteArray := ⟨(putO i r s q a).toArray⟩
theorem od_cells (w : World) (i : Int) (r s : ByteArray) (q a : Int) : ∀ W, Keeps (w.alloc (odBox i r s q a)) W →
    W.cell? ⟨w.heap.size, 0, none⟩ = some (.int .i64 i) ∧ W.cell? ⟨w.heap.size, 1, none⟩ = some (.string r) ∧ W.cell? ⟨w.heap.size, 2, none⟩ = some (.string s) ∧ W.cell? ⟨w.heap.size, 3, none⟩ = some (.int .i64 q) ∧ W.cell? ⟨w.heap.size, 4, none⟩ = some (.int .i64 a) := fun W k => by
  have e := (k.block _ (by simp)).trans (heap_alloc_new w (odBox i r s q a))
  exact ⟨Joins.cell_of_block e 0, Joins.cell_of_block e 1, Joins.cell_of_block e 2, Joins.cell_of_block e 3, Joins.cell_of_block e 4⟩
theorem cat_raw {i q a : Int} {r s V1 V2 V3 V4 V5 S1 S2 S3 S4 : ByteArray} (h1 : ⟨(sev i.toNat).toArray⟩ = V1) (h2 : ⟨(text r.data.toList).toArray⟩ = V2) (h3 : ⟨(text s.data.toList).toArray⟩ = V3) (h4 : ⟨(sev q.toNat).toArray⟩ = V4) (h5 : ⟨(sev a.toNat).toArray⟩ = V5)
    (e1 : V1 ++ V2 = S1) (e2 : S1 ++ V3 = S2) (e3 : S2 ++ V4 = S3) (e4 : S3 ++ V5 = S4) : S4 = ⟨(rawO i r s q a).toArray⟩ := by
  subst h1 h2 h3 h4 h5 e1 e2 e3 e4
  unfold rawO
  simp only [ByteArray.mk_append_mk]
theorem small_sev {n : Int} (h0 : 0 ≤ n) (h : n ≤ 1099511627776) : (⟨(sev n.toNat).toArray⟩ : ByteArray).size ≤ 10 := by
  rw [size_mk]
  exact sev_le (by have ht : topN = 18446744073709551616 := rfl; omega)
theorem small_text {r : ByteArray} (h : r.size ≤ 16) : (⟨(text r.data.toList).toArray⟩ : ByteArray).size ≤ 26 := by
  rw [size_mk]
  unfold text
  rw [List.length_append, len_data]
  have := sev_le (n := r.size) (by have ht : topN = 18446744073709551616 := rfl; omega)
  omega
theorem u64s {n : Int} (h0 : 0 ≤ n) (h : n ≤ 1099511627776) : IntKind.u64.wrap n = ((n.toNat : Nat) : Int) := by
  rw [u64w h0 (by have ht : (topN : Int) = 18446744073709551616 := rfl; omega)]; omega

set_option maxHeartbeats 8000000 in
theorem od_put (i : Int) (r s : ByteArray) (q a : Int) (w : World) (hr : r.size ≤ maxLen) (hs : s.size ≤ maxLen) :
    Calls Tryd.prog 13 #[odV i r s q a] w fun e w' => e = .returned (.string (putOS i r s q a)) ∧ Keeps w w' := by
  have KB := Lib.hid (ky_box w (odBox i r s q a))
  have HC := Lib.hid (od_check i r s q a (w.alloc (odBox i r s q a)) hr hs)
  obtain ⟨c, hc⟩ : ∃ c, checkO i r s q a = c := ⟨_, rfl⟩
  have HCC := Lib.hid hc
  rw [hc] at HC
  have CX := Lib.hid (od_cells w i r s q a)
  clear hc hr hs
  unfold odBox at KB HC CX
  unfold odV at HC ⊢
  go_enter Tryd.func13, Tryd.ntmps13
  go_wp2_with fail
  refine HC.out.mono ?_
  rintro e w1 ⟨rfl, k1⟩
  have K1 := Lib.hid k1
  have K01 := Lib.hid (KB.out.trans k1)
  clear k1 HC
  by_cases hc0 : c = 0
  · subst hc0
    have F := Lib.hid (check_fit.1 HCC.out)
    obtain ⟨V1, h1⟩ : ∃ V : ByteArray, ⟨(sev i.toNat).toArray⟩ = V := ⟨_, rfl⟩
    obtain ⟨V2, h2⟩ : ∃ V : ByteArray, ⟨(text r.data.toList).toArray⟩ = V := ⟨_, rfl⟩
    obtain ⟨V3, h3⟩ : ∃ V : ByteArray, ⟨(text s.data.toList).toArray⟩ = V := ⟨_, rfl⟩
    obtain ⟨V4, h4⟩ : ∃ V : ByteArray, ⟨(sev q.toNat).toArray⟩ = V := ⟨_, rfl⟩
    obtain ⟨V5, h5⟩ : ∃ V : ByteArray, ⟨(sev a.toNat).toArray⟩ = V := ⟨_, rfl⟩
    obtain ⟨S1, e1⟩ : ∃ S, V1 ++ V2 = S := ⟨_, rfl⟩
    obtain ⟨S2, e2⟩ : ∃ S, S1 ++ V3 = S := ⟨_, rfl⟩
    obtain ⟨S3, e3⟩ : ∃ S, S2 ++ V4 = S := ⟨_, rfl⟩
    obtain ⟨S4, e4⟩ : ∃ S, S3 ++ V5 = S := ⟨_, rfl⟩
    have i0 := F.out.i0
    have i1 := F.out.i1
    have q0 := F.out.q0
    have q1 := F.out.q1
    have a0 := F.out.a0
    have a1 := F.out.a1
    have z1 : V1.size ≤ 10 := h1 ▸ small_sev (by omega) (by omega)
    have z2 : V2.size ≤ 26 := h2 ▸ small_text F.out.r1
    have z3 : V3.size ≤ 26 := h3 ▸ small_text (by have := F.out.s1; omega)
    have z4 : V4.size ≤ 10 := h4 ▸ small_sev (by omega) (by omega)
    have z5 : V5.size ≤ 10 := h5 ▸ small_sev (by omega) (by omega)
    have y1 : S1.size ≤ 36 := by rw [← e1, ByteArray.size_append]; omega
    have y2 : S2.size ≤ 62 := by rw [← e2, ByteArray.size_append]; omega
    have y3 : S3.size ≤ 72 := by rw [← e3, ByteArray.size_append]; omega
    have E : Hid (putOS i r s q a = S4) := Lib.hid (by
      unfold putOS
      rw [putO_yes F.out]
      exact (cat_raw h1 h2 h3 h4 h5 e1 e2 e3 e4).symm)
    have n1 : ¬ (9223372036854775807 < V1.size + V2.size) := by omega
    have n2 : ¬ (9223372036854775807 < S1.size + V3.size) := by omega
    have n3 : ¬ (9223372036854775807 < S2.size + V4.size) := by omega
    have n4 : ¬ (9223372036854775807 < S3.size + V5.size) := by omega
    obtain ⟨N1, m1⟩ : ∃ N : Nat, i.toNat = N := ⟨_, rfl⟩
    obtain ⟨N4, m4⟩ : ∃ N : Nat, q.toNat = N := ⟨_, rfl⟩
    obtain ⟨N5, m5⟩ : ∃ N : Nat, a.toNat = N := ⟨_, rfl⟩
    have u1 : IntKind.u64.wrap i = ((N1 : Nat) : Int) := m1 ▸ u64s (by omega) (by omega)
    have u4 : IntKind.u64.wrap q = ((N4 : Nat) : Int) := m4 ▸ u64s (by omega) (by omega)
    have u5 : IntKind.u64.wrap a = ((N5 : Nat) : Int) := m5 ▸ u64s (by omega) (by omega)
    have ht : topN = 18446744073709551616 := rfl
    have CV : Hid (∀ (N : Nat) (V : ByteArray) W, N < topN → ⟨(sev N).toArray⟩ = V → Keeps w1 W → Calls Tryd.prog 25 #[.int .u64 N] W fun e w' => e = .returned (.string V) ∧ Keeps w1 w') := Lib.hid fun N V W hN hV kk => by
      subst hV
      exact (var_any N W hN).mono fun e w' h => ⟨h.1, kk.trans h.2⟩
    have CT : Hid (∀ (t V : ByteArray) W, t.size ≤ 16 → ⟨(text t.data.toList).toArray⟩ = V → Keeps w1 W → Calls Tryd.prog 26 #[.string t] W fun e w' => e = .returned (.string V) ∧ Keeps w1 w') := Lib.hid fun t V W ht hV kk => by
      subst hV
      exact (text_any t W (by omega)).mono fun e w' h => ⟨h.1, kk.trans h.2⟩
    have C1 := Lib.hid fun W => CV.out N1 V1 W (by omega) (m1 ▸ h1)
    have C4 := Lib.hid fun W => CV.out N4 V4 W (by omega) (m4 ▸ h4)
    have C5 := Lib.hid fun W => CV.out N5 V5 W (by omega) (m5 ▸ h5)
    have C2 := Lib.hid fun W => CT.out r V2 W F.out.r1 h2
    have C3 := Lib.hid fun W => CT.out s V3 W (by have := F.out.s1; omega) h3
    obtain ⟨x0, x1, x2, x3, x4⟩ := CX.out w1 K1.out
    clear h1 h2 h3 h4 h5 z1 z2 z3 z4 z5 y1 y2 y3 m1 m4 m5 ht i0 i1 q0 q1 a0 a1 CV CT
    go_wp2_with fail
    go_region_held3 (fun W => W.cell? ⟨w.heap.size, 0, none⟩ = some (.int .i64 i) ∧ W.cell? ⟨w.heap.size, 1, none⟩ = some (.string r) ∧ W.cell? ⟨w.heap.size, 2, none⟩ = some (.string s) ∧ W.cell? ⟨w.heap.size, 3, none⟩ = some (.int .i64 q) ∧ W.cell? ⟨w.heap.size, 4, none⟩ = some (.int .i64 a))
      (first | exact CX.out _ (K1.out.trans HV.out) | exact CX.out _ (K1.out.trans (ky_drew _)) | assumption) (first
      | (go_at_call 25; (with_reducible refine (C1.out _ (ky_drew _)).mono ?_); rintro e wv ⟨rfl, hv⟩; have HV := Lib.hid hv; have zv := CX.out _ (K1.out.trans hv); clear hv C1)
      | (go_at_call 26; (with_reducible refine (C2.out _ HV.out).mono ?_); clear HV C2; rintro e wv ⟨rfl, hv⟩; have HV := Lib.hid hv; have zv := CX.out _ (K1.out.trans hv); clear hv)
      | (go_at_call 26; (with_reducible refine (C3.out _ HV.out).mono ?_); clear HV C3; rintro e wv ⟨rfl, hv⟩; have HV := Lib.hid hv; have zv := CX.out _ (K1.out.trans hv); clear hv)
      | (go_at_call 25; (with_reducible refine (C4.out _ HV.out).mono ?_); clear HV C4; rintro e wv ⟨rfl, hv⟩; have HV := Lib.hid hv; have zv := CX.out _ (K1.out.trans hv); clear hv)
      | (go_at_call 25; (with_reducible refine (C5.out _ HV.out).mono ?_); clear HV C5; rintro e wv ⟨rfl, hv⟩; have HV := Lib.hid hv; have zv := CX.out _ (K1.out.trans hv); clear hv))
    go_wp2
    go_ret
    exact ⟨ret_str E.out.symm, K01.out.trans HV.out⟩
  · have E : Hid (putOS i r s q a = ⟨#[]⟩) := Lib.hid (by unfold putOS; rw [putO_no (by rw [HCC.out]; exact hc0)])
    have t : (c == 0) = false := by rw [beq_eq_false_iff_ne]; exact hc0
    have t2 : (c != 0) = true := by rw [bne, t]; rfl
    clear hc0 CX
    go_wp2
    go_ret
    exact ⟨ret_str E.out.symm, K01.out⟩

set_option maxHeartbeats 8000000 in
theorem or_put (i : Int) (r s : ByteArray) (q a : Int) (w : World) (hr : r.size ≤ maxLen) (hs : s.size ≤ maxLen) :
    Calls Tryd.prog 14 #[odV i r s q a] w fun e w' => e = .returned (.string (putOS i r s q a)) ∧ Keeps w w' := by
  have KB := Lib.hid (ky_box w (odBox i r s q a))
  have HC := Lib.hid (or_check i r s q a (w.alloc (odBox i r s q a)) hr hs)
  obtain ⟨c, hc⟩ : ∃ c, checkO i r s q a = c := ⟨_, rfl⟩
  have HCC := Lib.hid hc
  rw [hc] at HC
  have CX := Lib.hid (od_cells w i r s q a)
  clear hc hr hs
  unfold odBox at KB HC CX
  unfold odV at HC ⊢
  go_enter Tryd.func14, Tryd.ntmps14
  go_wp2_with fail
  refine HC.out.mono ?_
  rintro e w1 ⟨rfl, k1⟩
  have K1 := Lib.hid k1
  have K01 := Lib.hid (KB.out.trans k1)
  clear k1 HC
  by_cases hc0 : c = 0
  · subst hc0
    have F := Lib.hid (check_fit.1 HCC.out)
    obtain ⟨V1, h1⟩ : ∃ V : ByteArray, ⟨(sev i.toNat).toArray⟩ = V := ⟨_, rfl⟩
    obtain ⟨V2, h2⟩ : ∃ V : ByteArray, ⟨(text r.data.toList).toArray⟩ = V := ⟨_, rfl⟩
    obtain ⟨V3, h3⟩ : ∃ V : ByteArray, ⟨(text s.data.toList).toArray⟩ = V := ⟨_, rfl⟩
    obtain ⟨V4, h4⟩ : ∃ V : ByteArray, ⟨(sev q.toNat).toArray⟩ = V := ⟨_, rfl⟩
    obtain ⟨V5, h5⟩ : ∃ V : ByteArray, ⟨(sev a.toNat).toArray⟩ = V := ⟨_, rfl⟩
    obtain ⟨S1, e1⟩ : ∃ S, V1 ++ V2 = S := ⟨_, rfl⟩
    obtain ⟨S2, e2⟩ : ∃ S, S1 ++ V3 = S := ⟨_, rfl⟩
    obtain ⟨S3, e3⟩ : ∃ S, S2 ++ V4 = S := ⟨_, rfl⟩
    obtain ⟨S4, e4⟩ : ∃ S, S3 ++ V5 = S := ⟨_, rfl⟩
    have i0 := F.out.i0
    have i1 := F.out.i1
    have q0 := F.out.q0
    have q1 := F.out.q1
    have a0 := F.out.a0
    have a1 := F.out.a1
    have z1 : V1.size ≤ 10 := h1 ▸ small_sev (by omega) (by omega)
    have z2 : V2.size ≤ 26 := h2 ▸ small_text F.out.r1
    have z3 : V3.size ≤ 26 := h3 ▸ small_text (by have := F.out.s1; omega)
    have z4 : V4.size ≤ 10 := h4 ▸ small_sev (by omega) (by omega)
    have z5 : V5.size ≤ 10 := h5 ▸ small_sev (by omega) (by omega)
    have y1 : S1.size ≤ 36 := by rw [← e1, ByteArray.size_append]; omega
    have y2 : S2.size ≤ 62 := by rw [← e2, ByteArray.size_append]; omega
    have y3 : S3.size ≤ 72 := by rw [← e3, ByteArray.size_append]; omega
    have E : Hid (putOS i r s q a = S4) := Lib.hid (by
      unfold putOS
      rw [putO_yes F.out]
      exact (cat_raw h1 h2 h3 h4 h5 e1 e2 e3 e4).symm)
    have n1 : ¬ (9223372036854775807 < V1.size + V2.size) := by omega
    have n2 : ¬ (9223372036854775807 < S1.size + V3.size) := by omega
    have n3 : ¬ (9223372036854775807 < S2.size + V4.size) := by omega
    have n4 : ¬ (9223372036854775807 < S3.size + V5.size) := by omega
    obtain ⟨N1, m1⟩ : ∃ N : Nat, i.toNat = N := ⟨_, rfl⟩
    obtain ⟨N4, m4⟩ : ∃ N : Nat, q.toNat = N := ⟨_, rfl⟩
    obtain ⟨N5, m5⟩ : ∃ N : Nat, a.toNat = N := ⟨_, rfl⟩
    have u1 : IntKind.u64.wrap i = ((N1 : Nat) : Int) := m1 ▸ u64s (by omega) (by omega)
    have u4 : IntKind.u64.wrap q = ((N4 : Nat) : Int) := m4 ▸ u64s (by omega) (by omega)
    have u5 : IntKind.u64.wrap a = ((N5 : Nat) : Int) := m5 ▸ u64s (by omega) (by omega)
    have ht : topN = 18446744073709551616 := rfl
    have CV : Hid (∀ (N : Nat) (V : ByteArray) W, N < topN → ⟨(sev N).toArray⟩ = V → Keeps w1 W → Calls Tryd.prog 27 #[.int .u64 N] W fun e w' => e = .returned (.string V) ∧ Keeps w1 w') := Lib.hid fun N V W hN hV kk => by
      subst hV
      exact (rvar_any' N W hN).mono fun e w' h => ⟨h.1, kk.trans h.2⟩
    have CT : Hid (∀ (t V : ByteArray) W, t.size ≤ 16 → ⟨(text t.data.toList).toArray⟩ = V → Keeps w1 W → Calls Tryd.prog 28 #[.string t] W fun e w' => e = .returned (.string V) ∧ Keeps w1 w') := Lib.hid fun t V W ht hV kk => by
      subst hV
      exact (rtext_any t W (by omega)).mono fun e w' h => ⟨h.1, kk.trans h.2⟩
    have C1 := Lib.hid fun W => CV.out N1 V1 W (by omega) (m1 ▸ h1)
    have C4 := Lib.hid fun W => CV.out N4 V4 W (by omega) (m4 ▸ h4)
    have C5 := Lib.hid fun W => CV.out N5 V5 W (by omega) (m5 ▸ h5)
    have C2 := Lib.hid fun W => CT.out r V2 W F.out.r1 h2
    have C3 := Lib.hid fun W => CT.out s V3 W (by have := F.out.s1; omega) h3
    obtain ⟨x0, x1, x2, x3, x4⟩ := CX.out w1 K1.out
    clear h1 h2 h3 h4 h5 z1 z2 z3 z4 z5 y1 y2 y3 m1 m4 m5 ht i0 i1 q0 q1 a0 a1 CV CT
    go_wp2_with fail
    go_region_held3 (fun W => W.cell? ⟨w.heap.size, 0, none⟩ = some (.int .i64 i) ∧ W.cell? ⟨w.heap.size, 1, none⟩ = some (.string r) ∧ W.cell? ⟨w.heap.size, 2, none⟩ = some (.string s) ∧ W.cell? ⟨w.heap.size, 3, none⟩ = some (.int .i64 q) ∧ W.cell? ⟨w.heap.size, 4, none⟩ = some (.int .i64 a))
      (first | exact CX.out _ (K1.out.trans HV.out) | exact CX.out _ (K1.out.trans (ky_drew _)) | assumption) (first
      | (go_at_call 27; (with_reducible refine (C1.out _ (ky_drew _)).mono ?_); rintro e wv ⟨rfl, hv⟩; have HV := Lib.hid hv; have zv := CX.out _ (K1.out.trans hv); clear hv C1)
      | (go_at_call 28; (with_reducible refine (C2.out _ HV.out).mono ?_); clear HV C2; rintro e wv ⟨rfl, hv⟩; have HV := Lib.hid hv; have zv := CX.out _ (K1.out.trans hv); clear hv)
      | (go_at_call 28; (with_reducible refine (C3.out _ HV.out).mono ?_); clear HV C3; rintro e wv ⟨rfl, hv⟩; have HV := Lib.hid hv; have zv := CX.out _ (K1.out.trans hv); clear hv)
      | (go_at_call 27; (with_reducible refine (C4.out _ HV.out).mono ?_); clear HV C4; rintro e wv ⟨rfl, hv⟩; have HV := Lib.hid hv; have zv := CX.out _ (K1.out.trans hv); clear hv)
      | (go_at_call 27; (with_reducible refine (C5.out _ HV.out).mono ?_); clear HV C5; rintro e wv ⟨rfl, hv⟩; have HV := Lib.hid hv; have zv := CX.out _ (K1.out.trans hv); clear hv))
    go_wp2
    go_ret
    exact ⟨ret_str E.out.symm, K01.out.trans HV.out⟩
  · have E : Hid (putOS i r s q a = ⟨#[]⟩) := Lib.hid (by unfold putOS; rw [putO_no (by rw [HCC.out]; exact hc0)])
    have t : (c == 0) = false := by rw [beq_eq_false_iff_ne]; exact hc0
    have t2 : (c != 0) = true := by rw [bne, t]; rfl
    clear hc0 CX
    go_wp2
    go_ret
    exact ⟨ret_str E.out.symm, K01.out⟩
end Go.Proofs.YtonjkgonbfimjaaDoor
