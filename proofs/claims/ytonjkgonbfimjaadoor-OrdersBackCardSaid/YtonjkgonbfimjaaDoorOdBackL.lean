/- OrdersBack: the walk. -/
import Derived.Test.YtonjkgonbfimjaaDoorOdTellL
import Derived.Test.YtonjkgonbfimjaaDoorOdGetL
set_option linter.unusedVariables false
namespace Go.Proofs.YtonjkgonbfimjaaDoor
open Go.ChangeShapes Go.WideShapes Go.ChangeAt Go.RowKit Bit Ky Od

theorem may_yes {i q a d t o k Q A : Int} {r s S : ByteArray} (h : Fit i r s q a) (h0 : 0 ≤ d) (h6 : d < 6) (hm : IsM i r s q a d t o k S Q A) : mayM t o k S Q A 0 = true ∧ i = o ∧ d = k := by
  rcases hm with ⟨_, _, _, rfl, rfl, rfl, h4⟩ | ⟨hn, _⟩
  · refine ⟨?_, rfl, rfl⟩
    have hc : checkK o k = true := check_iff.2 ⟨by have := h.i0; omega, by have := h.i1; omega, h0, h6⟩
    rcases h4 with ⟨hp, rfl, rfl, rfl⟩ | ⟨hp, rfl, rfl, rfl⟩
    · rw [may_pay hc rfl rfl hp]
      unfold amtB
      rw [decide_eq_true (show 1 ≤ A ∧ A ≤ 1099511627776 from ⟨h.a0, h.a1⟩)]
      rfl
    · rw [may_goods hc rfl rfl hp]
      unfold goodsB qtyB
      rw [decide_eq_true h.s0, decide_eq_true h.s1, h.ns, decide_eq_true (show 1 ≤ Q ∧ Q ≤ 999 from ⟨h.q0, h.q1⟩)]
      rfl
  · exact absurd ⟨check_fit.2 h, h0, h6⟩ hn
theorem isM_small {i q a d t o k Q A : Int} {r s S : ByteArray} (h : Fit i r s q a) (hm : IsM i r s q a d t o k S Q A) : S.size ≤ maxLen := by
  have := h.s1
  unfold maxLen
  rcases hm with ⟨_, _, _, _, _, _, ⟨_, rfl, _⟩ | ⟨_, rfl, _⟩⟩ | ⟨_, _, _, _, rfl, _⟩
  · show 0 ≤ _; omega
  · omega
  · show 0 ≤ _; omega
theorem isM_none {i q a t o k Q A : Int} {r s S : ByteArray} (h : ¬ checkO i r s q a = 0) (hm : IsM i r s q a 1 t o k S Q A) : t = 0 ∧ o = 0 ∧ k = 0 ∧ S = ⟨#[]⟩ ∧ Q = 0 ∧ A = 0 := by
  rcases hm with ⟨hc, _⟩ | ⟨_, h1, h2, h3, h4, h5, h6⟩
  · exact absurd hc h
  · exact ⟨h1, h2, h3, h4, h5, h6⟩
def got0 : Value := .tuple #[.agg #[.int .i64 0, .string ⟨#[]⟩, .string ⟨#[]⟩, .int .i64 0, .int .i64 0], .int .i64 10]
theorem get_none (s : ByteArray) (hs : s.size ≤ maxLen) (h : okO s.data.toList = false) : ∀ W, Calls Tryd.prog 15 #[.string s] W fun e w' => e = .returned (.tuple #[.agg #[.int .i64 0, .string ⟨#[]⟩, .string ⟨#[]⟩, .int .i64 0, .int .i64 0], .int .i64 10]) ∧ Keeps W w' := fun W =>
  (od_get s W hs).mono fun e w' ⟨i, r, S, q, a, c, he, hi, k⟩ => by
    rcases hi with ⟨h1, _⟩ | ⟨_, rfl, rfl, rfl, rfl, rfl, rfl⟩
    · rw [h] at h1; cases h1
    · exact ⟨he, k⟩
theorem get_some {i q a : Int} {r S s : ByteArray} (hs : s.size ≤ maxLen) (h : Fit i r S q a) (e : rawO i r S q a = s.data.toList) : ∀ W, Calls Tryd.prog 15 #[.string s] W fun e w' => e = .returned (.tuple #[.agg #[.int .i64 i, .string r, .string S, .int .i64 q, .int .i64 a], .int .i64 0]) ∧ Keeps W w' := fun W =>
  (od_get s W hs).mono fun e' w' ⟨i', r', S', q', a', c', he, hi, k⟩ => by
    obtain ⟨rfl, rfl, rfl, rfl, rfl, rfl⟩ := (show IsO s.data.toList i r S q a 0 from Or.inl ⟨yes_raw h e, h, e, rfl⟩).same hi
    exact ⟨he, k⟩
theorem five_in {w W : World} {n : Nat} {x0 x1 x2 x3 x4 : Value} (h : w.heap[n]? = some (.cells #[x0, x1, x2, x3, x4] tOd (0, 0))) (k : Keeps w W) : W.heap[n]? = some (.cells #[x0, x1, x2, x3, x4] tOd (0, 0)) :=
  (k.block _ (Array.getElem?_eq_some_iff.1 h).1).trans h
/-- All that is read at the end. -/
def Four (b0 b1 b2 b3 : Nat) (i : Int) (r s : ByteArray) (q a : Int) (x0 x1 x2 x3 x4 : Value) (W : World) : Prop :=
  W.heap[b0]? = some (.cells #[.int .i64 i, .string r, .string s, .int .i64 q, .int .i64 a] tOd (0, 0)) ∧
  W.heap[b1]? = some (.cells #[.int .i64 i, .string r, .string s, .int .i64 q, .int .i64 a] tOd (0, 0)) ∧
  W.heap[b2]? = some (.cells #[.int .i64 0, .string ⟨#[]⟩, .string ⟨#[]⟩, .int .i64 0, .int .i64 0] tOd (0, 0)) ∧
  W.heap[b3]? = some (.cells #[x0, x1, x2, x3, x4] tOd (0, 0))
set_option maxHeartbeats 16000000 in
set_option maxRecDepth 100000 in
theorem ordersBack_go (i : Int) (r s : ByteArray) (q a : Int) (h : ByteArray) (C : Nat) (w : World) (hp : HasP w) (hr : r.size ≤ maxLen) (hs : s.size ≤ maxLen) (hh : h.size ≤ maxLen) (hC : C < 256) :
    Calls Tryd.prog 5 #[odV i r s q a, .string h, .int .u8 C] w fun e w' => e = .returned (.bool true) ∧ Keeps w w' := by
  have KB := Lib.hid (ky_box w (odBox i r s q a))
  have OF := Lib.hid (ordered_from w hp)
  have OD := Lib.hid (OF.out _ KB.out)
  obtain ⟨b, hb⟩ : ∃ b, (decide (300 < r.size) || decide (300 < s.size)) = b := ⟨_, rfl⟩
  have GC := Lib.hid fun W => great_is i r s q a b W hr hs hb
  have MA := Lib.hid fun d t o k S Q A h => od_msg_at i r s q a w hp hr hs d t o k S Q A _ h KB.out
  have MY := Lib.hid fun t o d S q a hS hb => od_may_at t o d S q a 0 w hp hS true hb
  obtain ⟨c, hc⟩ : ∃ c, checkO i r s q a = c := ⟨_, rfl⟩
  obtain ⟨X, hX⟩ : ∃ X, putOS i r s q a = X := ⟨_, rfl⟩
  have HC := Lib.hid hc
  have HX := Lib.hid hX
  have C1 : Hid (∀ W, Keeps (w.alloc (odBox i r s q a)) W → Calls Tryd.prog 11 #[odV i r s q a] W fun e w' => e = .returned (.int .i64 c) ∧ Keeps (w.alloc (odBox i r s q a)) w') := Lib.hid fun W k => Calls.mono (hc ▸ od_check i r s q a W hr hs) fun e w' h => ⟨h.1, k.trans h.2⟩
  have P1 : Hid (∀ W, Keeps (w.alloc (odBox i r s q a)) W → Calls Tryd.prog 13 #[odV i r s q a] W fun e w' => e = .returned (.string X) ∧ Keeps (w.alloc (odBox i r s q a)) w') := Lib.hid fun W k => Calls.mono (hX ▸ od_put i r s q a W hr hs) fun e w' h => ⟨h.1, k.trans h.2⟩
  have CX := Lib.hid (od_cells w i r s q a)
  have CB : Hid (∀ W, Keeps (w.alloc (odBox i r s q a)) W → W.heap[w.heap.size]? = some (.cells #[.int .i64 i, .string r, .string s, .int .i64 q, .int .i64 a] tOd (0, 0))) := Lib.hid box_cells
  have te1 : (r.toList == r.toList) = true := by simp
  have te2 : (s.toList == s.toList) = true := by simp
  unfold maxLen at hh
  clear hp hb hc hX hr hs
  unfold odBox at KB OD MA C1 P1 CX CB
  unfold odV at GC MA C1 P1 ⊢
  unfold msV at MA MY
  by_cases hbb : b = true
  · subst hbb
    go_enter Tryd.func5, Tryd.ntmps5
    go_wp2_with fail
    refine (GC.out _).mono ?_
    rintro e w1 ⟨rfl, k1⟩
    go_wp2_with fail
    refine (OD.out _ k1).mono ?_
    rintro e w2 ⟨rfl, k2⟩
    go_wp2
    go_ret
    exact ⟨rfl, KB.out.trans k2⟩
  obtain rfl : b = false := by simpa using hbb
  clear hbb
  by_cases h50 : h.size ≤ 50
  rotate_left
  · go_enter Tryd.func5, Tryd.ntmps5
    go_wp2_with fail
    refine (GC.out _).mono ?_
    rintro e w1 ⟨rfl, k1⟩
    go_wp2_with fail
    refine (OD.out _ k1).mono ?_
    rintro e w2 ⟨rfl, k2⟩
    go_wp2
    go_ret
    exact ⟨rfl, KB.out.trans k2⟩
  by_cases hc0 : c = 0
  rotate_left
  · obtain ⟨t, o, k, S, Q, A, hm⟩ := isM_ex i r s q a 1
    obtain ⟨rfl, rfl, rfl, rfl, rfl, rfl⟩ := isM_none (by rw [HC.out]; exact hc0) hm
    have M1 := Lib.hid (MA.out _ _ _ _ _ _ _ hm)
    obtain rfl : X = ⟨#[]⟩ := by rw [← HX.out]; unfold putOS; rw [putO_no (by rw [HC.out]; exact hc0)]
    have t1 : (c == 0) = false := by rw [beq_eq_false_iff_ne]; exact hc0
    have t2 : (c != 0) = true := by rw [bne, t1]; rfl
    clear hm MA MY hc0 HX HC
    go_enter Tryd.func5, Tryd.ntmps5
    go_wp2_with fail
    refine (GC.out _).mono ?_
    rintro e w1 ⟨rfl, k1⟩
    have HV := Lib.hid k1
    obtain ⟨x0, x1, x2, x3, x4⟩ := CX.out _ HV.out
    clear k1 GC
    go_wp2_with fail
    refine (P1.out _ HV.out).mono ?_
    clear HV x0 x1 x2 x3 x4
    rintro e w1 ⟨rfl, k1⟩
    have HV := Lib.hid k1
    obtain ⟨x0, x1, x2, x3, x4⟩ := CX.out _ HV.out
    clear k1 P1
    go_wp2_with fail
    refine (C1.out _ HV.out).mono ?_
    clear HV x0 x1 x2 x3 x4
    rintro e w1 ⟨rfl, k1⟩
    have HV := Lib.hid k1
    obtain ⟨x0, x1, x2, x3, x4⟩ := CX.out _ HV.out
    clear k1 C1
    go_wp2_with fail
    refine (M1.out _ HV.out).mono ?_
    clear HV x0 x1 x2 x3 x4
    rintro e w1 ⟨rfl, k1⟩
    have HV := Lib.hid k1
    clear k1 M1
    go_wp2_with fail
    refine (OD.out _ HV.out).mono ?_
    rintro e w1 ⟨rfl, k1⟩
    go_wp2
    go_ret
    exact ⟨rfl, KB.out.trans k1⟩
  subst hc0
  have F := Lib.hid (check_fit.1 HC.out)
  have RX : Hid (rawO i r s q a = X.data.toList) := Lib.hid (by rw [← HX.out]; unfold putOS; rw [putO_yes F.out])
  have hx1 : 1 ≤ X.size := by rw [← len_data, ← RX.out]; exact raw_ne
  have hx74 : X.size ≤ 74 := by rw [← len_data, ← RX.out]; exact raw_le F.out
  have hx0 : ((X.size : Int) == 0) = false := by rw [beq_eq_false_iff_ne]; omega
  have hxe : ¬ X = ByteArray.empty := fun e => by rw [e] at hx1; exact absurd hx1 (by decide)
  obtain ⟨m, hm⟩ : ∃ m, C % X.size = m := ⟨_, rfl⟩
  have hmX : m < X.size := hm ▸ Nat.mod_lt _ (by omega)
  have hm1 : (C : Int) % (X.size : Int) = (m : Int) := by rw [← hm]; omega
  have hm2 : Int.tmod (C : Int) (X.size : Int) = (m : Int) := by rw [Int.tmod_eq_emod_of_nonneg (by omega)]; exact hm1
  obtain ⟨Y, hY⟩ : ∃ Y, X.extract 0 m = Y := ⟨_, rfl⟩
  obtain ⟨Z, hZ⟩ : ∃ Z, X ++ h = Z := ⟨_, rfl⟩
  have hYl : Y.data.toList = X.data.toList.take m := by rw [← hY, ← ByteArray.toList_eq, extract_list]; simp
  have hZl : Z.data.toList = X.data.toList ++ h.data.toList := by rw [← hZ]; simp
  have hYs : Y.size ≤ maxLen := by rw [← len_data, hYl, List.length_take, len_data]; unfold maxLen; omega
  have hZs : Z.size ≤ maxLen := by rw [← hZ, ByteArray.size_append]; unfold maxLen; omega
  have G1 := Lib.hid (get_some (s := X) (by unfold maxLen; omega) F.out RX.out)
  have G2 := Lib.hid (get_none Y hYs (by rw [hYl, ← RX.out]; exact ok_cut F.out (by rw [RX.out, len_data]; exact hmX)))
  have G3 : Hid (h.size = 0 → ∀ W, Calls Tryd.prog 15 #[.string Z] W fun e w' => e = .returned (.tuple #[.agg #[.int .i64 i, .string r, .string s, .int .i64 q, .int .i64 a], .int .i64 0]) ∧ Keeps W w') := Lib.hid fun h0 => get_some hZs F.out (by rw [hZl, size_none h0, RX.out]; simp)
  have G4 := Lib.hid fun hne => get_none Z hZs (by rw [hZl, ← RX.out]; exact ok_more F.out hne)
  have nz : ¬ (9223372036854775807 < X.size + h.size) := by omega
  have HM := Lib.hid hm
  have HY := Lib.hid hY
  have HZ := Lib.hid hZ
  have hmX2 : m ≤ X.size := by omega
  clear hYl hZl hYs hZs hm
  go_enter Tryd.func5, Tryd.ntmps5
  go_wp2_with fail
  refine (GC.out _).mono ?_
  rintro e w1 ⟨rfl, k1⟩
  have HV := Lib.hid k1
  obtain ⟨x0, x1, x2, x3, x4⟩ := CX.out _ HV.out
  clear k1 GC
  go_wp2_with fail
  refine (P1.out _ HV.out).mono ?_
  clear HV x0 x1 x2 x3 x4
  rintro e w1 ⟨rfl, k1⟩
  have HV := Lib.hid k1
  obtain ⟨x0, x1, x2, x3, x4⟩ := CX.out _ HV.out
  clear k1 P1
  go_wp2_with fail
  refine (C1.out _ HV.out).mono ?_
  clear HV x0 x1 x2 x3 x4
  rintro e w1 ⟨rfl, k1⟩
  have HV := Lib.hid k1
  clear k1 C1
  go_wp2_with fail
  go_loopw [8] (fun v8 W => ∃ k : Int, 0 ≤ k ∧ k ≤ 6 ∧ v8 = .int .i64 k ∧ Keeps (w.alloc (.cells #[.int .i64 i, .string r, .string s, .int .i64 q, .int .i64 a] tOd)) W) (fun v8 _ => (6 - intOf v8).toNat)
  case atStart => exact ⟨0, by omega, by omega, rfl, HV.out⟩
  case round =>
    clear HV
    obtain ⟨k, k0, k6, rfl, hk⟩ := hrel
    have HV := Lib.hid hk
    have K0 := Lib.hid k0
    clear hk
    obtain ⟨x0, x1, x2, x3, x4⟩ := CX.out _ HV.out
    by_cases hk6 : k < 6
    · have K6 := Lib.hid hk6
      obtain ⟨t, o, kk, S, Q, A, hM⟩ := isM_ex i r s q a k
      obtain ⟨hy, rfl, rfl⟩ := may_yes F.out K0.out hk6 hM
      have M1 := Lib.hid (MA.out k t i k S Q A hM)
      have MY1 := Lib.hid (MY.out t i k S Q A (isM_small F.out hM) hy)
      clear hM hy MA MY OD G1 G2 G3 G4 hm1 hm2 te1 te2
      go_wp2_with fail
      refine (M1.out _ HV.out).mono ?_
      rintro e w2 ⟨rfl, k2⟩
      have K2 := Lib.hid k2
      have A2 := Lib.hid (ky_box w2 (.cells #[.int .i64 t, .int .i64 i, .int .i64 k, .string S, .int .i64 Q, .int .i64 A, .int .i64 0] tMs))
      have CY : Hid (∀ W, Keeps (w2.alloc (.cells #[.int .i64 t, .int .i64 i, .int .i64 k, .string S, .int .i64 Q, .int .i64 A, .int .i64 0] tMs)) W → W.cell? ⟨w2.heap.size, 0, none⟩ = some (.int .i64 t) ∧ W.cell? ⟨w2.heap.size, 1, none⟩ = some (.int .i64 i) ∧ W.cell? ⟨w2.heap.size, 2, none⟩ = some (.int .i64 k) ∧ W.cell? ⟨w2.heap.size, 3, none⟩ = some (.string S) ∧ W.cell? ⟨w2.heap.size, 4, none⟩ = some (.int .i64 Q) ∧ W.cell? ⟨w2.heap.size, 5, none⟩ = some (.int .i64 A) ∧ W.cell? ⟨w2.heap.size, 6, none⟩ = some (.int .i64 0)) := Lib.hid (ms_cells w2 t i k S Q A 0)
      have MY2 := Lib.hid (MY1.out (w2.alloc (.cells #[.int .i64 t, .int .i64 i, .int .i64 k, .string S, .int .i64 Q, .int .i64 A, .int .i64 0] tMs)) (w2.alloc (.cells #[.int .i64 t, .int .i64 i, .int .i64 k, .string S, .int .i64 Q, .int .i64 A, .int .i64 0] tMs)) (KB.out.trans (K2.out.trans A2.out)) (Keeps.refl _))
      clear k2 x0 x1 x2 x3 x4 MY1 M1
      go_wp2_with fail
      refine MY2.out.mono ?_
      rintro e w3 ⟨rfl, k3⟩
      have K3 := Lib.hid (K2.out.trans (A2.out.trans k3))
      obtain ⟨y0, y1, y2, y3, y4, y5, y6⟩ := CY.out _ k3
      obtain ⟨x0, x1, x2, x3, x4⟩ := CX.out _ K3.out
      clear k3 MY2 CY
      go_wp2_with fail
      exact ⟨⟨k + 1, by have := K0.out; omega, by have := K6.out; omega, by go_num, K3.out⟩, by have := K6.out; have := K0.out; simp [intOf]; omega⟩
    · obtain rfl : k = 6 := by omega
      clear MA MY K0 x0 x1 x2 x3 x4
      have hyb := HY.out
      have hzb := HZ.out
      have i1 : (0 == i) = false := by rw [beq_eq_false_iff_ne]; have := F.out.i0; omega
      have i2 : (i == 0) = false := by rw [beq_eq_false_iff_ne]; have := F.out.i0; omega
      go_wp2_with fail
      refine (G1.out _).mono ?_
      rintro e wa ⟨rfl, ka⟩
      have KA := Lib.hid (HV.out.trans ka)
      have A1 := Lib.hid (ky_box wa (.cells #[.int .i64 i, .string r, .string s, .int .i64 q, .int .i64 a] tOd))
      clear ka
      go_wp2_with fail
      refine (G2.out _).mono ?_
      rintro e wb ⟨rfl, kb⟩
      have k4 := Lib.hid kb
      have A2 := Lib.hid (ky_box wb (.cells #[.int .i64 0, .string ⟨#[]⟩, .string ⟨#[]⟩, .int .i64 0, .int .i64 0] tOd))
      clear kb hm1 hm2 hyb
      by_cases h0 : h.size = 0
      · have G5 := Lib.hid (G3.out h0)
        obtain rfl := size_none h0
        have zz := str_none
        clear h0
        go_wp2_with fail
        refine (G5.out _).mono ?_
        rintro e w5 ⟨rfl, k5⟩
        obtain ⟨w6, hw6, k6, e0, e1, e2, e3⟩ : ∃ w6, w5.alloc (.cells #[.int .i64 i, .string r, .string s, .int .i64 q, .int .i64 a] tOd) = w6 ∧ Keeps (w.alloc (.cells #[.int .i64 i, .string r, .string s, .int .i64 q, .int .i64 a] tOd)) w6 ∧ Four w.heap.size wa.heap.size wb.heap.size w5.heap.size i r s q a (.int .i64 i) (.string r) (.string s) (.int .i64 q) (.int .i64 a) w6 := by
          have kk := (A2.out.trans k5).trans (ky_box w5 (.cells #[.int .i64 i, .string r, .string s, .int .i64 q, .int .i64 a] tOd))
          have kb := (KA.out.trans (A1.out.trans (k4.out.trans kk)))
          exact ⟨_, rfl, kb, CB.out _ kb, five_in (heap_alloc_new wa _) (k4.out.trans kk), five_in (heap_alloc_new wb _) ((k5).trans (ky_box w5 _)), heap_alloc_new w5 _⟩
        have HW6 := Lib.hid hw6
        have K6 := Lib.hid k6
        clear hw6 k6 k5 G1 G2 G3 G4 KA A1 A2 k4
        go_upto_region 17 with (fail)
        rw [HW6.out]
        clear HW6
        obtain ⟨⟨x0, x1, x2, x3, x4⟩, _⟩ := five_at e0
        obtain ⟨⟨y0, y1, y2, y3, y4⟩, _⟩ := five_at e1
        obtain ⟨⟨z0, z1, z2, z3, z4⟩, _⟩ := five_at e2
        obtain ⟨⟨u0, u1, u2, u3, u4⟩, _⟩ := five_at e3
        clear e0 e1 e2 e3
        go_wp2_with fail
        refine (OD.out _ K6.out).mono ?_
        rintro e w7 ⟨rfl, k7⟩
        go_wp2
        go_ret
        exact ⟨rfl, KB.out.trans k7⟩
      · have G5 := Lib.hid (G4.out (fun e => h0 (by rw [← len_data, e]; rfl)))
        obtain ⟨zz1, zz2⟩ := str_some (show 1 ≤ h.size by omega)
        clear h0
        go_wp2_with fail
        refine (G5.out _).mono ?_
        rintro e w5 ⟨rfl, k5⟩
        obtain ⟨w6, hw6, k6, e0, e1, e2, e3⟩ : ∃ w6, w5.alloc (.cells #[.int .i64 0, .string ⟨#[]⟩, .string ⟨#[]⟩, .int .i64 0, .int .i64 0] tOd) = w6 ∧ Keeps (w.alloc (.cells #[.int .i64 i, .string r, .string s, .int .i64 q, .int .i64 a] tOd)) w6 ∧ Four w.heap.size wa.heap.size wb.heap.size w5.heap.size i r s q a (.int .i64 0) (.string ⟨#[]⟩) (.string ⟨#[]⟩) (.int .i64 0) (.int .i64 0) w6 := by
          have kk := (A2.out.trans k5).trans (ky_box w5 (.cells #[.int .i64 0, .string ⟨#[]⟩, .string ⟨#[]⟩, .int .i64 0, .int .i64 0] tOd))
          have kb := (KA.out.trans (A1.out.trans (k4.out.trans kk)))
          exact ⟨_, rfl, kb, CB.out _ kb, five_in (heap_alloc_new wa _) (k4.out.trans kk), five_in (heap_alloc_new wb _) ((k5).trans (ky_box w5 _)), heap_alloc_new w5 _⟩
        have HW6 := Lib.hid hw6
        have K6 := Lib.hid k6
        clear hw6 k6 k5 G1 G2 G3 G4 KA A1 A2 k4
        go_upto_region 17 with (fail)
        rw [HW6.out]
        clear HW6
        obtain ⟨⟨x0, x1, x2, x3, x4⟩, _⟩ := five_at e0
        obtain ⟨⟨y0, y1, y2, y3, y4⟩, _⟩ := five_at e1
        obtain ⟨⟨z0, z1, z2, z3, z4⟩, _⟩ := five_at e2
        obtain ⟨⟨u0, u1, u2, u3, u4⟩, _⟩ := five_at e3
        clear e0 e1 e2 e3
        go_wp2_with fail
        refine (OD.out _ K6.out).mono ?_
        rintro e w7 ⟨rfl, k7⟩
        go_wp2
        go_ret
        exact ⟨rfl, KB.out.trans k7⟩
theorem u8_of {n : Int} (h : (Lit.int .u8 n).wf = true) : ∃ N : Nat, n = N ∧ N < 256 := by
  simp only [Lit.wf, IntKind.min, IntKind.max, IntKind.signed, IntKind.bits, Bool.and_eq_true] at h
  refine ⟨n.toNat, ?_, ?_⟩ <;> simp at h <;> omega
theorem ordersBack_go' (i : Int) (r s : ByteArray) (q a : Int) (h : ByteArray) (n : Int) (w : World) (hp : HasP w) (hr : r.size ≤ maxLen) (hs : s.size ≤ maxLen) (_ : I64 i) (_ : I64 q) (_ : I64 a) (hh : h.size ≤ maxLen) (hn : (Lit.int .u8 n).wf = true) :
    Calls Tryd.prog 5 #[odV i r s q a, .string h, .int .u8 n] w fun e w' => e = .returned (.bool true) ∧ Keeps w w' := by
  obtain ⟨N, rfl, hN⟩ := u8_of hn
  exact ordersBack_go i r s q a h N w hp hr hs hh hN
end Go.Proofs.YtonjkgonbfimjaaDoor
