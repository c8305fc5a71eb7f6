/- OrdersTell: the walk. -/
import Derived.Test.YtonjkgonbfimjaaDoorOdFormL
set_option linter.unusedVariables false
namespace Go.Proofs.YtonjkgonbfimjaaDoor
open Go.ChangeShapes Go.WideShapes Go.ChangeAt Go.RowKit Bit Ky Od

theorem great_is (i : Int) (r s : ByteArray) (q a : Int) (b : Bool) (w : World) (hr : r.size ≤ maxLen) (hs : s.size ≤ maxLen) (h : (decide (300 < r.size) || decide (300 < s.size)) = b) : Calls Tryd.prog 7 #[odV i r s q a] w fun e w' => e = .returned (.bool b) ∧ Keeps w w' := by
  have KB := Lib.hid (ky_box w (odBox i r s q a))
  have H := Lib.hid h
  unfold maxLen at hr hs
  unfold odBox at KB
  unfold odV
  rcases (show 300 < r.size ∨ (r.size ≤ 300 ∧ 300 < s.size) ∨ (r.size ≤ 300 ∧ s.size ≤ 300) from by omega) with h1 | ⟨h1, h2⟩ | ⟨h1, h2⟩
  · have E : Hid (b = true) := Lib.hid (by rw [← h, decide_eq_true h1]; rfl)
    clear h H
    go_enter Tryd.func7, Tryd.ntmps7
    go_wp2
    go_ret
    exact ⟨ret_bool E.out.symm, KB.out⟩
  · have E : Hid (b = true) := Lib.hid (by rw [← h, decide_eq_true h2]; simp)
    clear h H
    go_enter Tryd.func7, Tryd.ntmps7
    go_wp2
    go_ret
    exact ⟨ret_bool (by rw [E.out]; simp <;> omega), KB.out⟩
  · have E : Hid (b = false) := Lib.hid (by rw [← h, decide_eq_false (by omega), decide_eq_false (by omega)]; rfl)
    clear h H
    go_enter Tryd.func7, Tryd.ntmps7
    go_wp2
    go_ret
    exact ⟨ret_bool (by rw [E.out]; simp <;> omega), KB.out⟩
theorem isM_ex (i : Int) (r s : ByteArray) (q a d : Int) : ∃ t o k S Q A, IsM i r s q a d t o k S Q A := by
  by_cases h : checkO i r s q a = 0 ∧ 0 ≤ d ∧ d < 6
  · by_cases hp : partyK d = 0
    · exact ⟨_, _, _, _, _, _, Or.inl ⟨h.1, h.2.1, h.2.2, rfl, rfl, rfl, Or.inl ⟨hp, rfl, rfl, rfl⟩⟩⟩
    · exact ⟨_, _, _, _, _, _, Or.inl ⟨h.1, h.2.1, h.2.2, rfl, rfl, rfl, Or.inr ⟨hp, rfl, rfl, rfl⟩⟩⟩
  · exact ⟨_, _, _, _, _, _, Or.inr ⟨h, rfl, rfl, rfl, rfl, rfl, rfl⟩⟩
theorem od_msg_at (i : Int) (r s : ByteArray) (q a : Int) (w : World) (hp : HasP w) (hr : r.size ≤ maxLen) (hs : s.size ≤ maxLen) : ∀ (d t o k : Int) (S : ByteArray) (Q A : Int) B, IsM i r s q a d t o k S Q A → Keeps w B → ∀ W, Keeps B W → Calls Tryd.prog 9 #[odV i r s q a, .int .i64 d] W fun e w' => e = .returned (msV t o k S Q A 0) ∧ Keeps B w' := fun d t o k S Q A B hm kb W kk =>
  (od_msg i r s q a d W (hp.keeps (kb.trans kk)) hr hs).mono fun e w' h => by
    obtain ⟨t', o', k', S', Q', A', rfl, hm', k2⟩ := h
    obtain ⟨rfl, rfl, rfl, rfl, rfl, rfl⟩ := hm.same hm'
    exact ⟨rfl, kk.trans k2⟩
theorem or_msg_at (i : Int) (r s : ByteArray) (q a : Int) (hr : r.size ≤ maxLen) (hs : s.size ≤ maxLen) : ∀ (d t o k : Int) (S : ByteArray) (Q A : Int) B, IsM i r s q a d t o k S Q A → ∀ W, Keeps B W → Calls Tryd.prog 10 #[odV i r s q a, .int .i64 d] W fun e w' => e = .returned (msV t o k S Q A 0) ∧ Keeps B w' := fun d t o k S Q A B hm W kk =>
  (or_msg i r s q a d W hr hs).mono fun e w' h => by
    obtain ⟨t', o', k', S', Q', A', rfl, hm', k2⟩ := h
    obtain ⟨rfl, rfl, rfl, rfl, rfl, rfl⟩ := hm.same hm'
    exact ⟨rfl, kk.trans k2⟩
set_option maxHeartbeats 16000000 in
set_option maxRecDepth 100000 in
theorem ordersTell_go (i : Int) (r s : ByteArray) (q a d : Int) (w : World) (hp : HasP w) (hr : r.size ≤ maxLen) (hs : s.size ≤ maxLen) :
    Calls Tryd.prog 3 #[odV i r s q a, .int .i64 d] w fun e w' => e = .returned (.bool true) ∧ Keeps w w' := by
  have KB := Lib.hid (ky_box w (odBox i r s q a))
  have OD := Lib.hid (ordered_from w hp _ KB.out)
  obtain ⟨b, hb⟩ : ∃ b, (decide (300 < r.size) || decide (300 < s.size)) = b := ⟨_, rfl⟩
  have GC := Lib.hid fun W => great_is i r s q a b W hr hs hb
  have MA := Lib.hid fun d t o k S Q A h => od_msg_at i r s q a w hp hr hs d t o k S Q A _ h KB.out
  have MB := Lib.hid fun d t o k S Q A h => or_msg_at i r s q a hr hs d t o k S Q A (w.alloc (odBox i r s q a)) h
  obtain ⟨c, hc⟩ : ∃ c, checkO i r s q a = c := ⟨_, rfl⟩
  obtain ⟨X, hX⟩ : ∃ X, putOS i r s q a = X := ⟨_, rfl⟩
  have C1 : Hid (∀ W, Keeps (w.alloc (odBox i r s q a)) W → Calls Tryd.prog 11 #[odV i r s q a] W fun e w' => e = .returned (.int .i64 c) ∧ Keeps (w.alloc (odBox i r s q a)) w') := Lib.hid fun W k => Calls.mono (hc ▸ od_check i r s q a W hr hs) fun e w' h => ⟨h.1, k.trans h.2⟩
  have C2 : Hid (∀ W, Keeps (w.alloc (odBox i r s q a)) W → Calls Tryd.prog 12 #[odV i r s q a] W fun e w' => e = .returned (.int .i64 c) ∧ Keeps (w.alloc (odBox i r s q a)) w') := Lib.hid fun W k => Calls.mono (hc ▸ or_check i r s q a W hr hs) fun e w' h => ⟨h.1, k.trans h.2⟩
  have P1 : Hid (∀ W, Keeps (w.alloc (odBox i r s q a)) W → Calls Tryd.prog 13 #[odV i r s q a] W fun e w' => e = .returned (.string X) ∧ Keeps (w.alloc (odBox i r s q a)) w') := Lib.hid fun W k => Calls.mono (hX ▸ od_put i r s q a W hr hs) fun e w' h => ⟨h.1, k.trans h.2⟩
  have P2 : Hid (∀ W, Keeps (w.alloc (odBox i r s q a)) W → Calls Tryd.prog 14 #[odV i r s q a] W fun e w' => e = .returned (.string X) ∧ Keeps (w.alloc (odBox i r s q a)) w') := Lib.hid fun W k => Calls.mono (hX ▸ or_put i r s q a W hr hs) fun e w' h => ⟨h.1, k.trans h.2⟩
  have CX := Lib.hid (od_cells w i r s q a)
  have HV := Lib.hid (Keeps.refl (w.alloc (odBox i r s q a)))
  have te1 : (X.toList == X.toList) = true := by simp
  have te2 : (c == c) = true := by simp
  clear hp hb hc hX hr hs
  unfold odBox at KB OD MA MB C1 C2 P1 P2 CX HV
  unfold odV at GC MA MB C1 C2 P1 P2 ⊢
  unfold msV at MA MB
  cases b with
  | true =>
    go_enter Tryd.func3, Tryd.ntmps3
    go_wp2_with fail
    refine (GC.out _).mono ?_
    rintro e w1 ⟨rfl, k1⟩
    go_wp2_with fail
    refine (OD.out _ k1).mono ?_
    rintro e w2 ⟨rfl, k2⟩
    go_wp2
    go_ret
    exact ⟨rfl, KB.out.trans k2⟩
  | false =>
    go_enter Tryd.func3, Tryd.ntmps3
    go_wp2_with fail
    refine (GC.out _).mono ?_
    rintro e w1 ⟨rfl, k1⟩
    have HV := Lib.hid k1
    clear k1 GC
    go_wp2_with fail
    go_loopw [5] (fun v5 W => ∃ k : Int, -1 ≤ k ∧ k ≤ 8 ∧ v5 = .int .i64 k ∧ Keeps (w.alloc (.cells #[.int .i64 i, .string r, .string s, .int .i64 q, .int .i64 a] tOd)) W) (fun v5 _ => (8 - intOf v5).toNat)
    case atStart => exact ⟨-1, by omega, by omega, rfl, HV.out⟩
    case round =>
      clear HV
      obtain ⟨k, k0, k8, rfl, hk⟩ := hrel
      have HV := Lib.hid hk
      have K0 := Lib.hid k0
      clear hk
      by_cases hk8 : k < 8
      · have K8 := Lib.hid hk8
        clear OD C1 C2 P1 P2 te1 te2
        by_cases h7 : k = 7
        · subst h7
          obtain ⟨t, o, kk, S, Q, A, hm⟩ := isM_ex i r s q a d
          have M1 := Lib.hid (MA.out d t o kk S Q A hm)
          have M2 := Lib.hid (MB.out d t o kk S Q A hm)
          have te1 : (S.toList == S.toList) = true := by simp
          clear hm MA MB
          go_upto_region 9 with (fail)
          obtain ⟨x0, x1, x2, x3, x4⟩ := CX.out _ HV.out
          go_region_held3 (fun W => W.cell? ⟨w.heap.size, 0, none⟩ = some (.int .i64 i) ∧ W.cell? ⟨w.heap.size, 1, none⟩ = some (.string r) ∧ W.cell? ⟨w.heap.size, 2, none⟩ = some (.string s) ∧ W.cell? ⟨w.heap.size, 3, none⟩ = some (.int .i64 q) ∧ W.cell? ⟨w.heap.size, 4, none⟩ = some (.int .i64 a))
            (first | exact CX.out _ HV.out | exact CX.out _ (HV.out.trans (ky_drew _)) | assumption) (first
            | (go_at_call 9; refine (M1.out _ (HV.out.trans (ky_drew _))).mono ?_; clear HV M1; rintro e wv ⟨rfl, hv⟩; have HV := Lib.hid hv; have zv := CX.out _ hv; clear hv)
            | (go_at_call 10; refine (M2.out _ HV.out).mono ?_; clear HV M2; rintro e wv ⟨rfl, hv⟩; have HV := Lib.hid hv; have zv := CX.out _ hv; clear hv))
          go_wp2_with fail
          exact ⟨⟨8, by omega, by omega, by go_num, HV.out⟩, by simp [intOf]⟩
        · have e7 : (k == 7) = false := by simpa using h7
          obtain ⟨t, o, kk, S, Q, A, hm⟩ := isM_ex i r s q a k
          have M1 := Lib.hid (MA.out k t o kk S Q A hm)
          have M2 := Lib.hid (MB.out k t o kk S Q A hm)
          have te1 : (S.toList == S.toList) = true := by simp
          clear hm MA MB h7
          go_upto_region 9 with (fail)
          obtain ⟨x0, x1, x2, x3, x4⟩ := CX.out _ HV.out
          go_region_held3 (fun W => W.cell? ⟨w.heap.size, 0, none⟩ = some (.int .i64 i) ∧ W.cell? ⟨w.heap.size, 1, none⟩ = some (.string r) ∧ W.cell? ⟨w.heap.size, 2, none⟩ = some (.string s) ∧ W.cell? ⟨w.heap.size, 3, none⟩ = some (.int .i64 q) ∧ W.cell? ⟨w.heap.size, 4, none⟩ = some (.int .i64 a))
            (first | exact CX.out _ HV.out | exact CX.out _ (HV.out.trans (ky_drew _)) | assumption) (first
            | (go_at_call 9; refine (M1.out _ (HV.out.trans (ky_drew _))).mono ?_; clear HV M1; rintro e wv ⟨rfl, hv⟩; have HV := Lib.hid hv; have zv := CX.out _ hv; clear hv)
            | (go_at_call 10; refine (M2.out _ HV.out).mono ?_; clear HV M2; rintro e wv ⟨rfl, hv⟩; have HV := Lib.hid hv; have zv := CX.out _ hv; clear hv))
          go_wp2_with fail
          exact ⟨⟨k + 1, by have := K0.out; omega, by have := K8.out; omega, by go_num, HV.out⟩, by have := K8.out; have := K0.out; simp [intOf]; omega⟩
      · obtain rfl : k = 8 := by omega
        clear MA MB K0
        go_upto_region 11 with (fail)
        obtain ⟨x0, x1, x2, x3, x4⟩ := CX.out _ HV.out
        go_region_held3 (fun W => W.cell? ⟨w.heap.size, 0, none⟩ = some (.int .i64 i) ∧ W.cell? ⟨w.heap.size, 1, none⟩ = some (.string r) ∧ W.cell? ⟨w.heap.size, 2, none⟩ = some (.string s) ∧ W.cell? ⟨w.heap.size, 3, none⟩ = some (.int .i64 q) ∧ W.cell? ⟨w.heap.size, 4, none⟩ = some (.int .i64 a))
          (first | exact CX.out _ HV.out | exact CX.out _ (HV.out.trans (ky_drew _)) | assumption) (first
          | (go_at_call 11; refine (C1.out _ (HV.out.trans (ky_drew _))).mono ?_; clear HV C1; rintro e wv ⟨rfl, hv⟩; have HV := Lib.hid hv; have zv := CX.out _ hv; clear hv)
          | (go_at_call 12; refine (C2.out _ HV.out).mono ?_; clear HV C2; rintro e wv ⟨rfl, hv⟩; have HV := Lib.hid hv; have zv := CX.out _ hv; clear hv)
          | (go_at_call 13; refine (P1.out _ HV.out).mono ?_; clear HV P1; rintro e wv ⟨rfl, hv⟩; have HV := Lib.hid hv; have zv := CX.out _ hv; clear hv)
          | (go_at_call 14; refine (P2.out _ HV.out).mono ?_; clear HV P2; rintro e wv ⟨rfl, hv⟩; have HV := Lib.hid hv; have zv := CX.out _ hv; clear hv)
          | (go_at_call 8; refine (OD.out _ HV.out).mono ?_; clear HV OD; rintro e wv ⟨rfl, hv⟩; have HV := Lib.hid hv; have zv := CX.out _ hv; clear hv))
        go_wp2
        go_ret
        exact ⟨rfl, KB.out.trans HV.out⟩
end Go.Proofs.YtonjkgonbfimjaaDoor
