/- KeysUndo, out of what the program answers (KyP). -/
import Derived.Test.YtkjjadacpbbnhaaDoorKyBackH
import Derived.LoopN
set_option linter.unusedVariables false
namespace Go.Proofs.YtkjjadacpbbnhaaDoor
open Go.ChangeShapes Go.WideShapes Go.ChangeAt Go.RowKit Mon Ky

theorem undo_is {k n : Int} (h0 : 0 ≤ n) (h2 : n ≤ 2) (h : k = n + 3) : undoW k = n ∧ undoB k = true := by
  subst h
  refine ⟨by unfold undoW; rw [if_pos (by omega)]; omega, by unfold undoB; simp; omega⟩
theorem undo_other {k n : Int} (h : k ≠ n + 3) : undoB k = false ∨ undoB k = true ∧ undoW k ≠ n := by
  cases hb : undoB k with
  | false => exact Or.inl rfl
  | true =>
    refine Or.inr ⟨rfl, ?_⟩
    unfold undoB at hb
    simp at hb
    unfold undoW
    rw [if_pos (by omega)]
    omega
theorem undo_low {n : Int} (h : n ≤ 2) : undoB n = false := by unfold undoB; simp; omega
def manyK (n k : Int) : Int := if n + 3 < k then 1 else 0
/-- A deed and the one that it undoes. -/
def UndoP (d : Int) : Prop := undoB d = true ∧ partyK (undoW d) = partyK d ∧ 0 ≤ partyK d ∨ undoB d = false ∧ undoW d = 0
theorem undoP (d : Int) : UndoP d := by
  rcases ky_parts d with h | h | rfl | rfl | rfl | rfl | rfl | rfl
  · exact Or.inr ⟨undo_low (by omega), by unfold undoW; rw [if_neg (by omega)]⟩
  · exact Or.inr ⟨by unfold undoB; simp; omega, by unfold undoW; rw [if_neg (by omega)]⟩
  · exact Or.inr ⟨by decide, by decide⟩
  · exact Or.inr ⟨by decide, by decide⟩
  · exact Or.inr ⟨by decide, by decide⟩
  · exact Or.inl ⟨by decide, by decide, by decide⟩
  · exact Or.inl ⟨by decide, by decide, by decide⟩
  · exact Or.inl ⟨by decide, by decide, by decide⟩
set_option maxHeartbeats 4000000 in
theorem keysUndo_go (P : KyP) (d : Int) (w : World) (hw : HasK w) (hd : I64 d) : Calls Tryd.prog 6 #[.int .i64 d] w fun e w' => e = .returned (.bool true) ∧ Keeps w w' := by
  have KE : Hid (∀ W, Keeps w W → Calls Tryd.prog 19 #[] W fun e w' => e = .returned (.bool true) ∧ Keeps w w') := Lib.hid fun W k => Calls.mono (keyed_any P W (hw.keeps k)) fun e w' h => ⟨h.1, k.trans h.2⟩
  obtain ⟨u, hu⟩ : ∃ u, undoW d = u := ⟨_, rfl⟩
  obtain ⟨b, hb⟩ : ∃ b, undoB d = b := ⟨_, rfl⟩
  obtain ⟨p, hp⟩ : ∃ p, partyK d = p := ⟨_, rfl⟩
  obtain ⟨q, hq⟩ : ∃ p, partyK u = p := ⟨_, rfl⟩
  have iu : I64 u := by rw [← hu]; unfold undoW I64 top; split <;> omega
  have UD : Hid (∀ W B, Keeps B W → Calls Tryd.prog 7 #[.int .i64 d] W fun e w' => e = .returned (.tuple #[.int .i64 u, .bool b]) ∧ Keeps B w') := Lib.hid fun W B k => Calls.mono (hb ▸ hu ▸ P.undoes d W hd) fun e w' h => ⟨h.1, k.trans h.2⟩
  have PD : Hid (∀ W, Keeps w W → Calls Tryd.prog 9 #[.int .i64 d] W fun e w' => e = .returned (.int .i64 p) ∧ Keeps w w') := Lib.hid fun W k => Calls.mono (hp ▸ P.party d W (hw.keeps k) hd) fun e w' h => ⟨h.1, k.trans h.2⟩
  have PU : Hid (∀ W, Keeps w W → Calls Tryd.prog 9 #[.int .i64 u] W fun e w' => e = .returned (.int .i64 q) ∧ Keeps w w') := Lib.hid fun W k => Calls.mono (hq ▸ P.party u W (hw.keeps k) iu) fun e w' h => ⟨h.1, k.trans h.2⟩
  have UA : Hid (∀ (n : Int) W B, I64 n → Keeps B W → Calls Tryd.prog 7 #[.int .i64 n] W fun e w' => e = .returned (.tuple #[.int .i64 (undoW n), .bool (undoB n)]) ∧ Keeps B w') := Lib.hid fun n W B i k => Calls.mono (P.undoes n W i) fun e w' h => ⟨h.1, k.trans h.2⟩
  have UP : Hid (b = true ∧ q = p ∧ 0 ≤ p ∨ b = false ∧ u = 0) := Lib.hid (by have := undoP d; unfold UndoP at this; rw [hb, hu, hp, hq] at this; exact this)
  obtain ⟨t, ht⟩ : ∃ t, wordS d = t := ⟨_, rfl⟩
  obtain ⟨dv, hv1⟩ : ∃ x, deedV t.data.toList = x := ⟨_, rfl⟩
  obtain ⟨db, hv2⟩ : ∃ x, deedB t.data.toList = x := ⟨_, rfl⟩
  have WD : Hid (∀ W B, Keeps B W → Calls Tryd.prog 11 #[.int .i64 d] W fun e w' => e = .returned (.string t) ∧ Keeps B w') := Lib.hid fun W B k => Calls.mono (ht ▸ P.word d W hd) fun e w' h => ⟨h.1, k.trans h.2⟩
  have DD : Hid (∀ W B, Keeps B W → Calls Tryd.prog 21 #[.string t] W fun e w' => e = .returned (.tuple #[.int .i64 dv, .bool db]) ∧ Keeps B w') := Lib.hid fun W B k => Calls.mono (hv1 ▸ hv2 ▸ P.deed t W (by rw [← ht]; have := word_size (d := d); omega)) fun e w' h => ⟨h.1, k.trans h.2⟩
  have TQ : Hid (t.toList.isEmpty = false ∧ dv = d ∧ db = true ∨ t = ⟨#[]⟩ ∧ db = false) := Lib.hid (by
    by_cases h : 0 ≤ d ∧ d < 6
    · obtain ⟨e1, e2⟩ := deed_word h.1 h.2
      rw [← ht] at hv1 hv2
      refine Or.inl ⟨no_empty fun e => word_ne h.1 h.2 ?_, hv1.symm.trans e2, hv2.symm.trans e1⟩
      have : (wordS d).data.toList = [] := by rw [ht, e]
      exact this
    · have e : t = ⟨#[]⟩ := by rw [← ht]; unfold wordS; rw [word_none h]
      refine Or.inr ⟨e, ?_⟩
      rw [← hv2, e]; decide)
  have HV := Lib.hid (Keeps.refl w)
  clear P hw hu hb hp hq iu hd ht hv1 hv2
  obtain h | h := UP.out
  · obtain ⟨rfl, rfl, h0⟩ := h
    clear UP
    have n0 : ¬ q < 0 := by omega
    go_enter Tryd.func6, Tryd.ntmps6
    go_wp2_with fail
    refine (UD.out _ _ HV.out).mono ?_
    rintro e wv ⟨rfl, hv⟩
    have HV := Lib.hid hv
    clear hv UD
    go_wp2_with fail
    refine (PU.out _ HV.out).mono ?_
    rintro e wv ⟨rfl, hv⟩
    have HV := Lib.hid hv
    clear hv PU
    go_wp2_with fail
    refine (PD.out _ HV.out).mono ?_
    rintro e wv ⟨rfl, hv⟩
    have HV := Lib.hid hv
    clear hv
    go_wp2_with fail
    refine (PD.out _ HV.out).mono ?_
    rintro e wv ⟨rfl, hv⟩
    have HV := Lib.hid hv
    clear hv PD
    go_wp2_with fail
    go_loopw [5] (fun v5 W => ∃ n : Int, 0 ≤ n ∧ n ≤ 3 ∧ v5 = .int .i64 n ∧ Keeps w W) (fun v5 _ => (3 - intOf v5).toNat)
    case atStart => exact ⟨0, by omega, by omega, rfl, HV.out⟩
    case round =>
      clear HV
      obtain ⟨n, h0, h3, rfl, hk⟩ := hrel
      have HV := Lib.hid hk
      have N0 := Lib.hid h0
      clear hk
      by_cases hn : n ≤ 2
      · have N2 := Lib.hid hn
        go_wp2_with fail
        go_loopw [6, 7] (fun v6 v7 W => ∃ k : Int, -1 ≤ k ∧ k ≤ 8 ∧ v7 = .int .i64 k ∧ v6 = .int .i64 (manyK n k) ∧ Keeps w W) (fun _ v7 _ => (8 - intOf v7).toNat)
        case atStart => exact ⟨-1, by omega, by omega, rfl, by unfold manyK; rw [if_neg (by omega)], HV.out⟩
        case round =>
          clear HV
          obtain ⟨k, k0, k8, rfl, rfl, hk⟩ := hrel
          have HV := Lib.hid hk
          have K0 := Lib.hid k0
          clear hk
          by_cases hk8 : k < 8
          · have K8 := Lib.hid hk8
            have UK := Lib.hid fun W B => UA.out k W B (by unfold I64 top; have := K0.out; have := K8.out; omega)
            by_cases he : k = n + 3
            · have M : Hid (manyK n k = 0 ∧ manyK n (k + 1) = 1) := Lib.hid ⟨by unfold manyK; rw [if_neg (by omega)], by unfold manyK; rw [if_pos (by omega)]⟩
              obtain ⟨e1, e2⟩ := undo_is N0.out N2.out he
              rw [e1, e2] at UK
              rw [M.out.1]
              clear e1 e2 he
              go_wp2_with fail
              refine (UK.out _ _ HV.out).mono ?_
              rintro e wv ⟨rfl, hv⟩
              have HV := Lib.hid hv
              clear hv UK
              go_wp2_with fail
              exact ⟨⟨k + 1, by have := K0.out; omega, by have := K8.out; omega, by go_num, by rw [M.out.2], HV.out⟩, by have := K8.out; have := K0.out; simp [intOf]; omega⟩
            · have M : Hid (manyK n (k + 1) = manyK n k) := Lib.hid (by unfold manyK; by_cases h : n + 3 < k; (rw [if_pos h, if_pos (by omega)]); (rw [if_neg h, if_neg (by omega)]))
              obtain ⟨x, hx⟩ : ∃ x, undoW k = x := ⟨_, rfl⟩
              have hoth := undo_other he
              rw [hx] at UK hoth
              clear he hx
              obtain hoth | ⟨hoth, hne⟩ := hoth
              · rw [hoth] at UK
                clear hoth
                go_wp2_with fail
                refine (UK.out _ _ HV.out).mono ?_
                rintro e wv ⟨rfl, hv⟩
                have HV := Lib.hid hv
                clear hv UK
                go_wp2_with fail
                exact ⟨⟨k + 1, by have := K0.out; omega, by have := K8.out; omega, by go_num, by rw [M.out], HV.out⟩, by have := K8.out; have := K0.out; simp [intOf]; omega⟩
              · rw [hoth] at UK
                clear hoth
                have tne : (x == n) = false := by simpa using hne
                go_wp2_with fail
                refine (UK.out _ _ HV.out).mono ?_
                rintro e wv ⟨rfl, hv⟩
                have HV := Lib.hid hv
                clear hv UK
                go_wp2_with fail
                exact ⟨⟨k + 1, by have := K0.out; omega, by have := K8.out; omega, by go_num, by rw [M.out], HV.out⟩, by have := K8.out; have := K0.out; simp [intOf]; omega⟩
          · obtain rfl : k = 8 := by omega
            have UK := Lib.hid fun W B => UA.out n W B (by unfold I64 top; have := N0.out; have := N2.out; omega)
            rw [undo_low N2.out] at UK
            have M : manyK n 8 = 1 := by unfold manyK; rw [if_pos (by omega)]
            rw [M]
            clear M
            go_wp2_with fail
            refine (UK.out _ _ HV.out).mono ?_
            rintro e wv ⟨rfl, hv⟩
            have HV := Lib.hid hv
            clear hv UK
            go_wp2_with fail
            exact ⟨⟨n + 1, by have := N0.out; omega, by have := N2.out; omega, by go_num, HV.out⟩, by have := N0.out; have := N2.out; simp [intOf]; omega⟩
      · obtain rfl : n = 3 := by omega
        clear N0
        obtain ⟨q1, rfl, rfl⟩ | ⟨rfl, rfl⟩ := TQ.out
        · clear TQ
          go_wp2_with fail
          refine (WD.out _ _ HV.out).mono ?_
          rintro e wv ⟨rfl, hv⟩
          have HV := Lib.hid hv
          clear hv
          go_wp2_with fail
          refine (DD.out _ _ HV.out).mono ?_
          rintro e wv ⟨rfl, hv⟩
          have HV := Lib.hid hv
          clear hv
          go_wp2_with fail
          refine (WD.out _ _ HV.out).mono ?_
          rintro e wv ⟨rfl, hv⟩
          have HV := Lib.hid hv
          clear hv
          go_wp2_with fail
          refine (KE.out _ HV.out).mono ?_
          rintro e wv ⟨rfl, hv⟩
          have HV := Lib.hid hv
          clear hv
          go_wp2
          go_ret
          exact ⟨rfl, HV.out⟩
        · clear TQ
          go_wp2_with fail
          refine (WD.out _ _ HV.out).mono ?_
          rintro e wv ⟨rfl, hv⟩
          have HV := Lib.hid hv
          clear hv
          go_wp2_with fail
          refine (DD.out _ _ HV.out).mono ?_
          rintro e wv ⟨rfl, hv⟩
          have HV := Lib.hid hv
          clear hv
          go_wp2_with fail
          refine (WD.out _ _ HV.out).mono ?_
          rintro e wv ⟨rfl, hv⟩
          have HV := Lib.hid hv
          clear hv
          go_wp2_with fail
          refine (KE.out _ HV.out).mono ?_
          rintro e wv ⟨rfl, hv⟩
          have HV := Lib.hid hv
          clear hv
          go_wp2
          go_ret
          exact ⟨rfl, HV.out⟩
  · obtain ⟨rfl, rfl⟩ := h
    clear UP PU PD
    go_enter Tryd.func6, Tryd.ntmps6
    go_wp2_with fail
    refine (UD.out _ _ HV.out).mono ?_
    rintro e wv ⟨rfl, hv⟩
    have HV := Lib.hid hv
    clear hv UD
    go_wp2_with fail
    go_loopw [5] (fun v5 W => ∃ n : Int, 0 ≤ n ∧ n ≤ 3 ∧ v5 = .int .i64 n ∧ Keeps w W) (fun v5 _ => (3 - intOf v5).toNat)
    case atStart => exact ⟨0, by omega, by omega, rfl, HV.out⟩
    case round =>
      clear HV
      obtain ⟨n, h0, h3, rfl, hk⟩ := hrel
      have HV := Lib.hid hk
      have N0 := Lib.hid h0
      clear hk
      by_cases hn : n ≤ 2
      · have N2 := Lib.hid hn
        go_wp2_with fail
        go_loopw [6, 7] (fun v6 v7 W => ∃ k : Int, -1 ≤ k ∧ k ≤ 8 ∧ v7 = .int .i64 k ∧ v6 = .int .i64 (manyK n k) ∧ Keeps w W) (fun _ v7 _ => (8 - intOf v7).toNat)
        case atStart => exact ⟨-1, by omega, by omega, rfl, by unfold manyK; rw [if_neg (by omega)], HV.out⟩
        case round =>
          clear HV
          obtain ⟨k, k0, k8, rfl, rfl, hk⟩ := hrel
          have HV := Lib.hid hk
          have K0 := Lib.hid k0
          clear hk
          by_cases hk8 : k < 8
          · have K8 := Lib.hid hk8
            have UK := Lib.hid fun W B => UA.out k W B (by unfold I64 top; have := K0.out; have := K8.out; omega)
            by_cases he : k = n + 3
            · have M : Hid (manyK n k = 0 ∧ manyK n (k + 1) = 1) := Lib.hid ⟨by unfold manyK; rw [if_neg (by omega)], by unfold manyK; rw [if_pos (by omega)]⟩
              obtain ⟨e1, e2⟩ := undo_is N0.out N2.out he
              rw [e1, e2] at UK
              rw [M.out.1]
              clear e1 e2 he
              go_wp2_with fail
              refine (UK.out _ _ HV.out).mono ?_
              rintro e wv ⟨rfl, hv⟩
              have HV := Lib.hid hv
              clear hv UK
              go_wp2_with fail
              exact ⟨⟨k + 1, by have := K0.out; omega, by have := K8.out; omega, by go_num, by rw [M.out.2], HV.out⟩, by have := K8.out; have := K0.out; simp [intOf]; omega⟩
            · have M : Hid (manyK n (k + 1) = manyK n k) := Lib.hid (by unfold manyK; by_cases h : n + 3 < k; (rw [if_pos h, if_pos (by omega)]); (rw [if_neg h, if_neg (by omega)]))
              obtain ⟨x, hx⟩ : ∃ x, undoW k = x := ⟨_, rfl⟩
              have hoth := undo_other he
              rw [hx] at UK hoth
              clear he hx
              obtain hoth | ⟨hoth, hne⟩ := hoth
              · rw [hoth] at UK
                clear hoth
                go_wp2_with fail
                refine (UK.out _ _ HV.out).mono ?_
                rintro e wv ⟨rfl, hv⟩
                have HV := Lib.hid hv
                clear hv UK
                go_wp2_with fail
                exact ⟨⟨k + 1, by have := K0.out; omega, by have := K8.out; omega, by go_num, by rw [M.out], HV.out⟩, by have := K8.out; have := K0.out; simp [intOf]; omega⟩
              · rw [hoth] at UK
                clear hoth
                have tne : (x == n) = false := by simpa using hne
                go_wp2_with fail
                refine (UK.out _ _ HV.out).mono ?_
                rintro e wv ⟨rfl, hv⟩
                have HV := Lib.hid hv
                clear hv UK
                go_wp2_with fail
                exact ⟨⟨k + 1, by have := K0.out; omega, by have := K8.out; omega, by go_num, by rw [M.out], HV.out⟩, by have := K8.out; have := K0.out; simp [intOf]; omega⟩
          · obtain rfl : k = 8 := by omega
            have UK := Lib.hid fun W B => UA.out n W B (by unfold I64 top; have := N0.out; have := N2.out; omega)
            rw [undo_low N2.out] at UK
            have M : manyK n 8 = 1 := by unfold manyK; rw [if_pos (by omega)]
            rw [M]
            clear M
            go_wp2_with fail
            refine (UK.out _ _ HV.out).mono ?_
            rintro e wv ⟨rfl, hv⟩
            have HV := Lib.hid hv
            clear hv UK
            go_wp2_with fail
            exact ⟨⟨n + 1, by have := N0.out; omega, by have := N2.out; omega, by go_num, HV.out⟩, by have := N0.out; have := N2.out; simp [intOf]; omega⟩
      · obtain rfl : n = 3 := by omega
        clear N0
        obtain ⟨q1, rfl, rfl⟩ | ⟨rfl, rfl⟩ := TQ.out
        · clear TQ
          go_wp2_with fail
          refine (WD.out _ _ HV.out).mono ?_
          rintro e wv ⟨rfl, hv⟩
          have HV := Lib.hid hv
          clear hv
          go_wp2_with fail
          refine (DD.out _ _ HV.out).mono ?_
          rintro e wv ⟨rfl, hv⟩
          have HV := Lib.hid hv
          clear hv
          go_wp2_with fail
          refine (WD.out _ _ HV.out).mono ?_
          rintro e wv ⟨rfl, hv⟩
          have HV := Lib.hid hv
          clear hv
          go_wp2_with fail
          refine (KE.out _ HV.out).mono ?_
          rintro e wv ⟨rfl, hv⟩
          have HV := Lib.hid hv
          clear hv
          go_wp2
          go_ret
          exact ⟨rfl, HV.out⟩
        · clear TQ
          go_wp2_with fail
          refine (WD.out _ _ HV.out).mono ?_
          rintro e wv ⟨rfl, hv⟩
          have HV := Lib.hid hv
          clear hv
          go_wp2_with fail
          refine (DD.out _ _ HV.out).mono ?_
          rintro e wv ⟨rfl, hv⟩
          have HV := Lib.hid hv
          clear hv
          go_wp2_with fail
          refine (WD.out _ _ HV.out).mono ?_
          rintro e wv ⟨rfl, hv⟩
          have HV := Lib.hid hv
          clear hv
          go_wp2_with fail
          refine (KE.out _ HV.out).mono ?_
          rintro e wv ⟨rfl, hv⟩
          have HV := Lib.hid hv
          clear hv
          go_wp2
          go_ret
          exact ⟨rfl, HV.out⟩
end Go.Proofs.YtkjjadacpbbnhaaDoor
