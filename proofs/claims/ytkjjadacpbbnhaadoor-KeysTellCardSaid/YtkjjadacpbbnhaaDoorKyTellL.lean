/- KeysTell, out of what the program answers (KyP). -/
import Derived.Test.YtkjjadacpbbnhaaDoorKyBackH
import Derived.LoopN
set_option linter.unusedVariables false
namespace Go.Proofs.YtkjjadacpbbnhaaDoor
open Go.ChangeShapes Go.WideShapes Go.ChangeAt Go.RowKit Mon Ky

/-- Which number the round is about. -/
def numK (k d : Int) : Int := if k = 7 then d else k
set_option maxRecDepth 4000 in
set_option maxHeartbeats 8000000 in
theorem keysTell_go (P : KyP) (o d o' d' n : Int) (w : World) (hw : HasK w) (i1 : I64 o) (i2 : I64 d) (i3 : I64 o') (i4 : I64 d') (i5 : I64 n) :
    Calls Tryd.prog 3 #[kyV o d, kyV o' d', .int .i64 n] w fun e w' => e = .returned (.bool true) ∧ Keeps w w' := by
  have KB := Lib.hid (Keeps.trans (ky_box w (.cells #[.int .i64 o, .int .i64 d] tKy)) (ky_box _ (.cells #[.int .i64 o', .int .i64 d'] tKy)))
  have hb := hw.keeps KB.out
  obtain ⟨c, hc⟩ : ∃ c, checkK o d = c := ⟨_, rfl⟩
  obtain ⟨X, hX⟩ : ∃ X, putS o d = X := ⟨_, rfl⟩
  obtain ⟨l, hl⟩ : ∃ l, lessK o d o' d' = l := ⟨_, rfl⟩
  have C1 : Hid (∀ W B, Keeps B W → Calls Tryd.prog 13 #[.agg #[.int .i64 o, .int .i64 d]] W fun e w' => e = .returned (.bool c) ∧ Keeps B w') := Lib.hid fun W B k => Calls.mono (hc ▸ P.check o d W i1 i2) fun e w' h => ⟨h.1, k.trans h.2⟩
  have C2 : Hid (∀ W B, Keeps B W → Calls Tryd.prog 14 #[.agg #[.int .i64 o, .int .i64 d]] W fun e w' => e = .returned (.bool c) ∧ Keeps B w') := Lib.hid fun W B k => Calls.mono (hc ▸ kr_check o d W) fun e w' h => ⟨h.1, k.trans h.2⟩
  have P1 : Hid (∀ W B, Keeps B W → Calls Tryd.prog 15 #[.agg #[.int .i64 o, .int .i64 d]] W fun e w' => e = .returned (.string X) ∧ Keeps B w') := Lib.hid fun W B k => Calls.mono (hX ▸ P.put o d W i1 i2) fun e w' h => ⟨h.1, k.trans h.2⟩
  have P2 : Hid (∀ W B, Keeps B W → Calls Tryd.prog 16 #[.agg #[.int .i64 o, .int .i64 d]] W fun e w' => e = .returned (.string X) ∧ Keeps B w') := Lib.hid fun W B k => Calls.mono (hX ▸ kr_put o d W) fun e w' h => ⟨h.1, k.trans h.2⟩
  have L1 : Hid (∀ W B, Keeps B W → Calls Tryd.prog 17 #[.agg #[.int .i64 o, .int .i64 d], .agg #[.int .i64 o', .int .i64 d']] W fun e w' => e = .returned (.bool l) ∧ Keeps B w') := Lib.hid fun W B k => Calls.mono (hl ▸ P.less o d o' d' W i1 i2 i3 i4) fun e w' h => ⟨h.1, k.trans h.2⟩
  have L2 : Hid (∀ W B, Keeps B W → Calls Tryd.prog 18 #[.agg #[.int .i64 o, .int .i64 d], .agg #[.int .i64 o', .int .i64 d']] W fun e w' => e = .returned (.bool l) ∧ Keeps B w') := Lib.hid fun W B k => Calls.mono (hl ▸ kr_less o d o' d' W) fun e w' h => ⟨h.1, k.trans h.2⟩
  have KE2 : Hid (∀ W, Keeps ((w.alloc (.cells #[.int .i64 o, .int .i64 d] tKy)).alloc (.cells #[.int .i64 o', .int .i64 d'] tKy)) W → Calls Tryd.prog 19 #[] W fun e w' => e = .returned (.bool true) ∧ Keeps ((w.alloc (.cells #[.int .i64 o, .int .i64 d] tKy)).alloc (.cells #[.int .i64 o', .int .i64 d'] tKy)) w') := Lib.hid fun W k => Calls.mono (keyed_any P W (hb.keeps k)) fun e w' h => ⟨h.1, k.trans h.2⟩
  have CX : Hid (∀ W, Keeps ((w.alloc (.cells #[.int .i64 o, .int .i64 d] tKy)).alloc (.cells #[.int .i64 o', .int .i64 d'] tKy)) W → (W.cell? ⟨w.heap.size, 0, none⟩ = some (.int .i64 o) ∧ W.cell? ⟨w.heap.size, 1, none⟩ = some (.int .i64 d)) ∧ W.cell? ⟨w.heap.size + 1, 0, none⟩ = some (.int .i64 o') ∧ W.cell? ⟨w.heap.size + 1, 1, none⟩ = some (.int .i64 d')) := Lib.hid fun W k => by
    have e1 := heap_alloc_new w (.cells #[.int .i64 o, .int .i64 d] tKy)
    have e2 := (ky_box (w.alloc (.cells #[.int .i64 o, .int .i64 d] tKy)) (.cells #[.int .i64 o', .int .i64 d'] tKy)).block w.heap.size (by simp)
    have e3 := heap_alloc_new (w.alloc (.cells #[.int .i64 o, .int .i64 d] tKy)) (.cells #[.int .i64 o', .int .i64 d'] tKy)
    have hz : (w.alloc (.cells #[.int .i64 o, .int .i64 d] tKy)).heap.size = w.heap.size + 1 := by simp
    rw [hz] at e3
    have h0 : ((w.alloc (.cells #[.int .i64 o, .int .i64 d] tKy)).alloc (.cells #[.int .i64 o', .int .i64 d'] tKy)).heap.size = w.heap.size + 2 := by simp
    have b1 := (k.block _ (by omega)).trans (e2.trans e1)
    have b2 := (k.block _ (by omega)).trans e3
    exact ⟨⟨Joins.cell_of_block b1 0, Joins.cell_of_block b1 1⟩, Joins.cell_of_block b2 0, Joins.cell_of_block b2 1⟩
  have UD : Hid (∀ (m u : Int) (b : Bool) (W B : World), I64 m → undoW m = u → undoB m = b → Keeps B W → Calls Tryd.prog 7 #[.int .i64 m] W fun e w' => e = .returned (.tuple #[.int .i64 u, .bool b]) ∧ Keeps B w') := Lib.hid fun m u b W B i h1 h2 k => Calls.mono (h1 ▸ h2 ▸ P.undoes m W i) fun e w' h => ⟨h.1, k.trans h.2⟩
  have UR : Hid (∀ (m u : Int) (b : Bool) (W B : World), I64 m → undoW m = u → undoB m = b → Keeps B W → Calls Tryd.prog 8 #[.int .i64 m] W fun e w' => e = .returned (.tuple #[.int .i64 u, .bool b]) ∧ Keeps B w') := Lib.hid fun m u b W B i h1 h2 k => Calls.mono (h1 ▸ h2 ▸ kr_undoes m W i) fun e w' h => ⟨h.1, k.trans (Keeps.of_eq h.2)⟩
  have PD : Hid (∀ (m p : Int) (W : World), I64 m → partyK m = p → Keeps ((w.alloc (.cells #[.int .i64 o, .int .i64 d] tKy)).alloc (.cells #[.int .i64 o', .int .i64 d'] tKy)) W → Calls Tryd.prog 9 #[.int .i64 m] W fun e w' => e = .returned (.int .i64 p) ∧ Keeps ((w.alloc (.cells #[.int .i64 o, .int .i64 d] tKy)).alloc (.cells #[.int .i64 o', .int .i64 d'] tKy)) w') := Lib.hid fun m p W i h1 k => Calls.mono (h1 ▸ P.party m W (hb.keeps k) i) fun e w' h => ⟨h.1, k.trans h.2⟩
  have PR : Hid (∀ (m p : Int) (W B : World), partyK m = p → Keeps B W → Calls Tryd.prog 10 #[.int .i64 m] W fun e w' => e = .returned (.int .i64 p) ∧ Keeps B w') := Lib.hid fun m p W B h1 k => Calls.mono (h1 ▸ kr_party m W) fun e w' h => ⟨h.1, k.trans (Keeps.of_eq h.2)⟩
  have WD : Hid (∀ (m : Int) (t : ByteArray) (W B : World), I64 m → wordS m = t → Keeps B W → Calls Tryd.prog 11 #[.int .i64 m] W fun e w' => e = .returned (.string t) ∧ Keeps B w') := Lib.hid fun m t W B i h1 k => Calls.mono (h1 ▸ P.word m W i) fun e w' h => ⟨h.1, k.trans h.2⟩
  have WR : Hid (∀ (m : Int) (t : ByteArray) (W B : World), wordS m = t → Keeps B W → Calls Tryd.prog 12 #[.int .i64 m] W fun e w' => e = .returned (.string t) ∧ Keeps B w') := Lib.hid fun m t W B h1 k => Calls.mono (h1 ▸ kr_word m W) fun e w' h => ⟨h.1, k.trans h.2⟩
  have HV := Lib.hid (Keeps.refl ((w.alloc (.cells #[.int .i64 o, .int .i64 d] tKy)).alloc (.cells #[.int .i64 o', .int .i64 d'] tKy)))
  have I5 := Lib.hid i5
  clear P hw hb hc hX hl i1 i2 i3 i4 i5
  unfold kyV
  go_enter Tryd.func3, Tryd.ntmps3
  go_wp2_with fail
  go_loopw [7] (fun v7 W => ∃ k : Int, -1 ≤ k ∧ k ≤ 8 ∧ v7 = .int .i64 k ∧ Keeps ((w.alloc (.cells #[.int .i64 o, .int .i64 d] tKy)).alloc (.cells #[.int .i64 o', .int .i64 d'] tKy)) W) (fun v7 _ => (8 - intOf v7).toNat)
  case atStart => exact ⟨-1, by omega, by omega, rfl, HV.out⟩
  case round =>
    clear HV
    obtain ⟨k, k0, k8, rfl, hk⟩ := hrel
    have HV := Lib.hid hk
    have K0 := Lib.hid k0
    clear hk
    by_cases hk8 : k < 8
    · have K8 := Lib.hid hk8
      have ik : Hid (I64 (numK k n)) := Lib.hid (by unfold numK; split; exact I5.out; (unfold I64 top; omega))
      obtain ⟨m, hm⟩ : ∃ m, numK k n = m := ⟨_, rfl⟩
      rw [hm] at ik
      obtain ⟨u, hu⟩ : ∃ x, undoW m = x := ⟨_, rfl⟩
      obtain ⟨b, hbb⟩ : ∃ x, undoB m = x := ⟨_, rfl⟩
      obtain ⟨p, hp⟩ : ∃ x, partyK m = x := ⟨_, rfl⟩
      obtain ⟨t, ht⟩ : ∃ x, wordS m = x := ⟨_, rfl⟩
      have UD2 := Lib.hid fun W B => UD.out m u b W B ik.out hu hbb
      have UR2 := Lib.hid fun W B => UR.out m u b W B ik.out hu hbb
      have PD2 := Lib.hid fun W => PD.out m p W ik.out hp
      have PR2 := Lib.hid fun W B => PR.out m p W B hp
      have WD2 := Lib.hid fun W B => WD.out m t W B ik.out ht
      have WR2 := Lib.hid fun W B => WR.out m t W B ht
      have KR : Hid (Keeps ((w.alloc (.cells #[.int .i64 o, .int .i64 d] tKy)).alloc (.cells #[.int .i64 o', .int .i64 d'] tKy)) wr) := HV
      clear hu hbb hp ht UD UR PD PR WD WR KE2 C1 C2 P1 P2 L1 L2
      by_cases h7 : k = 7
      · subst h7
        obtain rfl : n = m := by rw [← hm]; unfold numK; rw [if_pos rfl]
        clear hm
        go_wp2_with fail
        refine (UD2.out _ _ HV.out).mono ?_
        rintro e wv ⟨rfl, hv⟩
        have HV := Lib.hid hv
        clear hv
        go_wp2_with fail
        refine (UR2.out _ _ HV.out).mono ?_
        rintro e wv ⟨rfl, hv⟩
        have HV := Lib.hid hv
        clear hv
        go_wp2_with fail
        refine (PD2.out _ HV.out).mono ?_
        rintro e wv ⟨rfl, hv⟩
        have HV := Lib.hid hv
        clear hv
        go_wp2_with fail
        refine (PR2.out _ _ HV.out).mono ?_
        rintro e wv ⟨rfl, hv⟩
        have HV := Lib.hid hv
        clear hv
        go_wp2_with fail
        refine (WD2.out _ _ HV.out).mono ?_
        rintro e wv ⟨rfl, hv⟩
        have HV := Lib.hid hv
        clear hv
        go_wp2_with fail
        refine (WR2.out _ _ HV.out).mono ?_
        rintro e wv ⟨rfl, hv⟩
        have HV := Lib.hid hv
        clear hv
        go_wp2_with fail
        exact ⟨⟨8, by omega, by omega, by go_num, HV.out⟩, by simp [intOf]⟩
      · obtain rfl : k = m := by rw [← hm]; unfold numK; rw [if_neg h7]
        have e7 : (k == 7) = false := by simpa using h7
        clear hm h7
        go_wp2_with fail
        refine (UD2.out _ _ HV.out).mono ?_
        rintro e wv ⟨rfl, hv⟩
        have HV := Lib.hid hv
        clear hv
        go_wp2_with fail
        refine (UR2.out _ _ HV.out).mono ?_
        rintro e wv ⟨rfl, hv⟩
        have HV := Lib.hid hv
        clear hv
        go_wp2_with fail
        refine (PD2.out _ HV.out).mono ?_
        rintro e wv ⟨rfl, hv⟩
        have HV := Lib.hid hv
        clear hv
        go_wp2_with fail
        refine (PR2.out _ _ HV.out).mono ?_
        rintro e wv ⟨rfl, hv⟩
        have HV := Lib.hid hv
        clear hv
        go_wp2_with fail
        refine (WD2.out _ _ HV.out).mono ?_
        rintro e wv ⟨rfl, hv⟩
        have HV := Lib.hid hv
        clear hv
        go_wp2_with fail
        refine (WR2.out _ _ HV.out).mono ?_
        rintro e wv ⟨rfl, hv⟩
        have HV := Lib.hid hv
        clear hv
        go_wp2_with fail
        exact ⟨⟨k + 1, by have := K0.out; omega, by have := K8.out; omega, by go_num, HV.out⟩, by have := K8.out; have := K0.out; simp [intOf]; omega⟩
    · obtain rfl : k = 8 := by omega
      clear UD UR PD PR WD WR K0
      obtain ⟨⟨x0, x1⟩, y0, y1⟩ := CX.out _ HV.out
      go_wp2_with fail
      go_region_held3 (fun W => (W.cell? ⟨w.heap.size, 0, none⟩ = some (.int .i64 o) ∧ W.cell? ⟨w.heap.size, 1, none⟩ = some (.int .i64 d)) ∧ W.cell? ⟨w.heap.size + 1, 0, none⟩ = some (.int .i64 o') ∧ W.cell? ⟨w.heap.size + 1, 1, none⟩ = some (.int .i64 d'))
        (first | exact CX.out _ HV.out | exact CX.out _ (HV.out.trans (ky_drew _)) | assumption) (first
        | (go_at_call 13; refine (C1.out _ _ (HV.out.trans (ky_drew _))).mono ?_; clear HV C1; rintro e wv ⟨rfl, hv⟩; have HV := Lib.hid hv; have zv := CX.out _ hv; clear hv)
        | (go_at_call 14; refine (C2.out _ _ HV.out).mono ?_; clear HV C2; rintro e wv ⟨rfl, hv⟩; have HV := Lib.hid hv; have zv := CX.out _ hv; clear hv)
        | (go_at_call 15; refine (P1.out _ _ HV.out).mono ?_; clear HV P1; rintro e wv ⟨rfl, hv⟩; have HV := Lib.hid hv; have zv := CX.out _ hv; clear hv)
        | (go_at_call 16; refine (P2.out _ _ HV.out).mono ?_; clear HV P2; rintro e wv ⟨rfl, hv⟩; have HV := Lib.hid hv; have zv := CX.out _ hv; clear hv)
        | (go_at_call 17; refine (L1.out _ _ HV.out).mono ?_; clear HV L1; rintro e wv ⟨rfl, hv⟩; have HV := Lib.hid hv; have zv := CX.out _ hv; clear hv)
        | (go_at_call 18; refine (L2.out _ _ HV.out).mono ?_; clear HV L2; rintro e wv ⟨rfl, hv⟩; have HV := Lib.hid hv; have zv := CX.out _ hv; clear hv)
        | (go_at_call 19; refine (KE2.out _ HV.out).mono ?_; clear HV KE2; rintro e wv ⟨rfl, hv⟩; have HV := Lib.hid hv; have zv := CX.out _ hv; clear hv))
      go_wp2
      go_ret
      exact ⟨rfl, KB.out.trans HV.out⟩
end Go.Proofs.YtkjjadacpbbnhaaDoor
