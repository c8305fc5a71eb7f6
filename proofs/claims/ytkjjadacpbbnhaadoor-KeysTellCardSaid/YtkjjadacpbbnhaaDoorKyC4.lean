/- The program's keys: Put, Get: what they answer, all together (KyP). -/
import Derived.Test.YtkjjadacpbbnhaaDoorKyC3
import Derived.Test.YtkjjadacpbbnhaaDoorKyP
import Derived.Test.YtkjjadacpbbnhaaDoorCutS
import Derived.Test.YtkjjadacpbbnhaaDoorMoneyPutC
import Derived.Test.YtkjjadacpbbnhaaDoorMoneyGetC
import Derived.Deep.RegionHeld3
import Derived.Deep.QuietTactic
import Derived.BigQuiet
set_option linter.unusedVariables false
namespace Go.Proofs.YtkjjadacpbbnhaaDoor
open Go.ChangeShapes Go.WideShapes Go.ChangeAt Go.RowKit Mon Ky

set_option maxHeartbeats 8000000 in
theorem pk_put (o d : Int) (w : World) : Calls Tryd.prog 15 #[kyV o d] w fun e w' => e = .returned (.string (putS o d)) ∧ Keeps w w' := by
  have KB := Lib.hid (ky_box w (.cells #[.int .i64 o, .int .i64 d] tKy))
  have HC := Lib.hid (pk_check o d (w.alloc (.cells #[.int .i64 o, .int .i64 d] tKy)))
  obtain ⟨b, hb⟩ : ∃ b, checkK o d = b := ⟨_, rfl⟩
  have HBB := Lib.hid hb
  rw [hb] at HC
  have hbx := heap_alloc_new w (.cells #[.int .i64 o, .int .i64 d] tKy)
  have CX : Hid (∀ W, Keeps (w.alloc (.cells #[.int .i64 o, .int .i64 d] tKy)) W → W.cell? ⟨w.heap.size, 0, none⟩ = some (.int .i64 o) ∧ W.cell? ⟨w.heap.size, 1, none⟩ = some (.int .i64 d)) := Lib.hid fun W k => by
    have e := (k.block _ (by simp)).trans hbx
    exact ⟨Joins.cell_of_block e 0, Joins.cell_of_block e 1⟩
  clear hb hbx
  unfold kyV at HC ⊢
  go_enter Tryd.func15, Tryd.ntmps15
  go_wp2_with fail
  refine HC.out.mono ?_
  rintro e w1 ⟨rfl, k1⟩
  have K1 := Lib.hid k1
  have K01 := Lib.hid (KB.out.trans k1)
  clear k1 HC
  cases b with
  | false =>
    have E : Hid (putS o d = ⟨#[]⟩) := Lib.hid (by unfold putS putK; rw [HBB.out]; rfl)
    go_wp2
    go_ret
    exact ⟨by rw [E.out]; rfl, K01.out⟩
  | true =>
    have HCK := Lib.hid (check_iff.1 HBB.out)
    obtain ⟨P, hP⟩ : ∃ P : ByteArray, ⟨(put o).toArray⟩ = P := ⟨_, rfl⟩
    obtain ⟨V, hV⟩ : ∃ V : ByteArray, wordS d = V := ⟨_, rfl⟩
    have hPs : P.size ≤ 20 := by rw [← hP, size_mk]; exact put_size (Or.inr ⟨HCK.out.o0, HCK.out.o1⟩)
    have hVs : V.size ≤ 7 := hV ▸ word_size
    obtain ⟨S1, h1⟩ : ∃ S1, P ++ ⟨#[45]⟩ = S1 := ⟨_, rfl⟩
    obtain ⟨S2, h2⟩ : ∃ S2, S1 ++ V = S2 := ⟨_, rfl⟩
    have hS1 : S1.size ≤ 21 := by rw [← h1, ByteArray.size_append]; show P.size + 1 ≤ 21; omega
    have E : Hid (putS o d = S2) := Lib.hid (by
      refine bytes_inj ?_
      rw [← h2, ← h1, ← hV, ← hP]
      unfold putS
      rw [putK_yes HCK.out]
      simp [wordS])
    have n1 : ¬ (9223372036854775807 < P.size + 1) := by omega
    have n2 : ¬ (9223372036854775807 < S1.size + V.size) := by omega
    have CP : Hid (∀ W, Keeps w1 W → Calls Tryd.prog 27 #[.int .i64 o] W fun e w' => e = .returned (.string P) ∧ Keeps w1 w') := Lib.hid fun W kk => by
      rw [← hP]
      refine (moPut_any o W (by unfold I64 top; have := HCK.out.o0; have := HCK.out.o1; omega)).mono ?_
      rintro e w' ⟨rfl, k⟩
      exact ⟨rfl, kk.trans k⟩
    have CW : Hid (∀ W, Keeps w1 W → Calls Tryd.prog 11 #[.int .i64 d] W fun e w' => e = .returned (.string V) ∧ Keeps w1 w') := Lib.hid fun W kk => by
      rw [← hV]
      refine (pk_word d W).mono ?_
      rintro e w' ⟨rfl, k⟩
      exact ⟨rfl, kk.trans k⟩
    obtain ⟨x0, x1⟩ := CX.out w1 K1.out
    clear hP hV hPs hVs hS1
    go_wp2
    go_region_held3 (fun W => W.cell? ⟨w.heap.size, 0, none⟩ = some (.int .i64 o) ∧ W.cell? ⟨w.heap.size, 1, none⟩ = some (.int .i64 d))
      (first | exact CX.out _ (K1.out.trans HV.out) | exact CX.out _ (K1.out.trans (ky_drew _)) | assumption) (first
      | (go_at_call 27; refine (CP.out _ (ky_drew _)).mono ?_; rintro e wv ⟨rfl, hv⟩; have HV := Lib.hid hv; have zv := CX.out _ (K1.out.trans hv); clear hv)
      | (go_at_call 11; refine (CW.out _ HV.out).mono ?_; clear HV; rintro e wv ⟨rfl, hv⟩; have HV := Lib.hid hv; have zv := CX.out _ (K1.out.trans hv); clear hv))
    go_wp2
    go_ret
    exact ⟨by rw [E.out]; rfl, K01.out.trans HV.out⟩
end Go.Proofs.YtkjjadacpbbnhaaDoor
