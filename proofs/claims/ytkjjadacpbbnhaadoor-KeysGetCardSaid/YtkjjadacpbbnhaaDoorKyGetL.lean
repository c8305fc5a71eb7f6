/- KeysGet, out of what the program answers (KyP). -/
import Derived.Test.YtkjjadacpbbnhaaDoorKyP
set_option linter.unusedVariables false
namespace Go.Proofs.YtkjjadacpbbnhaaDoor
open Go.ChangeShapes Go.WideShapes Go.ChangeAt Go.RowKit Mon Ky

set_option maxHeartbeats 2000000 in
theorem keysGet_go (P : KyP) (s : ByteArray) (w : World) (hw : HasK w) : Calls Tryd.prog 4 #[.string s] w fun e w' => e = .returned (.bool true) ∧ Keeps w w' := by
  have KE : Hid (∀ W, Keeps w W → Calls Tryd.prog 19 #[] W fun e w' => e = .returned (.bool true) ∧ Keeps W w') := Lib.hid fun W k => keyed_any P W (hw.keeps k)
  by_cases h : 100 < s.size
  · clear P hw
    go_enter Tryd.func4, Tryd.ntmps4
    go_wp2_with fail
    refine (KE.out _ (Keeps.refl _)).mono ?_
    rintro e w1 ⟨rfl, k1⟩
    have K1 := Lib.hid k1
    clear k1
    go_wp2
    go_ret
    exact ⟨rfl, K1.out⟩
  · have hs : s.size ≤ 100 := by omega
    have DP := Lib.hid fun W => P.deed s W hs
    have DR := Lib.hid fun W => kr_deed s W
    have GR := Lib.hid fun W => kr_get s W
    have GT : Hid (∀ (o d : Int) (ok : Bool) (W : World), Keeps w W → GetIs s.data.toList o d ok → Calls Tryd.prog 23 #[.string s, .agg #[.int .i64 o, .int .i64 d], .bool ok] W fun e w' => e = .returned (.bool true) ∧ Keeps W w') := Lib.hid fun o d ok W k h2 => got_any P s o d ok W (hw.keeps k) hs h2
    clear P hw
    go_enter Tryd.func4, Tryd.ntmps4
    go_wp2_with fail
    refine (GR.out _).mono ?_
    rintro e w1 ⟨o, d, ok, rfl, hg, k1⟩
    have HG := Lib.hid hg
    have K1 := Lib.hid k1
    have hbx := heap_alloc_new w1 (.cells #[.int .i64 o, .int .i64 d] tKy)
    have K2 := Lib.hid (k1.trans (ky_box w1 (.cells #[.int .i64 o, .int .i64 d] tKy)))
    have CX : Hid (∀ W, Keeps (w1.alloc (.cells #[.int .i64 o, .int .i64 d] tKy)) W → W.cell? ⟨w1.heap.size, 0, none⟩ = some (.int .i64 o) ∧ W.cell? ⟨w1.heap.size, 1, none⟩ = some (.int .i64 d)) := Lib.hid fun W k => by
      have e := (k.block _ (by simp)).trans hbx
      exact ⟨Joins.cell_of_block e 0, Joins.cell_of_block e 1⟩
    clear hbx hg k1
    unfold kyV
    go_wp2_with fail
    refine (DP.out _).mono ?_
    rintro e w2 ⟨rfl, k2⟩
    have HV := Lib.hid k2
    clear k2
    go_wp2_with fail
    refine (DR.out _).mono ?_
    rintro e w3 ⟨rfl, k3⟩
    have HV := Lib.hid (HV.out.trans k3)
    obtain ⟨x, y⟩ := CX.out _ HV.out
    clear k3
    go_wp2_with fail
    refine (GT.out _ _ _ _ (K2.out.trans HV.out) HG.out).mono ?_
    rintro e w4 ⟨rfl, k4⟩
    have HV := Lib.hid (HV.out.trans k4)
    clear k4
    go_wp2_with fail
    refine (KE.out _ (K2.out.trans HV.out)).mono ?_
    rintro e w5 ⟨rfl, k5⟩
    have HV := Lib.hid (HV.out.trans k5)
    clear k5
    go_wp2
    go_ret
    exact ⟨rfl, K2.out.trans HV.out⟩
end Go.Proofs.YtkjjadacpbbnhaaDoor
