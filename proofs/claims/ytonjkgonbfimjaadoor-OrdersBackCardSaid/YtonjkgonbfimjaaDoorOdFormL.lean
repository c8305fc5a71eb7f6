/- OrdersForm, OrdersGet: the walks. -/
import Derived.Test.YtonjkgonbfimjaaDoorOdOrd
set_option linter.unusedVariables false
namespace Go.Proofs.YtonjkgonbfimjaaDoor
open Go.ChangeShapes Go.WideShapes Go.ChangeAt Go.RowKit Bit Ky Od

theorem ordered_at (w : World) (hp : HasP w) : ∀ W, Keeps w W → Calls Tryd.prog 8 #[] W fun e w' => e = .returned (.bool true) ∧ Keeps w w' := fun W k =>
  (ordered_any W (hp.keeps k)).mono fun e w' h => ⟨h.1, k.trans h.2⟩
theorem ordered_from (w : World) (hp : HasP w) : ∀ B, Keeps w B → ∀ W, Keeps B W → Calls Tryd.prog 8 #[] W fun e w' => e = .returned (.bool true) ∧ Keeps B w' := fun B kb W k =>
  (ordered_any W (hp.keeps (kb.trans k))).mono fun e w' h => ⟨h.1, k.trans h.2⟩
theorem putOS_raw {i q a : Int} {r S s : ByteArray} (h : Fit i r S q a) (e : rawO i r S q a = s.data.toList) : putOS i r S q a = s := by
  unfold putOS
  rw [putO_yes h, e]
set_option maxHeartbeats 8000000 in
theorem ordersForm_go (s : ByteArray) (w : World) (hp : HasP w) (hs : s.size ≤ maxLen) :
    Calls Tryd.prog 6 #[.string s] w fun e w' => e = .returned (.bool true) ∧ Keeps w w' := by
  have OD := Lib.hid (ordered_at w hp)
  have GT := Lib.hid (od_get s w hs)
  unfold maxLen at hs
  clear hp
  by_cases h : s.size ≤ 300
  rotate_left
  · go_enter Tryd.func6, Tryd.ntmps6
    go_wp2_with fail
    refine (OD.out _ (Keeps.refl _)).mono ?_
    rintro e w1 ⟨rfl, k1⟩
    go_wp2
    go_ret
    exact ⟨rfl, k1⟩
  go_enter Tryd.func6, Tryd.ntmps6
  go_wp2_with fail
  refine GT.out.mono ?_
  rintro e w1 ⟨i, r, S, q, a, c, rfl, hi, k1⟩
  unfold odV
  have K1 := Lib.hid (k1.trans (ky_box w1 (.cells #[.int .i64 i, .string r, .string S, .int .i64 q, .int .i64 a] tOd)))
  have CX := Lib.hid (box_cells (w := w1) (x0 := .int .i64 i) (x1 := .string r) (x2 := .string S) (x3 := .int .i64 q) (x4 := .int .i64 a))
  rcases hi with ⟨h1, hf, hr, rfl⟩ | ⟨h1, rfl, rfl, rfl, rfl, rfl, rfl⟩
  · have C1 := Lib.hid fun W => (check_fit.2 hf) ▸ od_check i r S q a W (by have := hf.r1; unfold maxLen; omega) (by have := hf.s1; unfold maxLen; omega)
    have C2 := Lib.hid fun W => (putOS_raw hf hr) ▸ od_put i r S q a W (by have := hf.r1; unfold maxLen; omega) (by have := hf.s1; unfold maxLen; omega)
    unfold odV at C1 C2
    have t : (s.toList == s.toList) = true := by simp
    clear k1 hf hr h1
    go_wp2_with fail
    refine (C1.out _).mono ?_
    rintro e w2 ⟨rfl, k2⟩
    have K2 := Lib.hid k2
    obtain ⟨⟨x0, x1, x2, x3, x4⟩, _⟩ := five_at (CX.out _ k2)
    clear k2 C1
    go_wp2_with fail
    refine (C2.out _).mono ?_
    rintro e w3 ⟨rfl, k3⟩
    have K3 := Lib.hid (K1.out.trans (K2.out.trans k3))
    clear k3 C2
    go_wp2_with fail
    refine (OD.out _ K3.out).mono ?_
    rintro e w4 ⟨rfl, k4⟩
    go_wp2
    go_ret
    exact ⟨rfl, k4⟩
  · clear k1 h1
    go_wp2_with fail
    refine (OD.out _ K1.out).mono ?_
    rintro e w4 ⟨rfl, k4⟩
    go_wp2
    go_ret
    exact ⟨rfl, k4⟩
end Go.Proofs.YtonjkgonbfimjaaDoor
