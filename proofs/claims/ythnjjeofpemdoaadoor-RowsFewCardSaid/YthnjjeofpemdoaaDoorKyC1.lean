
/- The program's keys: Check, isDeed, Party, Undoes, Less. -/
import Derived.Test.YthnjjeofpemdoaaDoorKyRefG
import Derived.Test.YthnjjeofpemdoaaDoorKyMath
import Derived.WalkKit
set_option linter.unusedVariables false
namespace Go.Proofs.YthnjjeofpemdoaaDoor
open Go.ChangeShapes Go.WideShapes Go.ChangeAt Go.RowKit Mon Ky

/-- What the program's one table holds: whose each deed is. -/
def HasP (w : World) : Prop := ∀ d : Nat, d < 6 → w.cell? ⟨0, d, none⟩ = some (.int .i64 (partyK d))
theorem HasP.keeps {w w' : World} (h : HasP w) (k : Keeps w w') : HasP w' := fun d hd => ky_cell k (h d hd)
theorem pk_isDeed (d : Int) (w : World) : Calls Tryd.prog 40 #[.int .i64 d] w fun e w' => e = .returned (.bool (decide (0 ≤ d) && decide (d < 6))) ∧ w = w' := by
  by_cases h1 : 0 ≤ d
  · by_cases h2 : d < 6
    · have E : Hid ((decide (0 ≤ d) && decide (d < 6)) = true) := Lib.hid (by simp; omega)
      go_enter Tryd.func40, Tryd.ntmps40
      go_wp2
      go_ret
      exact ⟨by rw [E.out]; rfl, rfl⟩
    · have E : Hid ((decide (0 ≤ d) && decide (d < 6)) = false) := Lib.hid (by simp; omega)
      go_enter Tryd.func40, Tryd.ntmps40
      go_wp2
      go_ret
      have E2 : decide (d < 6) = false := by simp; omega
      exact ⟨by rw [E2]; rfl, rfl⟩
  · have E : Hid ((decide (0 ≤ d) && decide (d < 6)) = false) := Lib.hid (by simp; omega)
    go_enter Tryd.func40, Tryd.ntmps40
    go_wp2
    go_ret
    exact ⟨by rw [E.out]; rfl, rfl⟩
theorem pk_isDeed_is (d : Int) (b : Bool) (w : World) (h : (decide (0 ≤ d) && decide (d < 6)) = b) : Calls Tryd.prog 40 #[.int .i64 d] w fun e w' => e = .returned (.bool b) ∧ w = w' := h ▸ pk_isDeed d w
theorem pk_check (o d : Int) (w : World) : Calls Tryd.prog 35 #[kyV o d] w fun e w' => e = .returned (.bool (checkK o d)) ∧ Keeps w w' := by
  have HB := Lib.hid (ky_box w (.cells #[.int .i64 o, .int .i64 d] tKy))
  unfold kyV
  have no : ¬ Chk o d → checkK o d = false := fun h => by
    cases hc : checkK o d with
    | false => rfl
    | true => exact absurd (check_iff.1 hc) h
  by_cases h1 : 1 ≤ o
  rotate_left
  · have H := Lib.hid (no fun h => by have := h.o0; omega)
    clear no
    go_enter Tryd.func35, Tryd.ntmps35
    go_wp2
    go_ret
    exact ⟨by rw [H.out]; rfl, HB.out⟩
  by_cases h2 : o ≤ 60
  rotate_left
  · have H := Lib.hid (no fun h => by have := h.o1; omega)
    clear no
    go_enter Tryd.func35, Tryd.ntmps35
    go_wp2
    go_ret
    exact ⟨by rw [H.out]; rfl, HB.out⟩
  by_cases h3 : 0 ≤ d ∧ d < 6
  · have H := Lib.hid (check_iff.2 (⟨by omega, by omega, h3.1, h3.2⟩ : Chk o d))
    have D := Lib.hid fun w => pk_isDeed_is d true w (by simp; omega)
    clear no h3
    go_enter Tryd.func35, Tryd.ntmps35
    go_wp2_with fail
    refine (D.out _).mono ?_
    rintro e w2 ⟨rfl, rfl⟩
    go_wp2
    go_ret
    exact ⟨by rw [H.out]; rfl, HB.out⟩
  · have H := Lib.hid (no fun h => h3 ⟨h.d0, h.d1⟩)
    have D := Lib.hid fun w => pk_isDeed_is d false w (by simp; omega)
    clear no h3
    go_enter Tryd.func35, Tryd.ntmps35
    go_wp2_with fail
    refine (D.out _).mono ?_
    rintro e w2 ⟨rfl, rfl⟩
    go_wp2
    go_ret
    exact ⟨by rw [H.out]; rfl, HB.out⟩
theorem pk_party (d : Int) (w : World) (hp : HasP w) : Calls Tryd.prog 36 #[.int .i64 d] w fun e w' => e = .returned (.int .i64 (partyK d)) ∧ w = w' := by
  by_cases h3 : 0 ≤ d ∧ d < 6
  · have D := Lib.hid fun w => pk_isDeed_is d true w (by simp; omega)
    obtain ⟨g0, g6⟩ := h3
    obtain ⟨n, rfl⟩ : ∃ n : Nat, d = n := ⟨d.toNat, by omega⟩
    have hc := hp n (by omega)
    obtain ⟨p, hpp⟩ : ∃ p, partyK n = p := ⟨_, rfl⟩
    rw [hpp] at hc ⊢
    clear hpp hp
    go_enter Tryd.func36, Tryd.ntmps36
    go_wp2_with fail
    refine (D.out _).mono ?_
    rintro e w2 ⟨rfl, rfl⟩
    go_wp2
    go_ret
    exact ⟨rfl, rfl⟩
  · have D := Lib.hid fun w => pk_isDeed_is d false w (by simp; omega)
    have E : Hid (partyK d = -1) := Lib.hid (by unfold partyK; rw [if_neg (by omega)])
    clear h3 hp
    go_enter Tryd.func36, Tryd.ntmps36
    go_wp2_with fail
    refine (D.out _).mono ?_
    rintro e w2 ⟨rfl, rfl⟩
    go_wp2
    go_ret
    exact ⟨by rw [E.out]; rfl, rfl⟩
theorem pk_less (o d o' d' : Int) (w : World) : Calls Tryd.prog 22 #[kyV o d, kyV o' d'] w fun e w' => e = .returned (.bool (lessK o d o' d')) ∧ Keeps w w' := by
  have HB := Lib.hid ((ky_box w (.cells #[.int .i64 o, .int .i64 d] tKy)).trans (ky_box _ (.cells #[.int .i64 o', .int .i64 d'] tKy)))
  unfold kyV
  by_cases h : o = o'
  · subst h
    have E : Hid (lessK o d o d' = decide (d < d')) := Lib.hid (by unfold lessK; simp)
    have e1 : (o != o) = false := by simp
    go_enter Tryd.func22, Tryd.ntmps22
    go_wp2
    go_ret
    exact ⟨by rw [E.out]; rfl, HB.out⟩
  · have E : Hid (lessK o d o' d' = decide (o < o')) := Lib.hid (by unfold lessK; simp [h])
    have e1 : (o != o') = true := by simpa using h
    clear h
    go_enter Tryd.func22, Tryd.ntmps22
    go_wp2
    go_ret
    exact ⟨by rw [E.out]; rfl, HB.out⟩
end Go.Proofs.YthnjjeofpemdoaaDoor
