/- KeysBack: what its walk asks of the texts. -/
import Derived.Test.YtkjjadacpbbnhaaDoorKyP
import Derived.Deep.RegionHeld3
import Derived.Deep.QuietTactic
import Derived.BigQuiet
set_option linter.unusedVariables false
namespace Go.Proofs.YtkjjadacpbbnhaaDoor
open Go.ChangeShapes Go.WideShapes Go.ChangeAt Go.RowKit Mon Ky

theorem put_no {o d : Int} (h : checkK o d = false) : putS o d = ⟨#[]⟩ := by unfold putS putK; rw [h]; simp
theorem put_yes {o d : Int} (h : checkK o d = true) : putS o d ≠ ⟨#[]⟩ := fun e => putK_ne (check_iff.1 h) (by
  have e2 : (putS o d).data.toList = [] := by rw [e]
  exact e2)
theorem put_short (o d : Int) : (putS o d).size ≤ 100 := by
  cases hc : checkK o d with
  | false => rw [put_no hc]; exact Nat.zero_le _
  | true =>
    have H := check_iff.1 hc
    have h1 := put_size (Or.inr ⟨H.o0, H.o1⟩)
    have h2 := word_size (d := d)
    have h3 : (wordB d).length ≤ 7 := by
      have : (wordS d).size = (wordB d).length := size_mk _
      omega
    have : (putS o d).size = (putK o d).length := size_mk _
    rw [this, putK_yes H]
    simp
    omega
theorem put_is {o d : Int} (h : checkK o d = true) : GetIs (putS o d).data.toList o d true := Or.inl ⟨rfl, check_iff.1 h, rfl⟩
theorem put_same {o d o' d' : Int} (h : checkK o d = true) (g : checkK o' d' = true) (e : putS o d = putS o' d') : o = o' ∧ d = d' :=
  putK_inj (check_iff.1 h) (check_iff.1 g) (by
    have : (putS o d).data.toList = (putS o' d').data.toList := by rw [e]
    exact this)
theorem no_empty {X : ByteArray} (h : X ≠ ⟨#[]⟩) : X.toList.isEmpty = false := by
  have := bytes_eq h
  cases hx : X.toList with
  | nil => rw [hx, ByteArray.toList_eq] at this; exact absurd this (by decide)
  | cons a r => rfl
end Go.Proofs.YtkjjadacpbbnhaaDoor
