
/- The contracts of the document's Pad, Unpad, Get (layer 1). -/
import Derived.Test.YtnkcbefamajghaaDoorMoneyRefC
import Derived.Test.YtnkcbefamajghaaDoorMoneyGetC
set_option linter.unusedVariables false
namespace Go.Proofs.YtnkcbefamajghaaDoor
open Go.ChangeShapes Go.WideShapes Go.ChangeAt Go.RowKit Mon

theorem dig_zero {c N : Nat} (h : N < 10 ^ c) : (⟨#[48]⟩ : ByteArray) ++ ⟨(dig c N).toArray⟩ = ⟨(dig (c + 1) N).toArray⟩ := by
  rw [dig_front, Nat.div_eq_of_lt h]; exact ByteArray.mk_append_mk [48] _

/-- For a measure. -/
def strSize : Value → Nat | .string b => b.size | _ => 0

theorem step_wrap {a x : Nat} (ha : a < 100000000000000000) (h1 : 48 ≤ x) (h2 : x ≤ 57) : wrap64 (wrap64 (wrap64 ((a : Int) * 10) + (x : Int)) - 48) = ((a * 10 + (x - 48) : Nat) : Int) := by
  have e1 : wrap64 ((a : Int) * 10) = (a : Int) * 10 := i64w (by unfold top; omega) (by unfold top; omega)
  have e2 : wrap64 ((a : Int) * 10 + x) = (a : Int) * 10 + x := i64w (by unfold top; omega) (by unfold top; omega)
  have e3 : wrap64 ((a : Int) * 10 + x - 48) = (a : Int) * 10 + x - 48 := i64w (by unfold top; omega) (by unfold top; omega)
  rw [e1, e2, e3]; omega

/-- What the document's Get has told a text of digits by: too great a number is none. -/
theorem get_big {l : List UInt8} (h : (9223372036854775808 : Int) < (num (tailOf l) : Int)) : getB l = false ∧ getV l = 0 := by
  have hb : getB l = false := by
    have : inI64 (guess l) = false := by
      unfold inI64
      cases hc : neg1 l
      · rw [(tail_pos hc).2]; simp; unfold top; omega
      · rw [(tail_neg hc).2]; simp; unfold top; omega
    unfold getB; rw [this]; simp
  exact ⟨hb, by rw [getV, hb]; rfl⟩
theorem num_mono (a b : List UInt8) : num a ≤ num (a ++ b) := by
  suffices H : ∀ (b : List UInt8) (n m : Nat), n ≤ m → n ≤ b.foldl (fun n c => n * 10 + (c.toNat - 48)) m from by
    unfold num; rw [List.foldl_append]; exact H b _ _ (Nat.le_refl _)
  intro b
  induction b with
  | nil => intro n m h; exact h
  | cons c b ih => intro n m h; exact ih n _ (by show n ≤ m * 10 + (c.toNat - 48); omega)
theorem num_take (l : List UInt8) (k : Nat) : num (l.take k) ≤ num l := by
  have := num_mono (l.take k) (l.drop k)
  rwa [List.take_append_drop] at this

end Go.Proofs.YtnkcbefamajghaaDoor
