
/- The contracts of fixed.together, firstOdd, fits; bytes.TrimRight at a blank; strings.HasSuffix. -/
import Derived.Test.YtbemkcnikoiecaaFixedMath
import Derived.Test.YtbemkcnikoiecaaCsvMem
import Derived.Deep.LoopGhost
set_option linter.unusedVariables false
namespace Go.Proofs.Ytbemkcnikoiecaa
open Go.ChangeShapes Go.WideShapes Go.ChangeAt Go.RowKit Csv Fix

/-- What is read of a row of integers. -/
abbrev iv (n : Int) : Value := .int .i64 n
def IntsAt (w : World) (v : Value) (W : List Int) : Prop :=
  ∃ p c, v = .slice p W.length c ∧ W.length ≤ maxLen ∧ ∀ j n, W[j]? = some n → ∃ a : Addr, p = some a ∧ w.cell? (a.add j) = some (iv n)
theorem IntsAt.keeps {w w' : World} {v : Value} {W : List Int} (h : IntsAt w v W) (k : Keeps w w') : IntsAt w' v W := by
  obtain ⟨p, c, h1, h2, h3⟩ := h
  refine ⟨p, c, h1, h2, fun j x hx => ?_⟩
  obtain ⟨a, ha, hc⟩ := h3 j x hx
  exact ⟨a, ha, cell_keeps k hc⟩
theorem IntsAt.nil (w : World) : IntsAt w (.slice none 0 0) [] := ⟨none, 0, rfl, by simp [maxLen], fun j r h => by simp at h⟩
/-- Integers that are in reach. -/
def In64 (W : List Int) : Prop := ∀ n ∈ W, -9223372036854775808 ≤ n ∧ n ≤ 9223372036854775807

/-- What all widths have together, or 0. -/
def togI (W : List Int) : Int := if okW W = true then (sumW W : Int) else 0
theorem togI_no {W : List Int} (h : okW W = false) : togI W = 0 := by unfold togI; rw [if_neg (by simp [h])]
theorem togI_yes {W : List Int} (h : okW W = true) : togI W = (sumW W : Int) := by unfold togI; rw [if_pos h]
/-- A place, or -1. -/
def placeI (o : Option Nat) : Int := match o with | some k => (k : Int) | none => -1

theorem byte_no {c : UInt8} {n : Nat} (hn : n < 256) (h : c ≠ UInt8.ofNat n) : ((c.toNat : Int) == (n : Int)) = false := by
  rw [beq_eq_false_iff_ne]
  intro e
  apply h
  have : c.toNat = n := by omega
  rw [← this]; simp

/-! ### A trim -/
def lenOfS : Value → Nat | .slice _ n _ => n | _ => 0
/-- Bytes that are read. -/
def BytesRd (w : World) (p : Option Addr) (l : Bs) : Prop := ∀ j c, l[j]? = some c → ∃ a : Addr, p = some a ∧ w.cell? (a.add j) = some (bv c)
theorem BytesRd.keeps {w w' : World} {p : Option Addr} {l : Bs} (h : BytesRd w p l) (k : Keeps w w') : BytesRd w' p l := by
  intro j x hx
  obtain ⟨a, ha, hc⟩ := h j x hx
  exact ⟨a, ha, cell_keeps k hc⟩

/-! ### A blank at the end -/
theorem endB_at {f : Bs} {k : Nat} {c : UInt8} (hk : f[k]? = some c) (hl : f.length = k + 1) : endB f = (c == 32) := by
  unfold endB
  rw [List.getLast?_eq_getElem?, hl, Nat.add_sub_cancel, hk]
  rfl
theorem endB_nil : endB [] = false := rfl

theorem suffix_one (s : ByteArray) (k : Nat) (hk : s.size = k + 1) (c : UInt8) (h : s[k]'(by omega) = c) : s.extract k s.size = ⟨#[c]⟩ := by
  apply ByteArray.ext
  apply Array.ext'
  rw [← ByteArray.toList_eq, extract_list, hk, Nat.add_sub_cancel_left]
  rw [List.drop_eq_getElem_cons (by simp; omega)]
  simp
  exact h

theorem fitB_long {f : Bs} {n : Int} (h : n < f.length) : fitB f n = false := by unfold fitB; rw [decide_eq_false (by omega)]; rfl
theorem fitB_odd {f : Bs} {n : Int} {k : Nat} (h : odd f = some k) : fitB f n = false := by
  unfold fitB
  have : f.all okB = false := by rw [← odd_all, h]; rfl
  rw [this, Bool.and_false]; rfl
theorem fitB_ok {f : Bs} {n : Int} (h : (f.length : Int) ≤ n) (ho : odd f = none) : fitB f n = !endB f := by
  unfold fitB
  rw [decide_eq_true h, odd_of_none ho]; rfl

end Go.Proofs.Ytbemkcnikoiecaa
