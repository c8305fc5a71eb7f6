
/- The document's files of the payment: header, trailer. -/
import Derived.Test.YtomonhghioamfaaDoorStLinesC
set_option linter.unusedVariables false
namespace Go.Proofs.YtomonhghioamfaaDoor
open Go.ChangeShapes Go.WideShapes Go.ChangeAt Go.RowKit Ky Rw Csv Stl

theorem add_pos (a : Addr) {k : Nat} (h : 0 < k) : a.add k = ⟨a.block, a.off + k, none⟩ := by
  unfold Addr.add
  rw [if_neg (by omega)]
theorem strs_three {w : World} {v : Value} {F : List (List UInt8)} (h : StrsAt w v F) (hl : F.length = 3) : ∃ a c, v = .slice (some a) 3 c ∧ w.cell? a = some (sv (fa F 0)) ∧ w.cell? ⟨a.block, a.off + 1, none⟩ = some (sv (fa F 1)) ∧ w.cell? ⟨a.block, a.off + 2, none⟩ = some (sv (fa F 2)) := by
  obtain ⟨p, c, rfl, _, hc⟩ := h
  rw [hl]
  have e : ∀ j, j < 3 → F[j]? = some (fa F j) := fun j hj => by
    unfold fa
    rw [List.getElem?_eq_getElem (by omega)]
    rfl
  obtain ⟨a, rfl, h0⟩ := hc 0 _ (e 0 (by omega))
  obtain ⟨a1, q1, h1⟩ := hc 1 _ (e 1 (by omega))
  obtain ⟨a2, q2, h2⟩ := hc 2 _ (e 2 (by omega))
  cases q1
  cases q2
  exact ⟨a, c, rfl, by simpa [Addr.add] using h0, add_pos a (k := 1) (by omega) ▸ h1, add_pos a (k := 2) (by omega) ▸ h2⟩
theorem strs_five {w : World} {v : Value} {F : List (List UInt8)} (h : StrsAt w v F) (hl : F.length = 5) : ∃ a c, v = .slice (some a) 5 c ∧ w.cell? a = some (sv (fa F 0)) ∧ w.cell? ⟨a.block, a.off + 1, none⟩ = some (sv (fa F 1)) ∧ w.cell? ⟨a.block, a.off + 2, none⟩ = some (sv (fa F 2)) ∧ w.cell? ⟨a.block, a.off + 3, none⟩ = some (sv (fa F 3)) ∧ w.cell? ⟨a.block, a.off + 4, none⟩ = some (sv (fa F 4)) := by
  obtain ⟨p, c, rfl, _, hc⟩ := h
  rw [hl]
  have e : ∀ j, j < 5 → F[j]? = some (fa F j) := fun j hj => by
    unfold fa
    rw [List.getElem?_eq_getElem (by omega)]
    rfl
  obtain ⟨a, rfl, h0⟩ := hc 0 _ (e 0 (by omega))
  obtain ⟨a1, q1, h1⟩ := hc 1 _ (e 1 (by omega))
  obtain ⟨a2, q2, h2⟩ := hc 2 _ (e 2 (by omega))
  obtain ⟨a3, q3, h3⟩ := hc 3 _ (e 3 (by omega))
  obtain ⟨a4, q4, h4⟩ := hc 4 _ (e 4 (by omega))
  cases q1
  cases q2
  cases q3
  cases q4
  exact ⟨a, c, rfl, by simpa [Addr.add] using h0, add_pos a (k := 1) (by omega) ▸ h1, add_pos a (k := 2) (by omega) ▸ h2, add_pos a (k := 3) (by omega) ▸ h3, add_pos a (k := 4) (by omega) ▸ h4⟩
/-- Fields that are short enough to be asked. -/
def Short (F : List (List UInt8)) : Prop := ∀ i, (fa F i).length ≤ 1000
theorem ret2 {a b c d : Int} (h : a = b) (g : c = d) : Ending.returned (.tuple #[.int .i64 a, .int .i64 c]) = .returned (.tuple #[.int .i64 b, .int .i64 d]) := by rw [h, g]
end Go.Proofs.YtomonhghioamfaaDoor
