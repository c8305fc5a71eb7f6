
/- The contracts of the statements' own helpers: Same. -/
import Derived.Test.YthhpbnpenkndfaaDoorCsvMem
import Derived.Deep.RegionWith
import Derived.Deep.QuietTactic
import Derived.BigQuiet
set_option linter.unusedVariables false
namespace Go.Proofs.YthhpbnpenkndfaaDoor
open Go.ChangeShapes Go.WideShapes Go.ChangeAt Go.RowKit Csv

def sameB (A B : List (List Bs)) : Bool := decide (A = B)
theorem same_drewN (w : World) (n : Nat) : Keeps w (w.drewN n) := ⟨rfl, rfl, rfl, Nat.le_refl _, fun _ _ => rfl⟩
theorem take_more {α : Type} {l l' : List α} {k : Nat} {x : α} (h : l.take k = l'.take k) (h1 : l[k]? = some x) (h2 : l'[k]? = some x) : l.take (k + 1) = l'.take (k + 1) := by
  rw [List.take_add_one, List.take_add_one, h, h1, h2]
theorem ne_at {α : Type} {l l' : List α} {k : Nat} {x y : α} (h1 : l[k]? = some x) (h2 : l'[k]? = some y) (h : x ≠ y) : l ≠ l' := by
  intro e; subst e; rw [h1] at h2; exact h (Option.some.inj h2)

set_option maxHeartbeats 4000000 in
theorem same_any (va vb : Value) (A B : List (List Bs)) (w : World) (hA : RowsAt w va A) (hB : RowsAt w vb B) :
    Calls Tryd.prog 23 #[va, vb] w fun e w' => e = .returned (.bool (sameB A B)) ∧ Keeps w w' := by
  obtain ⟨pA, cA, rfl, lA, hA⟩ := hA
  obtain ⟨pB, cB, rfl, lB, hB⟩ := hB
  have HA := Lib.hid hA
  have HB := Lib.hid hB
  clear hA hB
  unfold maxLen at lA lB
  by_cases hl : A.length = B.length
  · have t : ((A.length : Int) != (B.length : Int)) = false := by simp [bne, hl]
    have HL := Lib.hid hl
    clear hl
    go_enter Tryd.func23, Tryd.ntmps23
    go_wp2
    go_loopw [5] (fun i wx => ∃ (k n : Nat), k ≤ A.length ∧ i = .int .i64 k ∧ A.take k = B.take k ∧ wx = w.drewN n) (fun i _ => A.length - (intOf i).toNat)
    case atStart => exact ⟨0, 0, by omega, rfl, rfl, rfl⟩
    case round =>
      obtain ⟨k, n, hk, rfl, htk, rfl⟩ := hrel
      have HT := Lib.hid htk
      clear htk
      by_cases hlt : k < A.length
      · have hltB : k < B.length := by rw [← HL.out]; exact hlt
        obtain ⟨ra, hra⟩ : ∃ ra, A[k]? = some ra := ⟨_, List.getElem?_eq_getElem hlt⟩
        obtain ⟨rb, hrb⟩ : ∃ rb, B[k]? = some rb := ⟨_, List.getElem?_eq_getElem hltB⟩
        obtain ⟨a, va', rfl, hca, qa, ca, rfl, lra, hsa⟩ := HA.out k ra hra
        obtain ⟨b, vb', rfl, hcb, qb, cb, rfl, lrb, hsb⟩ := HB.out k rb hrb
        have HRA := Lib.hid hra
        have HRB := Lib.hid hrb
        have HSA := Lib.hid hsa
        have HSB := Lib.hid hsb
        unfold maxLen at lra lrb
        clear hra hrb hsa hsb
        have hi1 : (k : Int) < (A.length : Int) := by omega
        have hi2 : (k : Int) < (B.length : Int) := by omega
        by_cases hl2 : ra.length = rb.length
        · have t2 : ((ra.length : Int) != (rb.length : Int)) = false := by simp [bne, hl2]
          have HL2 := Lib.hid hl2
          clear hl2
          go_wp2
          go_region
          all_goals go_wp2
          go_loopw [6] (fun j wx => ∃ (m n' : Nat), m ≤ ra.length ∧ j = .int .i64 m ∧ ra.take m = rb.take m ∧ wx = w.drewN n') (fun j _ => ra.length - (intOf j).toNat)
          case atStart => exact ⟨0, _, by omega, rfl, rfl, rfl⟩
          case round =>
            obtain ⟨m, n', hm, rfl, htm, rfl⟩ := hrel
            have HTM := Lib.hid htm
            clear htm
            by_cases hlm : m < ra.length
            · have hlmB : m < rb.length := by rw [← HL2.out]; exact hlm
              obtain ⟨x, hx⟩ : ∃ x, ra[m]? = some x := ⟨_, List.getElem?_eq_getElem hlm⟩
              obtain ⟨y, hy⟩ : ∃ y, rb[m]? = some y := ⟨_, List.getElem?_eq_getElem hlmB⟩
              obtain ⟨a2, rfl, hcx⟩ := HSA.out m x hx
              obtain ⟨b2, rfl, hcy⟩ := HSB.out m y hy
              have HX := Lib.hid hx
              have HY := Lib.hid hy
              clear hx hy
              have hj1 : (m : Int) < (ra.length : Int) := by omega
              have hj2 : (m : Int) < (rb.length : Int) := by omega
              by_cases hxy : x = y
              · obtain rfl := hxy
                go_wp2
                go_region
                all_goals go_wp2
                go_roundw
                case rel => exact ⟨m + 1, _, by omega, by go_num, take_more HTM.out HX.out HY.out, rfl⟩
                case measure => simp [intOf]; omega
              · have txy : (x == y) = false := by simpa using hxy
                have HXY := Lib.hid hxy
                clear hxy
                go_wp2
                go_region
                all_goals go_wp2
                go_ret
                have hne : A ≠ B := ne_at HRA.out HRB.out (ne_at HX.out HY.out HXY.out)
                exact ⟨ret_bool (by unfold sameB; simp [hne]), same_drewN _ _⟩
            · obtain rfl : m = ra.length := by omega
              have hz : ¬ ((ra.length : Int) < (ra.length : Int)) := by omega
              have hrr : ra = rb := by
                have h := HTM.out
                rw [List.take_of_length_le (Nat.le_refl _), List.take_of_length_le (by rw [HL2.out]; exact Nat.le_refl _)] at h
                exact h
              have HRR := Lib.hid hrr
              clear hrr
              go_wp2
              go_roundw
              case rel => exact ⟨k + 1, _, by omega, by go_num, take_more HT.out HRA.out (by rw [HRR.out]; exact HRB.out), rfl⟩
              case measure => simp [intOf]; omega
        · have t2 : ((ra.length : Int) != (rb.length : Int)) = true := by simp [bne]; omega
          have HL2 := Lib.hid hl2
          clear hl2
          go_wp2
          go_region
          all_goals go_wp2
          go_ret
          have hne : A ≠ B := ne_at HRA.out HRB.out (fun e => HL2.out (by rw [e]))
          exact ⟨ret_bool (by unfold sameB; simp [hne]), same_drewN _ _⟩
      · obtain rfl : k = A.length := by omega
        have hz : ¬ ((A.length : Int) < (A.length : Int)) := by omega
        have hab : A = B := by
          have h := HT.out
          rw [List.take_of_length_le (Nat.le_refl _), List.take_of_length_le (by rw [HL.out]; exact Nat.le_refl _)] at h
          exact h
        have HAB := Lib.hid hab
        clear hab
        go_wp2
        go_ret
        exact ⟨ret_bool (by unfold sameB; simp [HAB.out]), same_drewN _ _⟩
  · have t : ((A.length : Int) != (B.length : Int)) = true := by simp [bne]; omega
    have HL := Lib.hid hl
    clear hl
    go_enter Tryd.func23, Tryd.ntmps23
    go_wp2
    go_ret
    have hne : A ≠ B := fun e => HL.out (by rw [e])
    exact ⟨ret_bool (by unfold sameB; simp [hne]), Keeps.refl _⟩
end Go.Proofs.YthhpbnpenkndfaaDoor
