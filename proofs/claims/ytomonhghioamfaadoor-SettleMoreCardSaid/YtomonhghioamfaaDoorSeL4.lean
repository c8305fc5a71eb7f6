
/- SettleBack: the walk. -/
import Derived.Test.YtomonhghioamfaaDoorSeL1
import Derived.Test.YtomonhghioamfaaDoorSeL2
set_option linter.unusedVariables false
namespace Go.Proofs.YtomonhghioamfaaDoor
open Go.ChangeShapes Go.WideShapes Go.ChangeAt Go.RowKit Ky Rw Stl

theorem su16_of {n : Int} (h : (Lit.int .u16 n).wf = true) : ∃ N : Nat, n = N ∧ N < 65536 := by
  simp only [Lit.wf, IntKind.min, IntKind.max, IntKind.signed, IntKind.bits, Bool.and_eq_true] at h
  refine ⟨n.toNat, ?_, ?_⟩ <;> simp at h <;> omega
theorem su8_of {n : Int} (h : (Lit.int .u8 n).wf = true) : ∃ N : Nat, n = N ∧ N < 256 := by
  simp only [Lit.wf, IntKind.min, IntKind.max, IntKind.signed, IntKind.bits, Bool.and_eq_true] at h
  refine ⟨n.toNat, ?_, ?_⟩ <;> simp at h <;> omega
theorem small_k {k t N : Nat} (h : k < t) (z : t = 44 + 29 * N) (hb : N ≤ 100) : k ≤ 100000 := by omega
theorem small_t {t N : Nat} (z : t = 44 + 29 * N) (hb : N ≤ 100) : t ≤ 100000 := by omega
theorem lc_next {l : List UInt8} {i : Nat} {c : UInt8} (h : l[i]? = some c) : lc (1, 1) (l.take (i + 1)) = lc1 (lc (1, 1) (l.take i)) c := by
  rw [List.take_add_one, h, lc_app]
  rfl
theorem lc_le : ∀ (t : List UInt8), (lc (1, 1) t).1 ≤ t.length + 1 ∧ (lc (1, 1) t).2 ≤ t.length + 1 ∧ 1 ≤ (lc (1, 1) t).2 := by
  have h : ∀ (t : List UInt8) (p : Nat × Nat) (m : Nat), p.1 ≤ m → p.2 ≤ m → 1 ≤ p.2 → (lc p t).1 ≤ t.length + m ∧ (lc p t).2 ≤ t.length + m ∧ 1 ≤ (lc p t).2 := by
    intro t
    induction t with
    | nil => intro p m h1 h2 h3; exact ⟨by show p.1 ≤ 0 + m; omega, by show p.2 ≤ 0 + m; omega, h3⟩
    | cons c r ih =>
      intro p m h1 h2 h3
      show (lc (lc1 p c) r).1 ≤ _ ∧ _
      have q : (lc1 p c).1 ≤ m + 1 ∧ (lc1 p c).2 ≤ m + 1 ∧ 1 ≤ (lc1 p c).2 := by
        unfold lc1
        split <;> simp <;> omega
      have := ih (lc1 p c) (m + 1) q.1 q.2.1 q.2.2
      simp only [List.length_cons]
      show (lc (lc1 p c) r).1 ≤ _ ∧ (lc (lc1 p c) r).2 ≤ _ ∧ 1 ≤ (lc (lc1 p c) r).2
      omega
  intro t
  exact h t (1, 1) 1 (by simp) (by simp) (by simp)
theorem cast_up {i k : Nat} (h : i < k) : (i : Int) < (k : Int) := Int.ofNat_lt.2 h
theorem cast_nn (i : Nat) : (0 : Int) ≤ (i : Int) := Int.natCast_nonneg i
theorem wrap_up {a : Nat} (h : a ≤ 100001) : wrap64 ((a : Int) + 1) = ((a + 1 : Nat) : Int) := (i64w (by unfold top; omega) (by unfold top; omega)).trans (by omega)
theorem wrap_it {a : Nat} (h : a ≤ 100001) : wrap64 (a : Int) = (a : Int) := i64w (by unfold top; omega) (by unfold top; omega)
theorem ch_ne {ch : UInt8} (h : ch ≠ 10) : ((ch.toNat : Int) == 10) = false := by
  rw [beq_eq_false_iff_ne]
  exact fun e => h (UInt8.toNat.inj (by show ch.toNat = 10; omega))
theorem meas_up {i k : Nat} (h : i < k) (w : wrap64 ((i : Int) + 1) = ((i + 1 : Nat) : Int)) : k - (intOf (.int .i64 (wrap64 ((i : Int) + 1)))).toNat < k - (intOf (.int .i64 (i : Int))).toNat := by
  rw [w]
  simp [intOf]
  omega
theorem size_nz {t : Nat} (h : 0 < t) : ((t : Int) == 0) = false := by rw [beq_eq_false_iff_ne]; omega
theorem size_pos {t N : Nat} (z : t = 44 + 29 * N) : 0 < t := by omega
theorem size_max {t N : Nat} (z : t = 44 + 29 * N) (hb : N ≤ 100) : t ≤ maxLen := by unfold maxLen; omega
theorem lc_small {l : List UInt8} {i t a b : Nat} (ht : i ≤ t) (h : t ≤ 100000) (ha : (lc (1, 1) (l.take i)).1 = a) (hb : (lc (1, 1) (l.take i)).2 = b) : a ≤ 100001 ∧ b ≤ 100001 := by
  obtain ⟨g1, g2, _⟩ := lc_le (l.take i)
  have g3 : (l.take i).length ≤ i := List.length_take_le _ _
  rw [ha] at g1
  rw [hb] at g2
  omega
end Go.Proofs.YtomonhghioamfaaDoor
