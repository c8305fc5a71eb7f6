
/- PartyBarred: the walk. -/
import Derived.Test.YtkffpmeocfhcpaaDoorPaTwo
import Derived.WalkKit
import Derived.Laws.BitsLemmas
set_option linter.unusedVariables false
namespace Go.Proofs.YtkffpmeocfhcpaaDoor
open Go.ChangeShapes Go.WideShapes Go.ChangeAt Go.RowKit Ky Rw Od
namespace Pa
open Pp
/-- The low bits of a number. -/
theorem palow (n : Int) (k : Nat) (m : Int) (hm : (BitVec.ofInt 64 m).toNat = 2 ^ k - 1) (hk : k ≤ 62) : bits .and .i64 n m = (((n % ((2 ^ 64 : Nat) : Int)).toNat % 2 ^ k : Nat) : Int) := by
  show IntKind.i64.wrap ((BitVec.ofInt 64 n &&& BitVec.ofInt 64 m).toNat : Nat) = _
  rw [BitVec.toNat_and, BitVec.toNat_ofInt, hm, Nat.and_two_pow_sub_one_eq_mod]
  have h1 : (n % ((2 ^ 64 : Nat) : Int)).toNat % 2 ^ k < 2 ^ k := Nat.mod_lt _ (Nat.two_pow_pos k)
  have h2 : 2 ^ k ≤ 2 ^ 62 := Nat.pow_le_pow_right (by omega) hk
  have h3 : (2 : Nat) ^ 62 = 4611686018427387904 := by decide
  generalize (n % ((2 ^ 64 : Nat) : Int)).toNat % 2 ^ k = q at *
  rw [IntKind.wrap_i64]
  omega
theorem paand (n : Int) (k : Nat) (m : Int) (hm : (BitVec.ofInt 64 m).toNat = 2 ^ k - 1) (hk : k ≤ 62) (hu : (m : Int) = 2 ^ k - 1) : 0 ≤ bits .and .i64 n m ∧ bits .and .i64 n m ≤ m := by
  rw [palow n k m hm hk]
  have h1 : (n % ((2 ^ 64 : Nat) : Int)).toNat % 2 ^ k < 2 ^ k := Nat.mod_lt _ (Nat.two_pow_pos k)
  refine ⟨by omega, ?_⟩
  rw [hu]
  have h2 : ((((n % ((2 ^ 64 : Nat) : Int)).toNat % 2 ^ k : Nat) : Int)) < ((2 ^ k : Nat) : Int) := by exact_mod_cast h1
  have h3 : ((2 ^ k : Nat) : Int) = 2 ^ k := by simp
  omega
theorem pa_may {i q a d t o k Q A : Int} {r s S : ByteArray} (h : Fit i r s q a) (h0 : 0 ≤ d) (h6 : d < 6) (hm : IsM i r s q a d t o k S Q A) : mayM t o k S Q A 0 = true := by
  rcases hm with ⟨_, _, _, rfl, rfl, rfl, h4⟩ | ⟨hn, _⟩
  · have hc : checkK o k = true := check_iff.2 ⟨by have := h.i0; omega, by have := h.i1; omega, h0, h6⟩
    rcases h4 with ⟨hp, rfl, rfl, rfl⟩ | ⟨hp, rfl, rfl, rfl⟩
    · rw [may_pay hc rfl rfl hp]
      unfold amtB
      rw [decide_eq_true (show 1 ≤ A ∧ A ≤ 1099511627776 from ⟨h.a0, h.a1⟩)]
      rfl
    · rw [may_goods hc rfl rfl hp]
      unfold goodsB qtyB
      rw [decide_eq_true h.s0, decide_eq_true h.s1, h.ns, decide_eq_true (show 1 ≤ Q ∧ Q ≤ 999 from ⟨h.q0, h.q1⟩)]
      rfl
  · exact absurd ⟨check_fit.2 h, h0, h6⟩ hn
/-- What a law's order is asked of a party of that kind: its deed, and the message. -/
structure Deed (kd i q a : Int) (dd : Int) (S : ByteArray) (Q A : Int) : Prop where
  m1 : IsM i rS nut q a dd kd i dd S Q A
  m2 : IsM i rS nut q a (dd + 3) kd i (dd + 3) S Q A
  y1 : Pt.may ⟨kd, i, dd, S, Q, A, 0⟩ = true
  y2 : Pt.may ⟨kd, i, dd + 3, S, Q, A, 0⟩ = true
  lo : 0 ≤ dd
  hi : dd < 3
  sz : S.size ≤ maxLen
theorem fit_small {i q a : Int} (hi : 1 ≤ i ∧ i ≤ 32) (hq : 1 ≤ q ∧ q ≤ 512) (ha : 1 ≤ a ∧ a ≤ 1073741824) : Fit i rS nut q a :=
  ⟨hi.1, by omega, hq.1, by omega, ha.1, by omega, by decide, by decide, by decide, by decide, by decide +kernel, by decide +kernel⟩
theorem deed_of {i q a : Int} (hi : 1 ≤ i ∧ i ≤ 32) (hq : 1 ≤ q ∧ q ≤ 512) (ha : 1 ≤ a ∧ a ≤ 1073741824) :
    Deed 0 i q a 1 ⟨#[]⟩ 0 a ∧ Deed 1 i q a 0 nut q 0 ∧ Deed 2 i q a 2 nut q 0 := by
  have f := fit_small hi hq ha
  have c := check_fit.2 f
  have a1 : IsM i rS nut q a 1 0 i 1 ⟨#[]⟩ 0 a := Or.inl ⟨c, by decide, by decide, by decide, rfl, rfl, Or.inl ⟨by decide, rfl, rfl, rfl⟩⟩
  have a2 : IsM i rS nut q a 4 0 i 4 ⟨#[]⟩ 0 a := Or.inl ⟨c, by decide, by decide, by decide, rfl, rfl, Or.inl ⟨by decide, rfl, rfl, rfl⟩⟩
  have b1 : IsM i rS nut q a 0 1 i 0 nut q 0 := Or.inl ⟨c, by decide, by decide, by decide, rfl, rfl, Or.inr ⟨by decide, rfl, rfl, rfl⟩⟩
  have b2 : IsM i rS nut q a 3 1 i 3 nut q 0 := Or.inl ⟨c, by decide, by decide, by decide, rfl, rfl, Or.inr ⟨by decide, rfl, rfl, rfl⟩⟩
  have c1 : IsM i rS nut q a 2 2 i 2 nut q 0 := Or.inl ⟨c, by decide, by decide, by decide, rfl, rfl, Or.inr ⟨by decide, rfl, rfl, rfl⟩⟩
  have c2 : IsM i rS nut q a 5 2 i 5 nut q 0 := Or.inl ⟨c, by decide, by decide, by decide, rfl, rfl, Or.inr ⟨by decide, rfl, rfl, rfl⟩⟩
  exact ⟨⟨a1, a2, pa_may f (by decide) (by decide) a1, pa_may f (by decide) (by decide) a2, by decide, by decide, by unfold maxLen; decide⟩,
    ⟨b1, b2, pa_may f (by decide) (by decide) b1, pa_may f (by decide) (by decide) b2, by decide, by decide, nut_size⟩,
    ⟨c1, c2, pa_may f (by decide) (by decide) c1, pa_may f (by decide) (by decide) c2, by decide, by decide, nut_size⟩⟩
/-- The end that all ways come to. -/
structure Bars (kd i dd : Int) (m u : Pt.M) (F : Int) (ahead : Bool) (p1 pf : Pt.P) (c a q : Int) : Prop where
  two : Pt.ask p1 u = (pf, some 1)
  one : Pt.ask pf m = (pf, some c)
  rows : pf.L = [⟨i, dd, c, a, q⟩, ⟨i, dd + 3, 1, a, q⟩]
  free : leftV pf nut = F
  none : ahead = false → a = 0 ∧ q = 0
theorem bars_no {kd stock limit i q a dd Q A : Int} {S : ByteArray} (h : Deed kd i q a dd S Q A) : ∃ pf, Bars kd i dd ⟨kd, i, dd, S, Q, A, 0⟩ ⟨kd, i, dd + 3, S, Q, A, 0⟩ (leftV (Pt.newP kd stock limit) nut) false (Pt.newP kd stock limit) pf 2 0 0 := by
  obtain ⟨h1, h2⟩ := Pt.barred_none (stock := stock) (limit := limit) h.y1 h.y2 rfl rfl rfl rfl h.hi
  exact ⟨_, h1, h2, rfl, rfl, fun _ => ⟨rfl, rfl⟩⟩
theorem bars_yes {kd stock limit i q a dd Q A : Int} {S : ByteArray} (h : Deed kd i q a dd S Q A) : ∃ p1 pf c a q, (c = 1 ∨ c = 2) ∧ Pt.ask (Pt.newP kd stock limit) ⟨kd, i, dd, S, Q, A, 0⟩ = (p1, some c) ∧ Bars kd i dd ⟨kd, i, dd, S, Q, A, 0⟩ ⟨kd, i, dd + 3, S, Q, A, 0⟩ (leftV (Pt.newP kd stock limit) nut) true p1 pf c a q := by
  obtain ⟨c, a, q, G, hc, h1, h2, h3⟩ := Pt.barred_first (stock := stock) (limit := limit) h.y1 h.y2 rfl rfl rfl rfl h.hi
  exact ⟨_, _, c, a, q, hc, h1, h2, h3, rfl, rfl, fun e => by cases e⟩
abbrev t3i : TypeId := 66
theorem deed_0 : ∀ w, (Instr.index t3i (.agg #[.int .i64 1, .int .i64 0, .int .i64 2]) (.int .i64 0)).run Tryd.prog w = .ok (.int .i64 1) w := fun _ => by kernel_rfl
theorem deed_1 : ∀ w, (Instr.index t3i (.agg #[.int .i64 1, .int .i64 0, .int .i64 2]) (.int .i64 1)).run Tryd.prog w = .ok (.int .i64 0) w := fun _ => by kernel_rfl
theorem deed_2 : ∀ w, (Instr.index t3i (.agg #[.int .i64 1, .int .i64 0, .int .i64 2]) (.int .i64 2)).run Tryd.prog w = .ok (.int .i64 2) w := fun _ => by kernel_rfl
end Pa
end Go.Proofs.YtkffpmeocfhcpaaDoor
