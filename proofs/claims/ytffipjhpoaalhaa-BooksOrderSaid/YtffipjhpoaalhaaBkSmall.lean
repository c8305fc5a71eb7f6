
/- A posting brought to a small one. -/
import Derived.Test.YtffipjhpoaalhaaBkLawC
import Derived.WalkKit
import Derived.Laws.BitsLemmas
set_option linter.unusedVariables false
namespace Go.Proofs.Ytffipjhpoaalhaa
open Go.ChangeShapes Go.WideShapes Go.ChangeAt Go.RowKit Csv Bk Mon

/-- The low bits of a number. -/
theorem bklow (n : Int) (k : Nat) (m : Int) (hm : (BitVec.ofInt 64 m).toNat = 2 ^ k - 1) (hk : k ≤ 62) : bits .and .i64 n m = (((n % ((2 ^ 64 : Nat) : Int)).toNat % 2 ^ k : Nat) : Int) := by
  show IntKind.i64.wrap ((BitVec.ofInt 64 n &&& BitVec.ofInt 64 m).toNat : Nat) = _
  rw [BitVec.toNat_and, BitVec.toNat_ofInt, hm, Nat.and_two_pow_sub_one_eq_mod]
  have h1 : (n % ((2 ^ 64 : Nat) : Int)).toNat % 2 ^ k < 2 ^ k := Nat.mod_lt _ (Nat.two_pow_pos k)
  have h2 : 2 ^ k ≤ 2 ^ 62 := Nat.pow_le_pow_right (by omega) hk
  have h3 : (2 : Nat) ^ 62 = 4611686018427387904 := by decide
  generalize (n % ((2 ^ 64 : Nat) : Int)).toNat % 2 ^ k = q at *
  rw [IntKind.wrap_i64]
  omega
theorem bkand1 (n : Int) : bits .and .i64 n 1 = n % 2 := by rw [bklow n 1 1 (by decide) (by omega)]; omega
theorem bkand3 (n : Int) : bits .and .i64 n 3 = n % 4 := by rw [bklow n 2 3 (by decide) (by omega)]; omega
theorem bkand40 (n : Int) : bits .and .i64 n 1099511627775 = n % 1099511627776 := by rw [bklow n 40 1099511627775 (by decide) (by omega)]; omega
/-- A posting, brought to a small one. -/
def smallI (p : PI) : PI := ⟨if p.s.toList.isEmpty = true then ⟨#[120]⟩ else p.s, 1 + p.ord % 4, p.deb % 4, (p.deb % 4 + 1 + p.cre % 2) % 5, p.amt % 1099511627776⟩
theorem smallI_good (p : PI) (h : p.s.size ≤ 100) : (smallI p).Good ∧ (smallI p).s.size ≤ 100 := by
  unfold smallI
  have hs : (if p.s.toList.isEmpty = true then (⟨#[120]⟩ : ByteArray) else p.s).size ≤ 100 := by
    split
    · decide
    · exact h
  refine ⟨⟨?_, ?_, ?_, ?_, ?_⟩, hs⟩
  · dsimp only; unfold maxLen; omega
  all_goals (unfold I64 top; dsimp only; omega)
theorem small_may (p : PI) : mayM (smallI p).pm = true ∧ (smallI p).pm.ord ≤ 4 ∧ (smallI p).pm.amt ≤ 1099511627775 := by
  have hid : (smallI p).pm.id ≠ [] := by
    unfold smallI PI.pm
    dsimp only
    split
    · decide
    · rename_i h
      rw [empty_is] at h
      simpa using h
  refine ⟨?_, ?_, ?_⟩
  · unfold mayM
    simp only [Bool.and_eq_true, decide_eq_true_eq]
    refine ⟨⟨⟨⟨⟨⟨⟨hid, ?_⟩, ?_⟩, ?_⟩, ?_⟩, ?_⟩, ?_⟩, ?_⟩ <;> (unfold smallI PI.pm; dsimp only; omega)
  · unfold smallI PI.pm; dsimp only; omega
  · unfold smallI PI.pm; dsimp only; omega
set_option maxRecDepth 100000 in
set_option maxHeartbeats 8000000 in
theorem small_any (p : PI) (w : World) :
    Calls Try.prog 20 #[p.val] w fun e w' => e = .returned (smallI p).val ∧ Keeps w w' := by
  have E1 := bkand1 p.cre
  have E3o := bkand3 p.ord
  have E3d := bkand3 p.deb
  have E40 := bkand40 p.amt
  have W1 : wrap64 (1 + p.ord % 4) = 1 + p.ord % 4 := (by unfold wrap64; omega)
  have W2 : wrap64 (p.deb % 4 + 1) = p.deb % 4 + 1 := (by unfold wrap64; omega)
  have W3 : wrap64 (p.deb % 4 + 1 + p.cre % 2) = p.deb % 4 + 1 + p.cre % 2 := (by unfold wrap64; omega)
  have T : (p.deb % 4 + 1 + p.cre % 2).tmod 5 = (p.deb % 4 + 1 + p.cre % 2) % 5 := Int.tmod_eq_emod_of_nonneg (by omega)
  unfold PI.val
  cases hs : p.s.toList.isEmpty with
  | true =>
    have ES : Hid ((smallI p).s = ⟨#[120]⟩) := Lib.hid (by unfold smallI; dsimp only; rw [if_pos hs])
    go_enter Try.func20, Try.ntmps20
    go_wp2
    refine bodyPost_ret (v := .agg #[.string ⟨#[120]⟩, .int .i64 (1 + p.ord % 4), .int .i64 (p.deb % 4), .int .i64 ((p.deb % 4 + 1 + p.cre % 2) % 5), .int .i64 (p.amt % 1099511627776)]) (by simp [results, Try.results20, go_sem]) rfl ⟨by rw [ES.out]; rfl, ((Below.refl _ w).alloc (Nat.le_refl _) _).alloc (Below.alloc (Below.refl _ w) (Nat.le_refl _) _).size _⟩
  | false =>
    have ES : Hid ((smallI p).s = p.s) := Lib.hid (by unfold smallI; dsimp only; rw [if_neg (by rw [hs]; decide)])
    go_enter Try.func20, Try.ntmps20
    go_wp2
    refine bodyPost_ret (v := .agg #[.string p.s, .int .i64 (1 + p.ord % 4), .int .i64 (p.deb % 4), .int .i64 ((p.deb % 4 + 1 + p.cre % 2) % 5), .int .i64 (p.amt % 1099511627776)]) (by simp [results, Try.results20, go_sem]) rfl ⟨by rw [ES.out]; rfl, ((Below.refl _ w).alloc (Nat.le_refl _) _).alloc (Below.alloc (Below.refl _ w) (Nat.le_refl _) _).size _⟩
end Go.Proofs.Ytffipjhpoaalhaa
