
/- The walks of layer 7's own words: Texts, recorded, stands. -/
import Derived.Test.YtlaepdpgegoopaaGreatRecWholeC
import Derived.Test.YtlaepdpgegoopaaGreatRowsLaid
import Derived.Outline
set_option linter.unusedVariables false
namespace Go.Proofs.YtlaepdpgegoopaaGreat
open Go.ChangeShapes Go.WideShapes Go.ChangeAt Go.RowKit Bit Crc Rc Csv

set_option maxHeartbeats 1000000 in
theorem texts_same (v1 v2 : Value) (A : List (List UInt8)) (w : World) (h1 : StrsAt w v1 A) (h2 : StrsAt w v2 A) :
    Calls Tryz.prog 13 #[v1, v2] w fun e w' => e = .returned (.bool true) ∧ Keeps w w' := by
  obtain ⟨p1, c1, rfl, lA, hA⟩ := h1
  obtain ⟨p2, c2, rfl, _, hB⟩ := h2
  obtain ⟨N, hN⟩ : ∃ N, A.length = N := ⟨_, rfl⟩
  have HA := Lib.hid hA
  have HB := Lib.hid hB
  have HN := Lib.hid hN
  rw [hN] at lA ⊢
  unfold maxLen at lA
  clear hA hB hN
  go_enter Tryz.func13, Tryz.ntmps13
  go_wp2
  go_loopw [5] (fun i wr => ∃ k : Nat, k ≤ N ∧ i = .int .i64 (k : Int) ∧ Keeps w wr) (fun i _ => N - (intOf i).toNat)
  case atStart => exact ⟨0, by omega, rfl, Keeps.refl _⟩
  case round =>
    obtain ⟨k, hk, rfl, hkw⟩ := hrel
    have HK := Lib.hid hkw
    by_cases hlt : k < N
    · obtain ⟨x, hx⟩ : ∃ x, A[k]? = some x := ⟨_, List.getElem?_eq_getElem (by have := HN.out; omega)⟩
      obtain ⟨a1, rfl, q1⟩ := HA.out k x hx
      obtain ⟨a2, rfl, q2⟩ := HB.out k x hx
      have q1' := cell_keeps hkw q1
      have q2' := cell_keeps hkw q2
      obtain ⟨X, hX⟩ : ∃ X, sv x = .string X := ⟨_, rfl⟩
      rw [hX] at q1' q2'
      have hi1 : (k : Int) < (N : Int) := by omega
      clear hx q1 q2 hkw hX
      go_wp2
      go_quiet (fail)
      go_wp2
      go_roundw
      case rel => exact ⟨k + 1, by omega, by go_num, keeps_drewN HK.out _⟩
      case measure => simp [intOf]; omega
    · obtain rfl : k = N := by omega
      have hz : ¬ ((k : Int) < (k : Int)) := by omega
      clear hkw
      go_wp2
      go_ret
      exact ⟨rfl, HK.out⟩

theorem lit_keeps (W : World) (o : Obj) : Keeps W (W.alloc o) := (Below.refl _ _).alloc (Nat.le_refl _) _
/-! ### The chapter's examples -/
theorem whole_is (s : ByteArray) (xs : List (List UInt8 × Nat)) (a n : Nat) (L : List (List UInt8)) (w : World) (hs : s.size ≤ 1000000) (h : Done s.data.toList xs a) (hL : pays xs = L) (hn : L.length = n) :
    Calls Tryz.prog 79 #[.string s] w fun e w' => ∃ p c, e = .returned (.tuple #[.slice p n c, .int .i64 (a : Int)]) ∧ StrsAt w' (.slice p n c) L ∧ Keeps w w' := by
  refine (whole_any s w hs).mono ?_
  rintro e w' ⟨ys, b, v, rfl, hd, ho, hk⟩
  obtain ⟨rfl, rfl⟩ := hd.unique h
  subst hL hn
  have hst := own_strs ho
  obtain ⟨p, c, rfl, _⟩ := hst
  exact ⟨p, c, rfl, own_strs ho, hk⟩
theorem get_is (s T : ByteArray) (at_ next : Int) (o : Bool) (w : World) (hs : s.size ≤ maxLen) (h : (0 ≤ at_ ∧ gB (s.data.toList.drop at_.toNat) = true ∧ gT (s.data.toList.drop at_.toNat) = T.data.toList ∧ at_ + 8 + gN (s.data.toList.drop at_.toNat) = next ∧ o = true) ∨ (I64 at_ ∧ (at_ < 0 ∨ (s.size : Int) < at_ ∨ gB (s.data.toList.drop at_.toNat) = false) ∧ T = ⟨#[]⟩ ∧ next = 0 ∧ o = false)) :
    Calls Tryz.prog 94 #[.string s, .int .i64 at_] w fun e w' => e = .returned (.tuple #[.string T, .int .i64 next, .bool o]) ∧ Keeps w w' := by
  rcases h with ⟨h0, h1, h2, h3, rfl⟩ | ⟨h0, h1, rfl, rfl, rfl⟩
  · obtain ⟨a, rfl⟩ : ∃ a : Nat, at_ = a := ⟨at_.toNat, by omega⟩
    simp only [Int.toNat_natCast] at h1 h2 h3
    refine (recGet_yes s a w hs h1).mono ?_
    rintro e w' ⟨rfl, hk⟩
    refine ⟨?_, hk⟩
    rw [h2, ← h3]
    simp
  · exact recGet_no s at_ w hs h0 h1
def ab : List UInt8 := [97, 98]
def abR : List UInt8 := [0, 0, 0, 2, 97, 98, 99, 112, 134, 11]
theorem ab_rec : recL ab = abR := by decide +kernel
theorem ab_get : gB abR = true ∧ gT abR = ab ∧ gN abR = 2 := by decide +kernel
theorem ab_not : gB (abR.drop 1) = false := by decide +kernel
set_option maxRecDepth 100000 in
theorem ab_two : Done (abR ++ abR) [(ab, 10), (ab, 20)] 20 := by
  refine ⟨?_, by decide +kernel⟩
  have h1 := Trail.snoc (Trail.nil (l := abR ++ abR)) (by decide +kernel)
  have h2 := Trail.snoc h1 (by decide +kernel)
  exact h2
set_option maxRecDepth 100000 in
theorem ab_one : Done ((abR ++ abR).take 19) [(ab, 10)] 10 := by
  refine ⟨?_, by decide +kernel⟩
  have h1 := Trail.snoc (Trail.nil (l := (abR ++ abR).take 19)) (by decide +kernel)
  exact h1

/-! ### stands -/
theorem get_both (s : ByteArray) (at_ : Int) (hs : s.size ≤ maxLen) (hat : I64 at_) : ∃ (T : ByteArray) (next : Int) (o : Bool),
    (∀ W, Calls Tryz.prog 94 #[.string s, .int .i64 at_] W fun e w' => e = .returned (.tuple #[.string T, .int .i64 next, .bool o]) ∧ Keeps W w') ∧
    (∀ W, Calls Tryz.prog 65 #[.string s, .int .i64 at_] W fun e w' => e = .returned (.tuple #[.string T, .int .i64 next, .bool o]) ∧ Keeps W w') := by
  by_cases h : at_ < 0 ∨ (s.size : Int) < at_ ∨ gB (s.data.toList.drop at_.toNat) = false
  · exact ⟨_, _, _, fun W => recGet_no s at_ W hs hat h, fun W => rrecGet_no s at_ W hs hat h⟩
  · obtain ⟨a, rfl⟩ : ∃ a : Nat, at_ = a := ⟨at_.toNat, by omega⟩
    have hg : gB (s.data.toList.drop a) = true := by
      cases hb : gB (s.data.toList.drop a) with
      | true => rfl
      | false => exact absurd (Or.inr (Or.inr (by simpa using hb))) h
    exact ⟨_, _, _, fun W => recGet_yes s a W hs hg, fun W => rrecGet_yes s a W hs hg⟩

end Go.Proofs.YtlaepdpgegoopaaGreat
