
/- The walks of layer 7's own words: Texts, recorded, stands. -/
import Derived.Test.YtnjajndiljlocaaRecWholeC
import Derived.Test.YtnjajndiljlocaaRowsLaid
import Derived.Outline
set_option linter.unusedVariables false
namespace Go.Proofs.Ytnjajndiljlocaa
open Go.ChangeShapes Go.WideShapes Go.ChangeAt Go.RowKit Bit Crc Rc Csv

set_option maxHeartbeats 1000000 in
theorem texts_same (v1 v2 : Value) (A : List (List UInt8)) (w : World) (h1 : StrsAt w v1 A) (h2 : StrsAt w v2 A) :
    Calls Try.prog 15 #[v1, v2] w fun e w' => e = .returned (.bool true) ∧ Keeps w w' := by
  obtain ⟨p1, c1, rfl, lA, hA⟩ := h1
  obtain ⟨p2, c2, rfl, _, hB⟩ := h2
  obtain ⟨N, hN⟩ : ∃ N, A.length = N := ⟨_, rfl⟩
  have HA := Lib.hid hA
  have HB := Lib.hid hB
  have HN := Lib.hid hN
  rw [hN] at lA ⊢
  unfold maxLen at lA
  clear hA hB hN
  go_enter Try.func15, Try.ntmps15
  go_wp2
  go_loopw [5] (fun i wr => ∃ k : Nat, k ≤ N ∧ i = .int .i64 (k : Int) ∧ Keeps w wr) (fun i _ => N - (intOf i).toNat)
  case atStart => exact ⟨0, by omega, rfl, Keeps.refl _⟩
  case round =>
    obtain ⟨k, hk, rfl, hkw⟩ := hrel
    have HK := Lib.hid hkw
    by_cases hlt : k < N
    · obtain ⟨x, hx⟩ : ∃ x, A[k]? = some x := ⟨_, List.getElem?_eq_getElem (by have := HN.out; omega)⟩
      obtain ⟨a1, rfl, q1⟩ := HA.out k x hx
      obtain ⟨a2, rfl, q2⟩ := HB.out k x hx
      have q1' := cell_keeps hkw q1
      have q2' := cell_keeps hkw q2
      obtain ⟨X, hX⟩ : ∃ X, sv x = .string X := ⟨_, rfl⟩
      rw [hX] at q1' q2'
      have hi1 : (k : Int) < (N : Int) := by omega
      clear hx q1 q2 hkw hX
      go_wp2
      go_quiet (fail)
      go_wp2
      go_roundw
      case rel => exact ⟨k + 1, by omega, by go_num, keeps_drewN HK.out _⟩
      case measure => simp [intOf]; omega
    · obtain rfl : k = N := by omega
      have hz : ¬ ((k : Int) < (k : Int)) := by omega
      clear hkw
      go_wp2
      go_ret
      exact ⟨rfl, HK.out⟩

theorem lit_keeps (W : World) (o : Obj) : Keeps W (W.alloc o) := (Below.refl _ _).alloc (Nat.le_refl _) _
/-! ### The chapter's examples -/
theorem whole_is (s : ByteArray) (xs : List (List UInt8 × Nat)) (a n : Nat) (L : List (List UInt8)) (w : World) (hs : s.size ≤ 1000000) (h : Done s.data.toList xs a) (hL : pays xs = L) (hn : L.length = n) :
    Calls Try.prog 14 #[.string s] w fun e w' => ∃ p c, e = .returned (.tuple #[.slice p n c, .int .i64 (a : Int)]) ∧ StrsAt w' (.slice p n c) L ∧ Keeps w w' := by
  refine (whole_any s w hs).mono ?_
  rintro e w' ⟨ys, b, v, rfl, hd, ho, hk⟩
  obtain ⟨rfl, rfl⟩ := hd.unique h
  subst hL hn
  have hst := own_strs ho
  obtain ⟨p, c, rfl, _⟩ := hst
  exact ⟨p, c, rfl, own_strs ho, hk⟩
theorem get_is (s T : ByteArray) (at_ next : Int) (o : Bool) (w : World) (hs : s.size ≤ maxLen) (h : (0 ≤ at_ ∧ gB (s.data.toList.drop at_.toNat) = true ∧ gT (s.data.toList.drop at_.toNat) = T.data.toList ∧ at_ + 8 + gN (s.data.toList.drop at_.toNat) = next ∧ o = true) ∨ (I64 at_ ∧ (at_ < 0 ∨ (s.size : Int) < at_ ∨ gB (s.data.toList.drop at_.toNat) = false) ∧ T = ⟨#[]⟩ ∧ next = 0 ∧ o = false)) :
    Calls Try.prog 16 #[.string s, .int .i64 at_] w fun e w' => e = .returned (.tuple #[.string T, .int .i64 next, .bool o]) ∧ Keeps w w' := by
  rcases h with ⟨h0, h1, h2, h3, rfl⟩ | ⟨h0, h1, rfl, rfl, rfl⟩
  · obtain ⟨a, rfl⟩ : ∃ a : Nat, at_ = a := ⟨at_.toNat, by omega⟩
    simp only [Int.toNat_natCast] at h1 h2 h3
    refine (recGet_yes s a w hs h1).mono ?_
    rintro e w' ⟨rfl, hk⟩
    refine ⟨?_, hk⟩
    rw [h2, ← h3]
    simp
  · exact recGet_no s at_ w hs h0 h1
def ab : List UInt8 := [97, 98]
def abR : List UInt8 := [0, 0, 0, 2, 97, 98, 99, 112, 134, 11]
theorem ab_rec : recL ab = abR := by decide +kernel
theorem ab_get : gB abR = true ∧ gT abR = ab ∧ gN abR = 2 := by decide +kernel
theorem ab_not : gB (abR.drop 1) = false := by decide +kernel
set_option maxRecDepth 100000 in
theorem ab_two : Done (abR ++ abR) [(ab, 10), (ab, 20)] 20 := by
  refine ⟨?_, by decide +kernel⟩
  have h1 := Trail.snoc (Trail.nil (l := abR ++ abR)) (by decide +kernel)
  have h2 := Trail.snoc h1 (by decide +kernel)
  exact h2
set_option maxRecDepth 100000 in
theorem ab_one : Done ((abR ++ abR).take 19) [(ab, 10)] 10 := by
  refine ⟨?_, by decide +kernel⟩
  have h1 := Trail.snoc (Trail.nil (l := (abR ++ abR).take 19)) (by decide +kernel)
  exact h1

set_option maxRecDepth 100000 in
set_option maxHeartbeats 4000000 in
theorem recorded_any (w : World) :
    Calls Try.prog 9 #[] w fun e w' => e = .returned (.bool true) ∧ Keeps w w' := by
  obtain ⟨S, hS⟩ : ∃ S : ByteArray, recB ⟨#[97, 98]⟩ = S := ⟨_, rfl⟩
  have hSd : S.data.toList = abR := by rw [← hS, recB_data]; exact ab_rec
  have hSs : S.size = 10 := by rw [← len_data, hSd]; rfl
  obtain ⟨S2, hS2⟩ : ∃ S2, S ++ S = S2 := ⟨_, rfl⟩
  have hS2d : S2.data.toList = abR ++ abR := by rw [← hS2, ← hSd]; simp
  have hS2s : S2.size = 20 := by rw [← len_data, hS2d]; rfl
  obtain ⟨S3, hS3⟩ : ∃ S3, S2.extract 0 19 = S3 := ⟨_, rfl⟩
  have hS3d : S3.data.toList = (abR ++ abR).take 19 := by rw [← hS3, ext_data, hS2d]; rfl
  have hS3s : S3.size = 19 := by rw [← len_data, hS3d]; rfl
  have C0 := Lib.hid fun (W : World) => recPut_any ⟨#[97, 98]⟩ W (by decide)
  rw [hS] at C0
  have C1 := Lib.hid fun (W : World) => get_is S ⟨#[97, 98]⟩ 0 10 true W (by unfold maxLen; omega) (Or.inl ⟨by omega, by rw [hSd]; exact ab_get.1, by rw [hSd]; exact ab_get.2.1, by rw [hSd]; exact congrArg (fun n : Nat => (0 : Int) + 8 + n) ab_get.2.2, rfl⟩)
  have C2 := Lib.hid fun (W : World) => get_is S ⟨#[]⟩ 1 0 false W (by unfold maxLen; omega) (Or.inr ⟨by unfold I64 top; omega, Or.inr (Or.inr (by rw [hSd]; exact ab_not)), rfl, rfl, rfl⟩)
  have C3 := Lib.hid fun (W : World) => whole_is S2 _ 20 2 [ab, ab] W (by omega) (by rw [hS2d]; exact ab_two) rfl rfl
  have C4 := Lib.hid fun (W : World) => whole_is S3 _ 10 1 [ab] W (by omega) (by rw [hS3d]; exact ab_one) rfl rfl
  have hcat : ¬ (9223372036854775807 < S.size + S.size) := by omega
  have t2 : ((S.size : Int) != 10) = false := by rw [hSs]; rfl
  have b1 : 6 ≤ S.size := by omega
  have b2 : 19 ≤ S2.size := by omega
  have t3 : ((S.extract 0 6).toList == [0, 0, 0, 2, 97, 98]) = true := by rw [extract_list, hSd]; rfl
  clear hS hSd hSs hS2d hS2s hS3d hS3s
  go_enter Try.func9, Try.ntmps9
  go_wp2_with fail
  refine (C0.out _).mono ?_
  rintro e w1 ⟨rfl, k1⟩
  have K1 := Lib.hid k1
  clear k1
  go_wp2_with fail
  refine (C1.out _).mono ?_
  rintro e w2 ⟨rfl, k2⟩
  have K2 := Lib.hid k2
  clear k2
  go_wp2_with fail
  refine (C2.out _).mono ?_
  rintro e w3 ⟨rfl, k3⟩
  have K3 := Lib.hid k3
  clear k3
  go_wp2_with fail
  refine (C3.out _).mono ?_
  rintro e w4 ⟨p4, c4, rfl, i4, k4⟩
  have I4 := Lib.hid i4
  have K4 := Lib.hid k4
  clear k4 i4
  go_wp2_with fail
  refine (C4.out _).mono ?_
  rintro e w5 ⟨p5, c5, rfl, i5, k5⟩
  have I5 := Lib.hid i5
  have K5 := Lib.hid k5
  have I45 := Lib.hid (I4.out.keeps k5)
  clear k5 i5
  go_wp2_with fail
  refine (texts_same _ _ [ab, ab] _ (I45.out.keeps (lit_keeps _ _)) (lay_row tS rfl rfl rfl (by simp [maxLen]))).mono ?_
  rintro e w6 ⟨rfl, k6⟩
  have K6 := Lib.hid ((lit_keeps _ _).trans k6)
  clear k6
  go_wp2_with fail
  refine (texts_same _ _ [ab] _ ((I5.out.keeps K6.out).keeps (lit_keeps _ _)) (lay_row tS rfl rfl rfl (by simp [maxLen]))).mono ?_
  rintro e w7 ⟨rfl, k7⟩
  have K7 := Lib.hid ((lit_keeps _ _).trans k7)
  clear k7
  go_wp2
  go_ret
  exact ⟨rfl, K1.out.trans (K2.out.trans (K3.out.trans (K4.out.trans (K5.out.trans (K6.out.trans K7.out)))))⟩

/-! ### stands -/
theorem get_both (s : ByteArray) (at_ : Int) (hs : s.size ≤ maxLen) (hat : I64 at_) : ∃ (T : ByteArray) (next : Int) (o : Bool),
    (∀ W, Calls Try.prog 16 #[.string s, .int .i64 at_] W fun e w' => e = .returned (.tuple #[.string T, .int .i64 next, .bool o]) ∧ Keeps W w') ∧
    (∀ W, Calls Try.prog 21 #[.string s, .int .i64 at_] W fun e w' => e = .returned (.tuple #[.string T, .int .i64 next, .bool o]) ∧ Keeps W w') := by
  by_cases h : at_ < 0 ∨ (s.size : Int) < at_ ∨ gB (s.data.toList.drop at_.toNat) = false
  · exact ⟨_, _, _, fun W => recGet_no s at_ W hs hat h, fun W => rrecGet_no s at_ W hs hat h⟩
  · obtain ⟨a, rfl⟩ : ∃ a : Nat, at_ = a := ⟨at_.toNat, by omega⟩
    have hg : gB (s.data.toList.drop a) = true := by
      cases hb : gB (s.data.toList.drop a) with
      | true => rfl
      | false => exact absurd (Or.inr (Or.inr (by simpa using hb))) h
    exact ⟨_, _, _, fun W => recGet_yes s a W hs hg, fun W => rrecGet_yes s a W hs hg⟩

set_option maxRecDepth 100000 in
set_option maxHeartbeats 2000000 in
theorem stands_any (s : ByteArray) (at_ : Int) (w : World) (hs : s.size ≤ 1000000) (hat : I64 at_) :
    Calls Try.prog 12 #[.string s, .int .i64 at_] w fun e w' => e = .returned (.bool true) ∧ Keeps w w' := by
  obtain ⟨T, next, o, c1, c2⟩ := get_both s at_ (by unfold maxLen; omega) hat
  have C1 := Lib.hid c1
  have C2 := Lib.hid c2
  have C3 := Lib.hid fun (W : World) => whole_any s W hs
  have C4 := Lib.hid fun (W : World) => rwhole_any s W hs
  clear c1 c2 hs hat
  go_enter Try.func12, Try.ntmps12
  go_wp2_with fail
  refine (C1.out _).mono ?_
  rintro e w1 ⟨rfl, k1⟩
  have K1 := Lib.hid k1
  clear k1
  go_wp2_with fail
  refine (C2.out _).mono ?_
  rintro e w2 ⟨rfl, k2⟩
  have K2 := Lib.hid k2
  clear k2
  go_wp2_with fail
  refine (C3.out _).mono ?_
  rintro e w3 ⟨xs, a, v, rfl, d3, o3, k3⟩
  have D3 := Lib.hid d3
  have I3 := Lib.hid (own_strs o3)
  have K3 := Lib.hid k3
  clear d3 o3 k3
  go_wp2_with fail
  refine (C4.out _).mono ?_
  rintro e w4 ⟨ys, b, v2, rfl, d4, o4, k4⟩
  obtain ⟨rfl, rfl⟩ := d4.unique D3.out
  have I4 := Lib.hid (own_strs o4)
  have I34 := Lib.hid (I3.out.keeps k4)
  have K4 := Lib.hid k4
  clear d4 o4 k4
  go_wp2_with fail
  refine (texts_same _ _ _ _ I34.out I4.out).mono ?_
  rintro e w5 ⟨rfl, k5⟩
  have K5 := Lib.hid k5
  clear k5
  go_wp2
  go_ret
  exact ⟨rfl, K1.out.trans (K2.out.trans (K3.out.trans (K4.out.trans K5.out)))⟩
end Go.Proofs.Ytnjajndiljlocaa
