
/- The document's files of the warehouse: a number, a width, the first row, the end row. -/
import Derived.Test.YtomonhghioamfaaGreatDoorSkMath
import Derived.Test.YtomonhghioamfaaGreatDoorMoneyRef3C
import Derived.Test.YtomonhghioamfaaGreatDoorMoneyRefC
import Derived.Test.YtomonhghioamfaaGreatDoorCsvMem
import Derived.Test.YtomonhghioamfaaGreatDoorRwMem
import Derived.Test.YtomonhghioamfaaGreatDoorKyRefC
import Derived.Test.YtomonhghioamfaaGreatDoorHeldSteps
import Derived.LoopN
import Derived.Deep.RegionHeld3
import Derived.Deep.QuietTactic
import Derived.BigQuiet
import Derived.Deep.Cut
set_option linter.unusedVariables false
namespace Go.Proofs.YtomonhghioamfaaGreatDoor
open Go.ChangeShapes Go.WideShapes Go.ChangeAt Go.RowKit Ky Rw Csv Stk

theorem skAdd_pos (a : Addr) {k : Nat} (h : 0 < k) : a.add k = ⟨a.block, a.off + k, none⟩ := by
  unfold Addr.add
  rw [if_neg (by omega)]
theorem strs_at {w : World} {v : Value} {F : List (List UInt8)} (h : StrsAt w v F) : ∃ p c, v = .slice p F.length c ∧ F.length ≤ maxLen ∧ (0 < F.length → ∃ a, p = some a) ∧ ∀ a, p = some a → (0 < F.length → w.cell? a = some (sv (fa F 0))) ∧ ∀ j, 0 < j → j < F.length → w.cell? ⟨a.block, a.off + j, none⟩ = some (sv (fa F j)) := by
  obtain ⟨p, c, rfl, hm, hc⟩ := h
  have e : ∀ j, j < F.length → F[j]? = some (fa F j) := fun j hj => by
    unfold fa
    rw [List.getElem?_eq_getElem hj]
    rfl
  refine ⟨p, c, rfl, hm, fun h0 => ?_, fun a ha => ⟨fun h0 => ?_, fun j h0 hj => ?_⟩⟩
  · obtain ⟨a, ha, _⟩ := hc 0 _ (e 0 h0)
    exact ⟨a, ha⟩
  · obtain ⟨b, hb, h1⟩ := hc 0 _ (e 0 h0)
    rw [ha] at hb
    cases hb
    simpa [Addr.add] using h1
  · obtain ⟨b, hb, h1⟩ := hc j _ (e j hj)
    rw [ha] at hb
    cases hb
    exact skAdd_pos a (k := j) h0 ▸ h1
theorem skRet2 {a b c d : Int} (h : a = b) (g : c = d) : Ending.returned (.tuple #[.int .i64 a, .int .i64 c]) = .returned (.tuple #[.int .i64 b, .int .i64 d]) := by rw [h, g]
/-- Fields that are short enough to be asked. -/
def SkShort (F : List (List UInt8)) : Prop := ∀ i, (fa F i).length ≤ 200000
theorem sk_i64 (l : List UInt8) : I64 (Mon.getV l) := by
  unfold Mon.getV
  split
  · rename_i h
    have := Mon.put_get h
    rw [Mon.getV, if_pos h] at this
    exact this.2
  · unfold I64 top; omega
set_option maxHeartbeats 4000000 in
set_option maxRecDepth 100000 in
theorem sk_number (s : ByteArray) (most : Int) (w : World) (hs : s.size ≤ maxLen) (hm : 0 ≤ most) :
    Calls Tryz.prog 38 #[.string s, .int .i64 most] w fun e w' => e = .returned (.int .i64 (numN s.data.toList most)) ∧ Keeps w w' := by
  have I := sk_i64 s.data.toList
  obtain ⟨n, hn⟩ : ∃ n, Mon.getV s.data.toList = n := ⟨_, rfl⟩
  obtain ⟨b, hb⟩ : ∃ b, Mon.getB s.data.toList = b := ⟨_, rfl⟩
  have HN := Lib.hid hn
  have HB := Lib.hid hb
  have C1 : Hid (∀ W, Calls Tryz.prog 75 #[.string s] W fun e w' => e = .returned (.tuple #[.int .i64 n, .bool b]) ∧ Keeps W w') := Lib.hid fun W => hn ▸ hb ▸ moRget_any s W hs
  rw [hn] at I
  have wn : wrap64 n = n := i64w I.1 I.2
  clear hn hb hs I
  go_enter Tryz.func38, Tryz.ntmps38
  go_wp2_with fail
  refine (C1.out _).mono ?_
  rintro e w1 ⟨rfl, k1⟩
  cases b with
  | false =>
    have E : Hid (numN s.data.toList most = -1) := Lib.hid (by unfold numN; rw [HB.out, if_neg (by simp)])
    go_wp2
    go_ret
    exact ⟨ret_int E.out.symm, k1⟩
  | true =>
    by_cases h : 0 ≤ n ∧ n ≤ most
    · obtain ⟨h1, h2⟩ := h
      have E : Hid (numN s.data.toList most = n) := Lib.hid (by unfold numN; rw [HN.out, HB.out, if_pos ⟨rfl, h1, h2⟩])
      go_wp2
      go_ret
      exact ⟨ret_int E.out.symm, k1⟩
    · have E : Hid (numN s.data.toList most = -1) := Lib.hid (by unfold numN; rw [HN.out, HB.out, if_neg fun g => h g.2])
      rcases (show n < 0 ∨ (0 ≤ n ∧ most < n) from by omega) with h1 | ⟨h1, h2⟩
      all_goals
        clear h hm
        go_wp2
        go_ret
        exact ⟨ret_int E.out.symm, k1⟩
theorem sk_num (f : List UInt8) (most : Int) (h : f.length ≤ 200000) (hm : 0 ≤ most) : ∃ S : ByteArray, ⟨f.toArray⟩ = S ∧ ∀ w, Calls Tryz.prog 38 #[.string S, .int .i64 most] w fun e w' => e = .returned (.int .i64 (numN f most)) ∧ Keeps w w' := by
  refine ⟨_, rfl, fun w => ?_⟩
  have := sk_number ⟨f.toArray⟩ most w (by rw [size_mk]; unfold maxLen; omega) hm
  rw [data_mk] at this
  exact this
set_option maxHeartbeats 4000000 in
theorem sk_wide (p : Option Addr) (n c want : Nat) (w : World) (hn : n ≤ 1000000) (hw : want ≤ 1000) :
    Calls Tryz.prog 74 #[.slice p n c, .int .i64 (want : Int)] w fun e w' => e = .returned (.int .i64 (wide n want : Nat)) ∧ w = w' := by
  have e1 : wrap64 ((n : Int) + 1) = (n : Int) + 1 := i64w (by unfold top; omega) (by unfold top; omega)
  have e2 : wrap64 ((want : Int) + 1) = (want : Int) + 1 := i64w (by unfold top; omega) (by unfold top; omega)
  rcases (show n < want ∨ n = want ∨ want < n from by omega) with h | h | h
  · have E : Hid (wide n want = n + 1) := Lib.hid (by unfold wide; rw [if_pos h])
    have t : (n : Int) < (want : Int) := by omega
    clear h
    go_enter Tryz.func74, Tryz.ntmps74
    go_wp2
    go_ret
    exact ⟨ret_int (by rw [E.out]; rfl), rfl⟩
  · subst h
    have E : Hid (wide n n = 0) := Lib.hid (wide_same n)
    go_enter Tryz.func74, Tryz.ntmps74
    go_wp2
    go_ret
    exact ⟨ret_int (by rw [E.out]; rfl), rfl⟩
  · have E : Hid (wide n want = want + 1) := Lib.hid (by unfold wide; rw [if_neg (by omega), if_pos h])
    have t : (want : Int) < (n : Int) := by omega
    clear h
    go_enter Tryz.func74, Tryz.ntmps74
    go_wp2
    go_ret
    exact ⟨ret_int (by rw [E.out]; rfl), rfl⟩
theorem sv_neS {S : ByteArray} {l : List UInt8} (h : S.data.toList ≠ l) : ¬ (S.toList = l) ∧ (S.toList == l) = false ∧ (S.toList != l) = true := by
  have h1 : ¬ (S.toList = l) := fun e => h (by rw [← ByteArray.toList_eq, e])
  have h2 : (S.toList == l) = false := beq_eq_false_iff_ne.2 h1
  exact ⟨h1, h2, by rw [bne, h2]; rfl⟩
set_option maxHeartbeats 4000000 in
set_option maxRecDepth 100000 in
theorem sk_head (v : Value) (F : List (List UInt8)) (w : World) (hF : StrsAt w v F) (hne : F ≠ []) (hl : F.length ≤ 1000000) (hs : SkShort F) :
    Calls Tryz.prog 37 #[v] w fun e w' => e = .returned (.tuple #[.int .i64 ((headC F).1 : Int), .int .i64 (headC F).2]) ∧ Keeps w w' := by
  obtain ⟨p, c, rfl, _, hp, hc⟩ := strs_at hF
  have h0 : 0 < F.length := List.length_pos_iff.2 hne
  obtain ⟨a, rfl⟩ := hp h0
  obtain ⟨q0, q1⟩ := hc a rfl
  obtain ⟨n, hn⟩ : ∃ n, F.length = n := ⟨_, rfl⟩
  have HN := Lib.hid hn
  have q0 := q0 h0
  obtain ⟨S0, h1⟩ : ∃ S : ByteArray, ⟨(fa F 0).toArray⟩ = S := ⟨_, rfl⟩
  obtain ⟨S1, e1, C⟩ := sk_num (fa F 1) 1073741824 (hs 1) (by omega)
  obtain ⟨m, hm⟩ : ∃ n, numN (fa F 1) 1073741824 = n := ⟨_, rfl⟩
  have C2 := Lib.hid (hm ▸ C)
  have E2 := Lib.hid hm
  unfold sv at q0 q1
  rw [h1] at q0
  have H1 : Hid (S0.data.toList = fa F 0) := Lib.hid (by rw [← h1, data_mk])
  have Q1 : Hid (1 < n → w.cell? ⟨a.block, a.off + 1, none⟩ = some (.string S1)) := Lib.hid fun h => by rw [← e1]; exact q1 1 (by omega) (by omega)
  have CW : Hid (∀ W, Calls Tryz.prog 74 #[.slice (some a) n c, .int .i64 2] W fun e w' => e = .returned (.int .i64 (wide n 2 : Nat)) ∧ W = w') := Lib.hid fun W => sk_wide (some a) n c 2 W (by omega) (by omega)
  rw [hn] at h0 ⊢
  have h0' : (0 : Int) < (n : Int) := by omega
  clear hF hne hl hs hp hc q1 C e1 hm h1 hn
  go_enter Tryz.func37, Tryz.ntmps37
  by_cases hx : S0 = ⟨#[115, 116, 111, 99, 107]⟩
  rotate_left
  · have E : Hid (headC F = (1, 7)) := Lib.hid (by
      unfold headC
      rw [if_pos (fun e => hx (bytes_inj (by rw [H1.out, e])))])
    obtain ⟨t4, t2, t3⟩ := sv_neS (S := S0) (l := [115, 116, 111, 99, 107]) (fun e => hx (bytes_inj (by rw [e])))
    clear hx
    go_wp2
    go_ret2
    exact ⟨skRet2 (by rw [E.out]; rfl) (by rw [E.out]), Keeps.refl _⟩
  have X : Hid (fa F 0 = wName) := Lib.hid (by rw [← H1.out, hx])
  subst hx
  by_cases hw : wide n 2 = 0
  rotate_left
  · have E : Hid (headC F = (wide n 2, 1)) := Lib.hid (by unfold headC; rw [if_neg (by simp [X.out]), HN.out, if_pos hw])
    obtain ⟨k, hk⟩ : ∃ k, wide n 2 = k := ⟨_, rfl⟩
    rw [hk] at CW E hw
    have hk0 : (0 : Int) < (k : Int) := by omega
    clear hw hk
    go_wp2_with (go_at_call 74; refine (CW.out _).mono ?_; rintro e w1 ⟨rfl, rfl⟩)
    go_ret2
    exact ⟨skRet2 (by rw [E.out]) (by rw [E.out]), Keeps.refl _⟩
  have hn2 : n = 2 := wide_zero hw
  subst hn2
  have q1 := Q1.out (by omega)
  have E0 : Hid (headC F = if numN (fa F 1) 1073741824 < 1 then (2, 3) else (0, 0)) := Lib.hid (by unfold headC; rw [if_neg (by simp [X.out]), HN.out, if_neg (by rw [hw]; simp)])
  rw [hw] at CW
  clear hw Q1
  by_cases hn : m < 1
  · have E : Hid (headC F = (2, 3)) := Lib.hid (by rw [E0.out, E2.out, if_pos hn])
    go_wp2_with (first
      | (go_at_call 74; refine (CW.out _).mono ?_; rintro e w1 ⟨rfl, rfl⟩)
      | (go_at_call 38; refine (C2.out _).mono ?_; rintro e w2 ⟨rfl, k2⟩))
    go_ret2
    exact ⟨skRet2 (by rw [E.out]; rfl) (by rw [E.out]), k2⟩
  · have E : Hid (headC F = (0, 0)) := Lib.hid (by rw [E0.out, E2.out, if_neg hn])
    go_wp2_with (first
      | (go_at_call 74; refine (CW.out _).mono ?_; rintro e w1 ⟨rfl, rfl⟩)
      | (go_at_call 38; refine (C2.out _).mono ?_; rintro e w2 ⟨rfl, k2⟩))
    go_ret2
    exact ⟨skRet2 (by rw [E.out]; rfl) (by rw [E.out]), k2⟩
set_option maxHeartbeats 4000000 in
set_option maxRecDepth 100000 in
theorem sk_tail (v : Value) (F : List (List UInt8)) (A : List R) (N : Nat) (w : World) (hF : StrsAt w v F) (hl : F.length ≤ 1000000) (hs : SkShort F) (hN : A.length = N) (hN4 : N ≤ 1000000) :
    Calls Tryz.prog 39 #[v, .int .i64 (N : Int)] w fun e w' => e = .returned (.tuple #[.int .i64 ((tailC F A).1 : Int), .int .i64 (tailC F A).2]) ∧ Keeps w w' := by
  obtain ⟨p, c, rfl, _, hp, hc⟩ := strs_at hF
  obtain ⟨n, hn⟩ : ∃ n, F.length = n := ⟨_, rfl⟩
  have HN := Lib.hid hn
  have HA := Lib.hid hN
  have I := sk_i64 (fa F 1)
  obtain ⟨S1, e1⟩ : ∃ S : ByteArray, ⟨(fa F 1).toArray⟩ = S := ⟨_, rfl⟩
  obtain ⟨g, hg⟩ : ∃ n, Mon.getV (fa F 1) = n := ⟨_, rfl⟩
  obtain ⟨b, hb⟩ : ∃ b, Mon.getB (fa F 1) = b := ⟨_, rfl⟩
  have HG := Lib.hid hg
  have HB := Lib.hid hb
  have C2 : Hid (∀ W, Calls Tryz.prog 75 #[.string S1] W fun e w' => e = .returned (.tuple #[.int .i64 g, .bool b]) ∧ Keeps W w') := Lib.hid fun W => by
    have := moRget_any S1 W (by rw [← e1, size_mk]; have := hs 1; unfold maxLen; omega)
    rw [← e1, data_mk, hg, hb, e1] at this
    exact this
  have Q1 : Hid (1 < n → ∃ a, p = some a ∧ w.cell? ⟨a.block, a.off + 1, none⟩ = some (.string S1)) := Lib.hid fun h => by
    obtain ⟨a, ha⟩ := hp (by omega)
    exact ⟨a, ha, by rw [← e1]; exact (hc a ha).2 1 (by omega) (by omega)⟩
  have CW : Hid (∀ W, Calls Tryz.prog 74 #[.slice p n c, .int .i64 2] W fun e w' => e = .returned (.int .i64 (wide n 2 : Nat)) ∧ W = w') := Lib.hid fun W => sk_wide p n c 2 W (by omega) (by omega)
  rw [hn]
  have wN : wrap64 (N : Int) = (N : Int) := i64w (by unfold top; omega) (by unfold top; omega)
  clear hF hl hs hp hc e1 hg hb hn hN I
  go_enter Tryz.func39, Tryz.ntmps39
  by_cases hw : wide n 2 = 0
  rotate_left
  · have E : Hid (tailC F A = (wide n 2, 1)) := Lib.hid (by unfold tailC; rw [HN.out, if_pos hw])
    obtain ⟨k, hk⟩ : ∃ k, wide n 2 = k := ⟨_, rfl⟩
    rw [hk] at CW E hw
    have hk0 : (0 : Int) < (k : Int) := by omega
    clear hw hk
    go_wp2_with (go_at_call 74; refine (CW.out _).mono ?_; rintro e w1 ⟨rfl, rfl⟩)
    go_ret2
    exact ⟨skRet2 (by rw [E.out]) (by rw [E.out]), Keeps.refl _⟩
  have hn2 : n = 2 := wide_zero hw
  subst hn2
  obtain ⟨a, rfl, q1⟩ := Q1.out (by omega)
  have E0 : Hid (tailC F A = if b = false ∨ g < 0 then (2, 3) else if g ≠ (N : Int) then (2, 4) else (0, 0)) := Lib.hid (by unfold tailC; rw [HN.out, if_neg (by rw [hw]; simp), HB.out, HG.out, HA.out])
  rw [hw] at CW
  clear hw Q1
  cases b with
  | false =>
    have E : Hid (tailC F A = (2, 3)) := Lib.hid (by rw [E0.out, if_pos (Or.inl rfl)])
    go_wp2_with (first
      | (go_at_call 74; refine (CW.out _).mono ?_; rintro e w1 ⟨rfl, rfl⟩)
      | (go_at_call 75; refine (C2.out _).mono ?_; rintro e w2 ⟨rfl, k2⟩))
    go_ret2
    exact ⟨skRet2 (by rw [E.out]; rfl) (by rw [E.out]), k2⟩
  | true =>
    by_cases h1 : g < 0
    · have E : Hid (tailC F A = (2, 3)) := Lib.hid (by rw [E0.out, if_pos (Or.inr h1)])
      go_wp2_with (first
        | (go_at_call 74; refine (CW.out _).mono ?_; rintro e w1 ⟨rfl, rfl⟩)
        | (go_at_call 75; refine (C2.out _).mono ?_; rintro e w2 ⟨rfl, k2⟩))
      go_ret2
      exact ⟨skRet2 (by rw [E.out]; rfl) (by rw [E.out]), k2⟩
    by_cases h2 : g = (N : Int)
    · have E : Hid (tailC F A = (0, 0)) := Lib.hid (by rw [E0.out, if_neg (by simp [h1]), if_neg (by simpa using h2)])
      subst h2
      go_wp2_with (first
        | (go_at_call 74; refine (CW.out _).mono ?_; rintro e w1 ⟨rfl, rfl⟩)
        | (go_at_call 75; refine (C2.out _).mono ?_; rintro e w2 ⟨rfl, k2⟩))
      go_ret2
      exact ⟨skRet2 (by rw [E.out]; rfl) (by rw [E.out]), k2⟩
    · have E : Hid (tailC F A = (2, 4)) := Lib.hid (by rw [E0.out, if_neg (by simp [h1]), if_pos h2])
      have t1 : (g == (N : Int)) = false := by rw [beq_eq_false_iff_ne]; exact h2
      have t2 : (g != (N : Int)) = true := by rw [bne, t1]; rfl
      clear h2
      go_wp2_with (first
        | (go_at_call 74; refine (CW.out _).mono ?_; rintro e w1 ⟨rfl, rfl⟩)
        | (go_at_call 75; refine (C2.out _).mono ?_; rintro e w2 ⟨rfl, k2⟩))
      go_ret2
      exact ⟨skRet2 (by rw [E.out]; rfl) (by rw [E.out]), k2⟩
end Go.Proofs.YtomonhghioamfaaGreatDoor
