
/- The document's files of the warehouse: a number, a width, the first row, the end row. -/
import Derived.Test.YtnkcbefamajghaaDoorSkMath
import Derived.Test.YtnkcbefamajghaaDoorMoneyRef3C
import Derived.Test.YtnkcbefamajghaaDoorMoneyRefC
import Derived.Test.YtnkcbefamajghaaDoorCsvMem
import Derived.Test.YtnkcbefamajghaaDoorRwMem
import Derived.Test.YtnkcbefamajghaaDoorKyRefC
import Derived.Test.YtnkcbefamajghaaDoorHeldSteps
import Derived.LoopN
import Derived.Deep.RegionHeld3
import Derived.Deep.QuietTactic
import Derived.BigQuiet
import Derived.Deep.Cut
set_option linter.unusedVariables false
namespace Go.Proofs.YtnkcbefamajghaaDoor
open Go.ChangeShapes Go.WideShapes Go.ChangeAt Go.RowKit Ky Rw Csv Stk

theorem skAdd_pos (a : Addr) {k : Nat} (h : 0 < k) : a.add k = ⟨a.block, a.off + k, none⟩ := by
  unfold Addr.add
  rw [if_neg (by omega)]
theorem strs_at {w : World} {v : Value} {F : List (List UInt8)} (h : StrsAt w v F) : ∃ p c, v = .slice p F.length c ∧ F.length ≤ maxLen ∧ (0 < F.length → ∃ a, p = some a) ∧ ∀ a, p = some a → (0 < F.length → w.cell? a = some (sv (fa F 0))) ∧ ∀ j, 0 < j → j < F.length → w.cell? ⟨a.block, a.off + j, none⟩ = some (sv (fa F j)) := by
  obtain ⟨p, c, rfl, hm, hc⟩ := h
  have e : ∀ j, j < F.length → F[j]? = some (fa F j) := fun j hj => by
    unfold fa
    rw [List.getElem?_eq_getElem hj]
    rfl
  refine ⟨p, c, rfl, hm, fun h0 => ?_, fun a ha => ⟨fun h0 => ?_, fun j h0 hj => ?_⟩⟩
  · obtain ⟨a, ha, _⟩ := hc 0 _ (e 0 h0)
    exact ⟨a, ha⟩
  · obtain ⟨b, hb, h1⟩ := hc 0 _ (e 0 h0)
    rw [ha] at hb
    cases hb
    simpa [Addr.add] using h1
  · obtain ⟨b, hb, h1⟩ := hc j _ (e j hj)
    rw [ha] at hb
    cases hb
    exact skAdd_pos a (k := j) h0 ▸ h1
theorem skRet2 {a b c d : Int} (h : a = b) (g : c = d) : Ending.returned (.tuple #[.int .i64 a, .int .i64 c]) = .returned (.tuple #[.int .i64 b, .int .i64 d]) := by rw [h, g]
/-- Fields that are short enough to be asked. -/
def SkShort (F : List (List UInt8)) : Prop := ∀ i, (fa F i).length ≤ 200000
theorem sk_i64 (l : List UInt8) : I64 (Mon.getV l) := by
  unfold Mon.getV
  split
  · rename_i h
    have := Mon.put_get h
    rw [Mon.getV, if_pos h] at this
    exact this.2
  · unfold I64 top; omega
set_option maxHeartbeats 4000000 in
set_option maxRecDepth 100000 in
theorem sk_number (s : ByteArray) (most : Int) (w : World) (hs : s.size ≤ maxLen) (hm : 0 ≤ most) :
    Calls Tryd.prog 30 #[.string s, .int .i64 most] w fun e w' => e = .returned (.int .i64 (numN s.data.toList most)) ∧ Keeps w w' := by
  have I := sk_i64 s.data.toList
  obtain ⟨n, hn⟩ : ∃ n, Mon.getV s.data.toList = n := ⟨_, rfl⟩
  obtain ⟨b, hb⟩ : ∃ b, Mon.getB s.data.toList = b := ⟨_, rfl⟩
  have HN := Lib.hid hn
  have HB := Lib.hid hb
  have C1 : Hid (∀ W, Calls Tryd.prog 50 #[.string s] W fun e w' => e = .returned (.tuple #[.int .i64 n, .bool b]) ∧ Keeps W w') := Lib.hid fun W => hn ▸ hb ▸ moRget_any s W hs
  rw [hn] at I
  have wn : wrap64 n = n := i64w I.1 I.2
  clear hn hb hs I
  go_enter Tryd.func30, Tryd.ntmps30
  go_wp2_with fail
  refine (C1.out _).mono ?_
  rintro e w1 ⟨rfl, k1⟩
  cases b with
  | false =>
    have E : Hid (numN s.data.toList most = -1) := Lib.hid (by unfold numN; rw [HB.out, if_neg (by simp)])
    go_wp2
    go_ret
    exact ⟨ret_int E.out.symm, k1⟩
  | true =>
    by_cases h : 0 ≤ n ∧ n ≤ most
    · obtain ⟨h1, h2⟩ := h
      have E : Hid (numN s.data.toList most = n) := Lib.hid (by unfold numN; rw [HN.out, HB.out, if_pos ⟨rfl, h1, h2⟩])
      go_wp2
      go_ret
      exact ⟨ret_int E.out.symm, k1⟩
    · have E : Hid (numN s.data.toList most = -1) := Lib.hid (by unfold numN; rw [HN.out, HB.out, if_neg fun g => h g.2])
      rcases (show n < 0 ∨ (0 ≤ n ∧ most < n) from by omega) with h1 | ⟨h1, h2⟩
      all_goals
        clear h hm
        go_wp2
        go_ret
        exact ⟨ret_int E.out.symm, k1⟩
theorem sk_num (f : List UInt8) (most : Int) (h : f.length ≤ 200000) (hm : 0 ≤ most) : ∃ S : ByteArray, ⟨f.toArray⟩ = S ∧ ∀ w, Calls Tryd.prog 30 #[.string S, .int .i64 most] w fun e w' => e = .returned (.int .i64 (numN f most)) ∧ Keeps w w' := by
  refine ⟨_, rfl, fun w => ?_⟩
  have := sk_number ⟨f.toArray⟩ most w (by rw [size_mk]; unfold maxLen; omega) hm
  rw [data_mk] at this
  exact this
set_option maxHeartbeats 4000000 in
theorem sk_wide (p : Option Addr) (n c want : Nat) (w : World) (hn : n ≤ 1000000) (hw : want ≤ 1000) :
    Calls Tryd.prog 31 #[.slice p n c, .int .i64 (want : Int)] w fun e w' => e = .returned (.int .i64 (wide n want : Nat)) ∧ w = w' := by
  have e1 : wrap64 ((n : Int) + 1) = (n : Int) + 1 := i64w (by unfold top; omega) (by unfold top; omega)
  have e2 : wrap64 ((want : Int) + 1) = (want : Int) + 1 := i64w (by unfold top; omega) (by unfold top; omega)
  rcases (show n < want ∨ n = want ∨ want < n from by omega) with h | h | h
  · have E : Hid (wide n want = n + 1) := Lib.hid (by unfold wide; rw [if_pos h])
    have t : (n : Int) < (want : Int) := by omega
    clear h
    go_enter Tryd.func31, Tryd.ntmps31
    go_wp2
    go_ret
    exact ⟨ret_int (by rw [E.out]; rfl), rfl⟩
  · subst h
    have E : Hid (wide n n = 0) := Lib.hid (wide_same n)
    go_enter Tryd.func31, Tryd.ntmps31
    go_wp2
    go_ret
    exact ⟨ret_int (by rw [E.out]; rfl), rfl⟩
  · have E : Hid (wide n want = want + 1) := Lib.hid (by unfold wide; rw [if_neg (by omega), if_pos h])
    have t : (want : Int) < (n : Int) := by omega
    clear h
    go_enter Tryd.func31, Tryd.ntmps31
    go_wp2
    go_ret
    exact ⟨ret_int (by rw [E.out]; rfl), rfl⟩
theorem sv_neS {S : ByteArray} {l : List UInt8} (h : S.data.toList ≠ l) : ¬ (S.toList = l) ∧ (S.toList == l) = false ∧ (S.toList != l) = true := by
  have h1 : ¬ (S.toList = l) := fun e => h (by rw [← ByteArray.toList_eq, e])
  have h2 : (S.toList == l) = false := beq_eq_false_iff_ne.2 h1
  exact ⟨h1, h2, by rw [bne, h2]; rfl⟩
end Go.Proofs.YtnkcbefamajghaaDoor
