
/- The program's orders: isQty, isAmount, inName, isName, isGoods, Check. -/
import Derived.Test.YtkffpmeocfhcpaaDoorOdRefC
import Derived.Laws.RangeAny
import Derived.LoopN
import Derived.WalkMore
import Derived.Scope
import Derived.Deep.LoopGhost
set_option linter.unusedVariables false
namespace Go.Proofs.YtkffpmeocfhcpaaDoor
open Go.ChangeShapes Go.WideShapes Go.ChangeAt Go.RowKit Bit Ky Od

def qtyB (n : Int) : Bool := decide (1 ≤ n ∧ n ≤ 999)
def amtB (n : Int) : Bool := decide (1 ≤ n ∧ n ≤ 1099511627776)
theorem od_isQty (n : Int) (b : Bool) (w : World) (h : qtyB n = b) : Calls Tryd.prog 54 #[.int .i64 n] w fun e w' => e = .returned (.bool b) ∧ w = w' := by
  have E := Lib.hid h
  rcases (show n < 1 ∨ (1 ≤ n ∧ n ≤ 999) ∨ (1 ≤ n ∧ 999 < n) from by omega) with g | ⟨g1, g2⟩ | ⟨g1, g2⟩
  all_goals
    clear h
    go_enter Tryd.func54, Tryd.ntmps54
    go_wp2
    go_ret
    exact ⟨ret_bool (by rw [← E.out]; unfold qtyB; simp <;> omega), rfl⟩
theorem od_isAmount (n : Int) (b : Bool) (w : World) (h : amtB n = b) : Calls Tryd.prog 52 #[.int .i64 n] w fun e w' => e = .returned (.bool b) ∧ w = w' := by
  have E := Lib.hid h
  rcases (show n < 1 ∨ (1 ≤ n ∧ n ≤ 1099511627776) ∨ (1 ≤ n ∧ 1099511627776 < n) from by omega) with g | ⟨g1, g2⟩ | ⟨g1, g2⟩
  all_goals
    clear h
    go_enter Tryd.func52, Tryd.ntmps52
    go_wp2
    go_ret
    exact ⟨ret_bool (by rw [← E.out]; unfold amtB; simp <;> omega), rfl⟩
theorem od_inName (r : Int) (b : Bool) (w : World) (h : nmI r = b) : Calls Tryd.prog 98 #[.int .i32 r] w fun e w' => e = .returned (.bool b) ∧ w = w' := by
  have E := Lib.hid h
  clear h
  rcases (show r < 45 ∨ r = 45 ∨ (46 ≤ r ∧ r < 48) ∨ (48 ≤ r ∧ r ≤ 57) ∨ (58 ≤ r ∧ r < 65) ∨ (65 ≤ r ∧ r ≤ 90) ∨ (91 ≤ r ∧ r < 95) ∨ r = 95 ∨ r = 96 ∨ (97 ≤ r ∧ r ≤ 122) ∨ 123 ≤ r from by omega) with g | rfl | ⟨g1, g2⟩ | ⟨g1, g2⟩ | ⟨g1, g2⟩ | ⟨g1, g2⟩ | ⟨g1, g2⟩ | rfl | rfl | ⟨g1, g2⟩ | g
  all_goals
    go_enter Tryd.func98, Tryd.ntmps98
    go_wp2
    go_ret
    exact ⟨ret_bool (by rw [← E.out]; unfold nmI; rw [Bool.eq_iff_iff]; simp <;> omega), rfl⟩
set_option maxHeartbeats 4000000 in
theorem od_isName (s : ByteArray) (w : World) (hs : s.size ≤ maxLen) : Calls Tryd.prog 76 #[.string s] w fun e w' => e = .returned (.bool (nameB s.data.toList)) ∧ Keeps w w' := by
  unfold maxLen at hs
  go_enter Tryd.func76, Tryd.ntmps76
  go_wp2
  go_loopg [4] s.size (fun g _ wx => ∃ i : Nat, i + g = s.size ∧ wx = w.iter s i ∧ nameB (s.data.toList.take i) = true)
  case atStart => exact ⟨0, by omega, rfl, nameB_nil⟩
  case round =>
    obtain ⟨i, hig, rfl, hn⟩ := hrel
    have HN := Lib.hid hn
    clear hn
    cases gk with
    | zero =>
      obtain rfl : i = s.size := by omega
      have H : Hid (nameB s.data.toList = true) := Lib.hid (by have := HN.out; rwa [List.take_of_length_le (by rw [len_data]; omega)] at this)
      have hnx := run_next_end (P := Tryd.prog) w s s.size
      go_wp2
      go_ret
      exact ⟨ret_bool H.out.symm, (Below.refl _ _).alloc (Nat.le_refl _) _⟩
    | succ g =>
      have hi : i < s.size := by omega
      by_cases h128 : (s[i]'hi).toNat < 128
      · have YES := Lib.hid fun h => take_name s i hi HN.out h
        have NO := Lib.hid fun h => name_bad s i hi h
        obtain ⟨x, hx⟩ : ∃ x : UInt8, s[i]'hi = x := ⟨_, rfl⟩
        have hnx := fun ty => run_next_ascii (P := Tryd.prog) w s i ty hi h128
        rw [hx] at hnx YES NO
        obtain ⟨b, hb⟩ : ∃ b, nmI (x.toNat : Int) = b := ⟨_, rfl⟩
        have HB := Lib.hid hb
        have CI := Lib.hid fun w => od_inName (x.toNat : Int) b w hb
        clear hx hb h128
        cases b with
        | true =>
          go_wp2_with fail
          refine (CI.out _).mono ?_
          rintro e w2 ⟨rfl, rfl⟩
          go_wp2
          go_roundg g
          case measure => omega
          case rel => exact ⟨i + 1, by omega, rfl, YES.out HB.out⟩
        | false =>
          go_wp2_with fail
          refine (CI.out _).mono ?_
          rintro e w2 ⟨rfl, rfl⟩
          go_wp2
          go_ret
          exact ⟨ret_bool (NO.out HB.out).symm, (Below.refl _ _).alloc (Nat.le_refl _) _⟩
      · have hd := decode_high s i hi (by omega)
        have NO := Lib.hid (name_bad s i hi (nmI_high (by omega)))
        have hnx := fun ty => run_next_any (P := Tryd.prog) w s i ty hi
        obtain ⟨R, hR⟩ : ∃ R : Nat, (Utf8.decode s i).1 = R := ⟨_, rfl⟩
        obtain ⟨L, hL⟩ : ∃ R : Nat, (Utf8.decode s i).2 = R := ⟨_, rfl⟩
        rw [hR, hL] at hnx hd
        have CI := Lib.hid fun w => od_inName (R : Int) false w (nmI_high (by omega))
        clear hR hL hd h128
        go_wp2_with fail
        refine (CI.out _).mono ?_
        rintro e w2 ⟨rfl, rfl⟩
        go_wp2
        go_ret
        exact ⟨ret_bool NO.out.symm, (Below.refl _ _).alloc (Nat.le_refl _) _⟩
theorem od_isName_is (s : ByteArray) (b : Bool) (w : World) (hs : s.size ≤ maxLen) (h : nameB s.data.toList = b) : Calls Tryd.prog 76 #[.string s] w fun e w' => e = .returned (.bool b) ∧ Keeps w w' := h ▸ od_isName s w hs
end Go.Proofs.YtkffpmeocfhcpaaDoor
