
/- The document's orders: name, Check. -/
import Derived.Test.YtkffpmeocfhcpaaDoorOdMath
import Derived.Test.YtkffpmeocfhcpaaDoorBitsPutC
import Derived.Test.YtkffpmeocfhcpaaDoorKyRefC
import Derived.WalkKit
import Derived.LoopN
set_option linter.unusedVariables false
namespace Go.Proofs.YtkffpmeocfhcpaaDoor
open Go.ChangeShapes Go.WideShapes Go.ChangeAt Go.RowKit Bit Ky Od

theorem take_name (s : ByteArray) (k : Nat) (h : k < s.size) (h1 : nameB (s.data.toList.take k) = true) (h2 : nmI (s[k].toNat : Int) = true) : nameB (s.data.toList.take (k + 1)) = true := by
  rw [take_snoc s k h, nameB_snoc, h1, h2]; rfl
theorem name_bad (s : ByteArray) (k : Nat) (h : k < s.size) (h2 : nmI (s[k].toNat : Int) = false) : nameB s.data.toList = false :=
  nameB_no (k := k) (by rw [len_data]; exact h) (by rw [get_data s k h]; exact h2)
set_option maxHeartbeats 4000000 in
theorem or_name (s : ByteArray) (w : World) (hs : s.size ≤ maxLen) : Calls Tryd.prog 66 #[.string s] w fun e w' => e = .returned (.bool (nameB s.data.toList)) ∧ w = w' := by
  unfold maxLen at hs
  go_enter Tryd.func66, Tryd.ntmps66
  go_wp2
  go_loop [3] (fun i => ∃ k : Nat, k ≤ s.size ∧ i = .int .i64 k ∧ nameB (s.data.toList.take k) = true) (fun i => s.size - (intOf i).toNat)
  case atStart => exact ⟨0, Nat.zero_le _, rfl, nameB_nil⟩
  case round =>
    obtain ⟨k, hk, rfl, hn⟩ := hrel
    have HN := Lib.hid hn
    clear hn
    by_cases hlt : k < s.size
    · have YES := Lib.hid fun h => take_name s k hlt HN.out h
      have NO := Lib.hid fun h => name_bad s k hlt h
      go_wp2
      all_goals first
        | exact ⟨⟨k + 1, by omega, by go_num, YES.out (by unfold nmI; simp_all <;> omega)⟩, by simp [intOf]; omega⟩
        | (go_ret; exact ⟨ret_bool (NO.out (by unfold nmI; simp_all <;> omega)).symm, rfl⟩)
    · obtain rfl : k = s.size := by omega
      have H : Hid (nameB s.data.toList = true) := Lib.hid (by have := HN.out; rwa [List.take_of_length_le (by rw [len_data]; omega)] at this)
      go_wp2
      go_ret
      exact ⟨ret_bool H.out.symm, rfl⟩
/-- An order, as a value. -/
abbrev tOd : TypeId := 65
def odV (i : Int) (r s : ByteArray) (q a : Int) : Value := .agg #[.int .i64 i, .string r, .string s, .int .i64 q, .int .i64 a]
def odBox (i : Int) (r s : ByteArray) (q a : Int) : Obj := .cells #[.int .i64 i, .string r, .string s, .int .i64 q, .int .i64 a] tOd
theorem name_is (s : ByteArray) (b : Bool) (w : World) (hs : s.size ≤ maxLen) (h : nameB s.data.toList = b) : Calls Tryd.prog 66 #[.string s] w fun e w' => e = .returned (.bool b) ∧ w = w' := h ▸ or_name s w hs
theorem size_some {r : ByteArray} (h : 1 ≤ r.size) : ((r.size : Int) == 0) = false ∧ ¬ r = ByteArray.empty :=
  ⟨by rw [beq_eq_false_iff_ne]; omega, fun e => by rw [e] at h; exact absurd h (by decide)⟩
theorem size_none {r : ByteArray} (h : r.size = 0) : r = ByteArray.empty := by
  apply bytes_inj
  have : r.data.toList = [] := List.length_eq_zero_iff.1 (by rw [len_data]; exact h)
  rw [this]; rfl
/-- What is out of reach, one thing after another. -/
theorem arg_ways {i q a : Int} {m n : Nat} (h : ¬ (1 ≤ i ∧ i ≤ 60 ∧ 1 ≤ q ∧ q ≤ 999 ∧ 1 ≤ a ∧ a ≤ 1099511627776 ∧ 1 ≤ m ∧ 1 ≤ n)) :
    i < 1 ∨ (1 ≤ i ∧ 60 < i) ∨ (1 ≤ i ∧ i ≤ 60 ∧ q < 1) ∨ (1 ≤ i ∧ i ≤ 60 ∧ 1 ≤ q ∧ 999 < q) ∨ (1 ≤ i ∧ i ≤ 60 ∧ 1 ≤ q ∧ q ≤ 999 ∧ a < 1) ∨ (1 ≤ i ∧ i ≤ 60 ∧ 1 ≤ q ∧ q ≤ 999 ∧ 1 ≤ a ∧ 1099511627776 < a) ∨ (1 ≤ i ∧ i ≤ 60 ∧ 1 ≤ q ∧ q ≤ 999 ∧ 1 ≤ a ∧ a ≤ 1099511627776 ∧ m = 0) ∨ (1 ≤ i ∧ i ≤ 60 ∧ 1 ≤ q ∧ q ≤ 999 ∧ 1 ≤ a ∧ a ≤ 1099511627776 ∧ 1 ≤ m ∧ n = 0) := by omega
set_option maxHeartbeats 4000000 in
theorem or_check (i : Int) (r s : ByteArray) (q a : Int) (w : World) (hr : r.size ≤ maxLen) (hs : s.size ≤ maxLen) :
    Calls Tryd.prog 46 #[odV i r s q a] w fun e w' => e = .returned (.int .i64 (checkO i r s q a)) ∧ Keeps w w' := by
  have HR := Lib.hid hr
  have HS := Lib.hid hs
  unfold maxLen at hr hs
  have KB := Lib.hid (ky_box w (odBox i r s q a))
  unfold odBox at KB
  unfold odV
  by_cases h : 1 ≤ i ∧ i ≤ 60 ∧ 1 ≤ q ∧ q ≤ 999 ∧ 1 ≤ a ∧ a ≤ 1099511627776 ∧ 1 ≤ r.size ∧ 1 ≤ s.size
  · by_cases h2 : r.size ≤ 16 ∧ s.size ≤ 8
    · obtain ⟨b1, hb1⟩ : ∃ b, nameB r.data.toList = b := ⟨_, rfl⟩
      obtain ⟨b2, hb2⟩ : ∃ b, nameB s.data.toList = b := ⟨_, rfl⟩
      have N1 := Lib.hid fun w => name_is r b1 w HR.out hb1
      have N2 := Lib.hid fun w => name_is s b2 w HS.out hb2
      have E : Hid (checkO i r s q a = if b1 = true ∧ b2 = true then 0 else 2) := Lib.hid (by
        unfold checkO inB
        rw [if_pos (by simpa using h), if_pos h2, hb1, hb2])
      clear hb1 hb2
      obtain ⟨h11, h12, h13, h14, h15, h16, h17, h18⟩ := h
      obtain ⟨h21, h22⟩ := h2
      obtain ⟨z1, z2⟩ := size_some h17
      obtain ⟨z3, z4⟩ := size_some h18
      cases b1 with
      | false =>
        go_enter Tryd.func46, Tryd.ntmps46
        go_wp2_with fail
        refine (N1.out _).mono ?_
        rintro e w1 ⟨rfl, rfl⟩
        go_wp2
        go_ret
        exact ⟨ret_int (by rw [E.out]; rfl), KB.out⟩
      | true =>
        go_enter Tryd.func46, Tryd.ntmps46
        go_wp2_with fail
        refine (N1.out _).mono ?_
        rintro e w1 ⟨rfl, rfl⟩
        go_wp2_with fail
        refine (N2.out _).mono ?_
        rintro e w1 ⟨rfl, rfl⟩
        cases b2 with
        | false =>
          go_wp2
          go_ret
          exact ⟨ret_int (by rw [E.out]; rfl), KB.out⟩
        | true =>
          go_wp2
          go_ret
          exact ⟨ret_int (by rw [E.out]; rfl), KB.out⟩
    · have E := Lib.hid (check_long h h2)
      obtain ⟨h11, h12, h13, h14, h15, h16, h17, h18⟩ := h
      obtain ⟨z1, z2⟩ := size_some h17
      obtain ⟨z3, z4⟩ := size_some h18
      rcases (show 16 < r.size ∨ (r.size ≤ 16 ∧ 8 < s.size) from by omega) with h3 | ⟨h3, h4⟩
      all_goals
        clear h2
        go_enter Tryd.func46, Tryd.ntmps46
        go_wp2
        go_ret
        exact ⟨ret_int E.out.symm, KB.out⟩
  · have E := Lib.hid (check_arg h)
    rcases arg_ways h with h | ⟨h1, h⟩ | ⟨h1, h2, h⟩ | ⟨h1, h2, h3, h⟩ | ⟨h1, h2, h3, h4, h⟩ | ⟨h1, h2, h3, h4, h5, h⟩ | ⟨h1, h2, h3, h4, h5, h6, h⟩ | ⟨h1, h2, h3, h4, h5, h6, h7, h⟩
    rotate_right 2
    · obtain rfl := size_none h
      go_enter Tryd.func46, Tryd.ntmps46
      go_wp2
      go_ret
      exact ⟨ret_int E.out.symm, KB.out⟩
    · obtain rfl := size_none h
      obtain ⟨z1, z2⟩ := size_some h7
      go_enter Tryd.func46, Tryd.ntmps46
      go_wp2
      go_ret
      exact ⟨ret_int E.out.symm, KB.out⟩
    all_goals
      go_enter Tryd.func46, Tryd.ntmps46
      go_wp2
      go_ret
      exact ⟨ret_int E.out.symm, KB.out⟩
end Go.Proofs.YtkffpmeocfhcpaaDoor
