
/- The contracts of money.Get, Unpad, and of strings.CutPrefix at a minus. -/
import Derived.Test.YtnkcbefamajghaaDoorMoneyPutC
set_option linter.unusedVariables false
namespace Go.Proofs.YtnkcbefamajghaaDoor
open Go.ChangeShapes Go.WideShapes Go.ChangeAt Go.RowKit Mon

def neg1 (l : List UInt8) : Bool := l.head? == some 45
theorem take1 (l : List UInt8) (h : 1 ≤ l.length) : (l.take 1 == [45]) = neg1 l := by
  cases l with
  | nil => simp at h
  | cons c t => simp [neg1]

set_option maxHeartbeats 400000 in
theorem hasp_any (s : ByteArray) (w : World) (hs : s.size ≤ maxLen) :
    Calls Tryd.prog 75 #[.string s, .string ⟨#[45]⟩] w fun e w' => e = .returned (.bool (neg1 s.data.toList)) ∧ w = w' := by
  unfold maxLen at hs
  by_cases h0 : 1 ≤ s.size
  · go_enter Tryd.func75, Tryd.ntmps75
    go_wp2
    go_ret
    exact ⟨ret_bool (by rw [extract_list, List.drop_zero]; exact take1 _ (by rw [len_data]; exact h0)), rfl⟩
  · have e : s.data.toList = [] := by rw [← List.length_eq_zero_iff, len_data]; omega
    have H := Lib.hid e
    clear e
    go_enter Tryd.func75, Tryd.ntmps75
    go_wp2
    go_ret
    exact ⟨ret_bool (by rw [H.out]; rfl), rfl⟩

theorem tail_neg {l : List UInt8} (h : neg1 l = true) : tailOf l = l.drop 1 ∧ guess l = -(num (tailOf l) : Int) := by
  cases l with
  | nil => simp [neg1] at h
  | cons c t => simp [neg1] at h; subst h; exact ⟨rfl, rfl⟩
theorem tail_pos {l : List UInt8} (h : neg1 l = false) : tailOf l = l ∧ guess l = (num (tailOf l) : Int) := by
  unfold tailOf guess
  split
  · simp [neg1] at h
  · exact ⟨rfl, rfl⟩

set_option maxHeartbeats 400000 in
theorem cutp2_any (s : ByteArray) (w : World) (hs : s.size ≤ maxLen) :
    Calls Tryd.prog 98 #[.string s, .string ⟨#[45]⟩] w fun e w' => e = .returned (.tuple #[.string ⟨(tailOf s.data.toList).toArray⟩, .bool (neg1 s.data.toList)]) ∧ w = w' := by
  have HS := Lib.hid hs
  unfold maxLen at hs
  cases hc : neg1 s.data.toList
  · have H := Lib.hid (tail_pos hc).1
    go_enter Tryd.func98, Tryd.ntmps98
    go_wp2_with (go_at_call 75; refine (hasp_any _ _ HS.out).mono ?_; rintro e w' ⟨rfl, rfl⟩)
    go_ret2
    exact ⟨ret_str_bool (by rw [H.out, mk_data]) rfl, rfl⟩
  · have H := Lib.hid (tail_neg hc).1
    have h1 : 1 ≤ s.size := by
      rw [← len_data]
      cases hl : s.data.toList with
      | nil => rw [hl] at hc; simp [neg1] at hc
      | cons c t => simp
    go_enter Tryd.func98, Tryd.ntmps98
    go_wp2_with (go_at_call 75; refine (hasp_any _ _ HS.out).mono ?_; rintro e w' ⟨rfl, rfl⟩)
    go_ret2
    exact ⟨ret_str_bool (by rw [H.out, extract_end]) rfl, rfl⟩

set_option maxHeartbeats 400000 in
theorem cutp_any (s : ByteArray) (w : World) (hs : s.size ≤ maxLen) :
    Calls Tryd.prog 88 #[.string s, .string ⟨#[45]⟩] w fun e w' => e = .returned (.tuple #[.string ⟨(tailOf s.data.toList).toArray⟩, .bool (neg1 s.data.toList)]) ∧ w = w' := by
  go_enter Tryd.func88, Tryd.ntmps88
  go_wp2_with (go_at_call 98; refine (cutp2_any _ _ hs).mono ?_; rintro e w' ⟨rfl, rfl⟩)
  go_ret2
  exact ⟨rfl, rfl⟩

/-- What Get has in its hands: the size, turned about behind a minus. -/
def got (l : List UInt8) : Int := if neg1 l then wrap64 (IntKind.u64.wrap (-(valR (tailOf l) 19 : Nat))) else wrap64 (valR (tailOf l) 19 : Nat)

theorem got_is {l : List UInt8} (hb : okNum (tailOf l) 19 = true) : I64 (got l) ∧ (put (got l) = l → getB l = true ∧ getV l = got l) ∧ (put (got l) ≠ l → getB l = false ∧ getV l = 0) := by
  have hi : I64 (got l) := by
    unfold got I64
    split <;> (rw [i64w_def]; unfold top topN; omega)
  refine ⟨hi, fun h => get_of hi.1 hi.2 h, fun h => get_none ?_⟩
  intro n h1 h2 hp
  apply h
  have hv : valR (tailOf l) 19 = n.natAbs := by
    unfold valR; rw [hb, if_pos rfl, ← hp, put_tail]
    exact decN_num (by unfold top at *; unfold topN; omega)
  have : got l = n := by
    have hg := put_guess h1 h2
    rw [hp] at hg
    unfold got
    rw [hv]
    cases hc : neg1 l
    · have := (tail_pos hc).2
      have e : (num (tailOf l) : Int) = n := by rw [← this, hg]
      rw [if_neg (by simp), show ((n.natAbs : Nat) : Int) = n from by omega, i64w h1 h2]
    · have := (tail_neg hc).2
      have e : -(num (tailOf l) : Int) = n := by rw [← this, hg]
      rw [if_pos rfl, show -((n.natAbs : Nat) : Int) = n from by omega, u64w_mod, i64w_def]
      unfold top topN at *
      omega
  rw [this, hp]
theorem got_no {l : List UInt8} (hb : okNum (tailOf l) 19 = false) : getB l = false ∧ getV l = 0 := by
  have : getB l = false := by unfold getB; rw [hb]; rfl
  exact ⟨this, by rw [getV, this]; rfl⟩

set_option maxHeartbeats 400000 in
theorem moGet_any (s : ByteArray) (w : World) (hs : s.size ≤ maxLen) :
    Calls Tryd.prog 87 #[.string s] w fun e w' => e = .returned (.tuple #[.int .i64 (getV s.data.toList), .bool (getB s.data.toList)]) ∧ Keeps w w' := by
  have ht : (⟨(tailOf s.data.toList).toArray⟩ : ByteArray).size ≤ maxLen := by
    rw [size_mk]
    refine Nat.le_trans ?_ hs
    rw [← len_data]
    cases hc : neg1 s.data.toList
    · rw [(tail_pos hc).1]; exact Nat.le_refl _
    · rw [(tail_neg hc).1]; simp
  have HT := Lib.hid ht
  have HS := Lib.hid hs
  clear ht hs
  cases hb : okNum (tailOf s.data.toList) 19
  · have G := Lib.hid (got_no hb)
    cases hc : neg1 s.data.toList
    all_goals
      go_enter Tryd.func87, Tryd.ntmps87
      go_wp2_with (first | (go_at_call 88; refine (cutp_any _ _ HS.out).mono ?_; rintro e w' ⟨rfl, rfl⟩) | (go_at_call 97; refine (value_any _ 19 _ HT.out (by omega)).mono ?_; rintro e w' ⟨rfl, rfl⟩))
      go_ret2
      exact ⟨ret_int_bool G.out.2.symm G.out.1.symm, Keeps.refl _⟩
  · have G := Lib.hid (got_is hb)
    by_cases hp : put (got s.data.toList) = s.data.toList
    · have HR := Lib.hid (G.out.2.1 hp)
      have ht : (put (got s.data.toList) == s.toList) = true := by rw [ByteArray.toList_eq, hp]; simp
      clear hp
      cases hc : neg1 s.data.toList
      · have e : wrap64 (valR (tailOf s.data.toList) 19 : Nat) = got s.data.toList := by rw [got, hc, if_neg (by simp)]
        go_enter Tryd.func87, Tryd.ntmps87
        go_wp2_with (first | (go_at_call 88; refine (cutp_any _ _ HS.out).mono ?_; rintro e w' ⟨rfl, rfl⟩) | (go_at_call 97; refine (value_any _ 19 _ HT.out (by omega)).mono ?_; rintro e w' ⟨rfl, rfl⟩) | (go_at_call 44; refine (moPut_any _ _ G.out.1).mono ?_; rintro e w' ⟨rfl, hk⟩))
        go_ret2
        exact ⟨ret_int_bool HR.out.2.symm HR.out.1.symm, hk⟩
      · have e : wrap64 (IntKind.u64.wrap (-(valR (tailOf s.data.toList) 19 : Nat))) = got s.data.toList := by rw [got, hc, if_pos rfl]
        go_enter Tryd.func87, Tryd.ntmps87
        go_wp2_with (first | (go_at_call 88; refine (cutp_any _ _ HS.out).mono ?_; rintro e w' ⟨rfl, rfl⟩) | (go_at_call 97; refine (value_any _ 19 _ HT.out (by omega)).mono ?_; rintro e w' ⟨rfl, rfl⟩) | (go_at_call 44; refine (moPut_any _ _ G.out.1).mono ?_; rintro e w' ⟨rfl, hk⟩))
        go_ret2
        exact ⟨ret_int_bool HR.out.2.symm HR.out.1.symm, hk⟩
    · have HR := Lib.hid (G.out.2.2 hp)
      have ht : (put (got s.data.toList) == s.toList) = false := by rw [ByteArray.toList_eq]; simpa using hp
      clear hp
      cases hc : neg1 s.data.toList
      · have e : wrap64 (valR (tailOf s.data.toList) 19 : Nat) = got s.data.toList := by rw [got, hc, if_neg (by simp)]
        go_enter Tryd.func87, Tryd.ntmps87
        go_wp2_with (first | (go_at_call 88; refine (cutp_any _ _ HS.out).mono ?_; rintro e w' ⟨rfl, rfl⟩) | (go_at_call 97; refine (value_any _ 19 _ HT.out (by omega)).mono ?_; rintro e w' ⟨rfl, rfl⟩) | (go_at_call 44; refine (moPut_any _ _ G.out.1).mono ?_; rintro e w' ⟨rfl, hk⟩))
        go_ret2
        exact ⟨ret_int_bool HR.out.2.symm HR.out.1.symm, hk⟩
      · have e : wrap64 (IntKind.u64.wrap (-(valR (tailOf s.data.toList) 19 : Nat))) = got s.data.toList := by rw [got, hc, if_pos rfl]
        go_enter Tryd.func87, Tryd.ntmps87
        go_wp2_with (first | (go_at_call 88; refine (cutp_any _ _ HS.out).mono ?_; rintro e w' ⟨rfl, rfl⟩) | (go_at_call 97; refine (value_any _ 19 _ HT.out (by omega)).mono ?_; rintro e w' ⟨rfl, rfl⟩) | (go_at_call 44; refine (moPut_any _ _ G.out.1).mono ?_; rintro e w' ⟨rfl, hk⟩))
        go_ret2
        exact ⟨ret_int_bool HR.out.2.symm HR.out.1.symm, hk⟩
end Go.Proofs.YtnkcbefamajghaaDoor
