
/- The contracts of fixed.together, firstOdd, fits; bytes.TrimRight at a blank; strings.HasSuffix. -/
import Derived.Test.YtomonhghioamfaaGreatDoorFixedMath
import Derived.Test.YtomonhghioamfaaGreatDoorCsvMem
import Derived.Deep.LoopGhost
set_option linter.unusedVariables false
namespace Go.Proofs.YtomonhghioamfaaGreatDoor
open Go.ChangeShapes Go.WideShapes Go.ChangeAt Go.RowKit Csv Fix

/-- What is read of a row of integers. -/
abbrev iv (n : Int) : Value := .int .i64 n
def IntsAt (w : World) (v : Value) (W : List Int) : Prop :=
  ∃ p c, v = .slice p W.length c ∧ W.length ≤ maxLen ∧ ∀ j n, W[j]? = some n → ∃ a : Addr, p = some a ∧ w.cell? (a.add j) = some (iv n)
theorem IntsAt.keeps {w w' : World} {v : Value} {W : List Int} (h : IntsAt w v W) (k : Keeps w w') : IntsAt w' v W := by
  obtain ⟨p, c, h1, h2, h3⟩ := h
  refine ⟨p, c, h1, h2, fun j x hx => ?_⟩
  obtain ⟨a, ha, hc⟩ := h3 j x hx
  exact ⟨a, ha, cell_keeps k hc⟩
theorem IntsAt.nil (w : World) : IntsAt w (.slice none 0 0) [] := ⟨none, 0, rfl, by simp [maxLen], fun j r h => by simp at h⟩
/-- Integers that are in reach. -/
def In64 (W : List Int) : Prop := ∀ n ∈ W, -9223372036854775808 ≤ n ∧ n ≤ 9223372036854775807

/-- What all widths have together, or 0. -/
def togI (W : List Int) : Int := if okW W = true then (sumW W : Int) else 0
theorem togI_no {W : List Int} (h : okW W = false) : togI W = 0 := by unfold togI; rw [if_neg (by simp [h])]
theorem togI_yes {W : List Int} (h : okW W = true) : togI W = (sumW W : Int) := by unfold togI; rw [if_pos h]
set_option maxHeartbeats 1000000 in
theorem together_any (v : Value) (W : List Int) (w : World) (hW : IntsAt w v W) :
    Calls Tryz.prog 87 #[v] w fun e w' => e = .returned (.tuple #[.int .i64 (togI W), .bool (okW W)]) ∧ w = w' := by
  obtain ⟨pW, cW, rfl, lW, hW⟩ := hW
  have HW := Lib.hid hW
  clear hW
  unfold maxLen at lW
  by_cases h100 : 100 < W.length
  · have t : decide ((100 : Int) < (W.length : Int)) = true := decide_eq_true (by omega)
    have H := Lib.hid (show okW W = false from by unfold okW; rw [decide_eq_false (by omega)]; rfl)
    clear h100
    go_enter Tryz.func87, Tryz.ntmps87
    go_wp2
    go_ret2
    exact ⟨ret_int_bool (togI_no H.out).symm H.out.symm, rfl⟩
  have hl : W.length ≤ 100 := by omega
  have t : decide ((100 : Int) < (W.length : Int)) = false := decide_eq_false (by omega)
  clear h100
  go_enter Tryz.func87, Tryz.ntmps87
  go_wp2
  go_loop [2, 11] (fun s i => ∃ k S : Nat, k ≤ W.length ∧ i = .int .i64 k ∧ s = .int .i64 S ∧ S ≤ 100000 ∧ S = sumW (W.take k) ∧ (W.take k).all okW1 = true) (fun _ i => W.length - (intOf i).toNat)
  case atStart => exact ⟨0, 0, by omega, rfl, rfl, by omega, rfl, rfl⟩
  case round =>
    obtain ⟨k, S, hk, rfl, rfl, hS, hsum, hall⟩ := hrel
    have HS := Lib.hid hsum
    have HA := Lib.hid hall
    clear hsum hall
    by_cases hlt : k < W.length
    · obtain ⟨n, hn⟩ : ∃ n, W[k]? = some n := ⟨_, List.getElem?_eq_getElem hlt⟩
      obtain ⟨a, rfl, hc⟩ := HW.out k n hn
      have HN := Lib.hid hn
      have hi1 : (k : Int) < (W.length : Int) := by omega
      clear hn
      by_cases h1 : n < 1
      · have t1 : decide (n < 1) = true := decide_eq_true h1
        have H := Lib.hid (show okW W = false from okW_no HN.out (by unfold okW1; rw [decide_eq_false (by omega)]; rfl))
        go_wp2
        go_ret2
        exact ⟨ret_int_bool (togI_no H.out).symm H.out.symm, rfl⟩
      · by_cases h2 : 1000 < n
        · have t1 : decide (n < 1) = false := decide_eq_false h1
          have t2 : decide (1000 < n) = true := decide_eq_true h2
          have H := Lib.hid (show okW W = false from okW_no HN.out (by unfold okW1; rw [decide_eq_false (show ¬ n ≤ 1000 by omega), Bool.and_false]))
          go_wp2
          go_ret2
          exact ⟨ret_int_bool (togI_no H.out).symm H.out.symm, rfl⟩
        · obtain ⟨m, rfl⟩ : ∃ m : Nat, n = m := ⟨n.toNat, by omega⟩
          have t1 : decide ((m : Int) < 1) = false := decide_eq_false h1
          have t2 : decide ((1000 : Int) < (m : Int)) = false := decide_eq_false h2
          have hok : okW1 (m : Int) = true := (okW1_iff _).2 ⟨by omega, by omega⟩
          have hall' := all_take HA.out HN.out hok
          have hsm := sumI_small W (k + 1) hl hall'
          have hst := sumW_take W k _ HN.out
          have H1 := Lib.hid hall'
          have H2 := Lib.hid (show S + m = sumW (W.take (k + 1)) from by rw [hst, HS.out]; simp)
          have h3 : S + m ≤ 100000 := by rw [H2.out]; exact hsm
          clear hok hall' hsm hst
          go_wp2
          go_round
          case rel => exact ⟨k + 1, S + m, by omega, by go_num, by go_num, h3, H2.out, H1.out⟩
          case measure => simp [intOf]; omega
    · obtain rfl : k = W.length := by omega
      have hz : ¬ ((W.length : Int) < (W.length : Int)) := by omega
      have H := Lib.hid (okW_yes hl HA.out)
      have H2 := Lib.hid (show S = sumW W from by rw [HS.out, List.take_of_length_le (Nat.le_refl _)])
      go_wp2
      go_ret2
      exact ⟨ret_int_bool (by rw [togI_yes H.out, H2.out]) H.out.symm, rfl⟩

/-- A place, or -1. -/
def placeI (o : Option Nat) : Int := match o with | some k => (k : Int) | none => -1

set_option maxHeartbeats 1000000 in
theorem firstOdd_any (s : ByteArray) (w : World) (hs : s.size ≤ maxLen) :
    Calls Tryz.prog 88 #[.string s] w fun e w' => e = .returned (.int .i64 (placeI (odd s.data.toList))) ∧ w = w' := by
  unfold maxLen at hs
  go_enter Tryz.func88, Tryz.ntmps88
  go_wp2
  go_loop [6] (fun i => ∃ k : Nat, k ≤ s.size ∧ i = .int .i64 k ∧ (s.data.toList.take k).all okB = true) (fun i => s.size - (intOf i).toNat)
  case atStart => exact ⟨0, by omega, rfl, rfl⟩
  case round =>
    obtain ⟨k, hk, rfl, hall⟩ := hrel
    have HA := Lib.hid hall
    clear hall
    by_cases hlt : k < s.size
    · obtain ⟨c, hc⟩ : ∃ c, s[k]'hlt = c := ⟨_, rfl⟩
      have hc2 : s[(k : Int).toNat]'(by simpa using hlt) = c := by simpa using hc
      have HC := Lib.hid (show s.data.toList[k]? = some c from by rw [Lib.data_getElem? s k hlt, hc])
      have hi1 : (k : Int) < (s.size : Int) := by omega
      by_cases h1 : c.toNat < 32
      · have t1 : decide ((c.toNat : Int) < 32) = true := decide_eq_true (by omega)
        have H := Lib.hid (show odd s.data.toList = some k from odd_some HA.out HC.out (by unfold okB; rw [decide_eq_false (by omega)]; rfl))
        go_wp2
        go_ret
        exact ⟨ret_int (by rw [H.out]; rfl), rfl⟩
      · by_cases h2 : 126 < c.toNat
        · have t1 : decide ((c.toNat : Int) < 32) = false := decide_eq_false (by omega)
          have t2 : decide ((126 : Int) < (c.toNat : Int)) = true := decide_eq_true (by omega)
          have H := Lib.hid (show odd s.data.toList = some k from odd_some HA.out HC.out (by unfold okB; rw [decide_eq_false (show ¬ c.toNat ≤ 126 by omega), Bool.and_false]))
          go_wp2
          go_ret
          exact ⟨ret_int (by rw [H.out]; rfl), rfl⟩
        · have t1 : decide ((c.toNat : Int) < 32) = false := decide_eq_false (by omega)
          have t2 : decide ((126 : Int) < (c.toNat : Int)) = false := decide_eq_false (by omega)
          have H := Lib.hid (all_take HA.out HC.out (show okB c = true from (okB_iff c).2 ⟨by omega, by omega⟩))
          go_wp2
          go_round
          case rel => exact ⟨k + 1, by omega, by go_num, H.out⟩
          case measure => simp [intOf]; omega
    · obtain rfl : k = s.size := by omega
      have hz : ¬ ((s.size : Int) < (s.size : Int)) := by omega
      have H := Lib.hid (show odd s.data.toList = none from odd_none (by have h := HA.out; rwa [List.take_of_length_le (by simp)] at h))
      go_wp2
      go_ret
      exact ⟨ret_int (by rw [H.out]; rfl), rfl⟩

theorem byte_no {c : UInt8} {n : Nat} (hn : n < 256) (h : c ≠ UInt8.ofNat n) : ((c.toNat : Int) == (n : Int)) = false := by
  rw [beq_eq_false_iff_ne]
  intro e
  apply h
  have : c.toNat = n := by omega
  rw [← this]; simp

/-! ### A trim -/
def lenOfS : Value → Nat | .slice _ n _ => n | _ => 0
/-- Bytes that are read. -/
def BytesRd (w : World) (p : Option Addr) (l : Bs) : Prop := ∀ j c, l[j]? = some c → ∃ a : Addr, p = some a ∧ w.cell? (a.add j) = some (bv c)
theorem BytesRd.keeps {w w' : World} {p : Option Addr} {l : Bs} (h : BytesRd w p l) (k : Keeps w w') : BytesRd w' p l := by
  intro j x hx
  obtain ⟨a, ha, hc⟩ := h j x hx
  exact ⟨a, ha, cell_keeps k hc⟩

set_option maxHeartbeats 1000000 in
theorem trimByte_any (p : Option Addr) (l : Bs) (cap : Nat) (w : World) (hl : l.length ≤ 1000000) (hc : l.length ≤ cap) (hcap : cap ≤ 1000000) (hb : BytesRd w p l) :
    Calls Tryz.prog 115 #[.slice p l.length cap, .int .u8 32] w fun e w' => e = .returned (.slice p (trimR l).length cap) ∧ w = w' := by
  obtain ⟨N, hN⟩ : ∃ N, l.length = N := ⟨_, rfl⟩
  rw [hN] at hl hc ⊢
  have HN := Lib.hid hN
  have HB := Lib.hid hb
  clear hN hb
  go_enter Tryz.func115, Tryz.ntmps115
  go_wp2
  go_loop [0] (fun v => ∃ k : Nat, k ≤ N ∧ v = .slice p k cap ∧ trimR l = trimR (l.take k)) (fun v => lenOfS v)
  case atStart => exact ⟨N, by omega, rfl, by rw [← HN.out, List.take_of_length_le (Nat.le_refl _)]⟩
  case round =>
    obtain ⟨k, hk, rfl, htr⟩ := hrel
    have HT := Lib.hid htr
    clear htr
    by_cases h0 : k = 0
    · subst h0
      have H := Lib.hid (show trimR l = [] from by rw [HT.out]; rfl)
      go_wp2
      go_ret
      exact ⟨by rw [H.out]; rfl, rfl⟩
    · obtain ⟨m, rfl⟩ : ∃ m, k = m + 1 := ⟨k - 1, by omega⟩
      have hlm : m < l.length := by have := HN.out; omega
      obtain ⟨c, hc'⟩ : ∃ c, l[m]? = some c := ⟨_, List.getElem?_eq_getElem hlm⟩
      obtain ⟨a, rfl, hca⟩ := HB.out m c hc'
      have hat := trimR_at hc'
      clear hc' h0
      by_cases h32 : c = 32
      · subst h32
        have H := Lib.hid (show trimR l = trimR (l.take m) from by rw [HT.out, hat, if_pos rfl])
        clear hat
        have t0 : (0 : Int) < ((m + 1 : Nat) : Int) := by omega
        have t1 : ((m + 1 : Nat) : Int) - 1 = (m : Int) := by omega
        go_wp2
        go_round
        case rel => exact ⟨m, by omega, rfl, H.out⟩
        case measure => simp [lenOfS]
      · have H := Lib.hid (show trimR l = l.take (m + 1) from by rw [HT.out, hat, if_neg h32])
        have t2 : ((c.toNat : Int) == 32) = false := byte_no (n := 32) (by decide) h32
        have H32 := Lib.hid h32
        clear hat h32
        have t0 : (0 : Int) < ((m + 1 : Nat) : Int) := by omega
        have t1 : ((m + 1 : Nat) : Int) - 1 = (m : Int) := by omega
        go_wp2
        go_ret
        exact ⟨by rw [H.out, List.length_take, Nat.min_eq_left (by have := HN.out; omega)]; rfl, rfl⟩

set_option maxRecDepth 100000 in
set_option maxHeartbeats 1000000 in
theorem trimRight_any (p : Option Addr) (l : Bs) (cap : Nat) (w : World) (hl : l.length ≤ 1000000) (hc : l.length ≤ cap) (hcap : cap ≤ 1000000) (h0 : 0 < l.length) (hb : BytesRd w p l) :
    Calls Tryz.prog 89 #[.slice p l.length cap, .string ⟨#[32]⟩] w fun e w' => e = .returned (.slice p (trimR l).length cap) ∧ w = w' := by
  have ct := trimByte_any p l cap w hl hc hcap hb
  obtain ⟨N, hN⟩ : ∃ N, l.length = N := ⟨_, rfl⟩
  rw [hN] at hl hc ct h0 ⊢
  clear hN hb
  have t0 : ((N : Int) == 0) = false := by rw [beq_eq_false_iff_ne]; omega
  go_enter Tryz.func89, Tryz.ntmps89
  go_wp2_with (go_at_call 115; refine ct.mono ?_; rintro e w' ⟨rfl, rfl⟩)
  go_ret
  exact ⟨rfl, rfl⟩

/-! ### A blank at the end -/
theorem endB_at {f : Bs} {k : Nat} {c : UInt8} (hk : f[k]? = some c) (hl : f.length = k + 1) : endB f = (c == 32) := by
  unfold endB
  rw [List.getLast?_eq_getElem?, hl, Nat.add_sub_cancel, hk]
  rfl
theorem endB_nil : endB [] = false := rfl

theorem suffix_one (s : ByteArray) (k : Nat) (hk : s.size = k + 1) (c : UInt8) (h : s[k]'(by omega) = c) : s.extract k s.size = ⟨#[c]⟩ := by
  apply ByteArray.ext
  apply Array.ext'
  rw [← ByteArray.toList_eq, extract_list, hk, Nat.add_sub_cancel_left]
  rw [List.drop_eq_getElem_cons (by simp; omega)]
  simp
  exact h

set_option maxHeartbeats 1000000 in
theorem hasSuffix_any (s : ByteArray) (w : World) (hs : s.size ≤ maxLen) :
    Calls Tryz.prog 114 #[.string s, .string ⟨#[32]⟩] w fun e w' => e = .returned (.bool (endB s.data.toList)) ∧ w = w' := by
  unfold maxLen at hs
  by_cases h0 : s.size = 0
  · have t0 : decide ((1 : Int) ≤ (s.size : Int)) = false := decide_eq_false (by omega)
    have H := Lib.hid (show endB s.data.toList = false from by
      have e : s.data.toList = [] := List.eq_nil_of_length_eq_zero (by simpa using h0)
      rw [e]; rfl)
    clear h0
    go_enter Tryz.func114, Tryz.ntmps114
    go_wp2
    go_ret
    exact ⟨ret_bool H.out.symm, rfl⟩
  · obtain ⟨k, hk⟩ : ∃ k, s.size = k + 1 := ⟨s.size - 1, by omega⟩
    obtain ⟨c, hc⟩ : ∃ c, s[k]'(by omega) = c := ⟨_, rfl⟩
    have H := Lib.hid (show endB s.data.toList = (c == 32) from endB_at (by rw [Lib.data_getElem? s k (by omega), hc]) (by simpa using hk))
    have hx := suffix_one s k hk c hc
    have t0 : decide ((1 : Int) ≤ (s.size : Int)) = true := decide_eq_true (by omega)
    have t1 : (s.size : Int) - 1 = (k : Int) := by omega
    have hks : k ≤ s.size := by omega
    obtain ⟨X, hX⟩ : ∃ X, s.extract k s.size = X := ⟨_, rfl⟩
    rw [hX] at hx
    clear h0 hk hc
    by_cases h32 : c = 32
    · subst h32
      have t2 : (X.toList == [32]) = true := by rw [hx, ByteArray.toList_eq]; rfl
      clear hx
      go_enter Tryz.func114, Tryz.ntmps114
      go_wp2
      go_ret
      exact ⟨ret_bool H.out.symm, rfl⟩
    · have t2 : (X.toList == [32]) = false := by
        rw [hx, ByteArray.toList_eq]
        simpa using h32
      have H2 := Lib.hid (show (c == 32) = false from by simpa using h32)
      clear hx h32
      go_enter Tryz.func114, Tryz.ntmps114
      go_wp2
      go_ret
      exact ⟨ret_bool (by rw [H.out, H2.out]), rfl⟩
theorem hasSuffix_of (s : ByteArray) (w : World) (hs : s.size ≤ maxLen) :
    Calls Tryz.prog 138 #[.string s, .string ⟨#[32]⟩] w fun e w' => e = .returned (.bool (endB s.data.toList)) ∧ w = w' := by
  have c := hasSuffix_any s w hs
  go_enter Tryz.func138, Tryz.ntmps138
  go_wp2_with (go_at_call 114; refine c.mono ?_; rintro e w' ⟨rfl, rfl⟩)
  go_ret
  exact ⟨rfl, rfl⟩

theorem fitB_long {f : Bs} {n : Int} (h : n < f.length) : fitB f n = false := by unfold fitB; rw [decide_eq_false (by omega)]; rfl
theorem fitB_odd {f : Bs} {n : Int} {k : Nat} (h : odd f = some k) : fitB f n = false := by
  unfold fitB
  have : f.all okB = false := by rw [← odd_all, h]; rfl
  rw [this, Bool.and_false]; rfl
theorem fitB_ok {f : Bs} {n : Int} (h : (f.length : Int) ≤ n) (ho : odd f = none) : fitB f n = !endB f := by
  unfold fitB
  rw [decide_eq_true h, odd_of_none ho]; rfl

set_option maxHeartbeats 1000000 in
theorem fits_any (s : ByteArray) (n : Int) (w : World) (hs : s.size ≤ maxLen) :
    Calls Tryz.prog 110 #[.string s, .int .i64 n] w fun e w' => e = .returned (.bool (fitB s.data.toList n)) ∧ w = w' := by
  have co := firstOdd_any s w hs
  have cs := hasSuffix_of s w hs
  unfold maxLen at hs
  by_cases hl : n < s.size
  · have t : decide ((s.size : Int) ≤ n) = false := decide_eq_false (by omega)
    have H := Lib.hid (show fitB s.data.toList n = false from fitB_long (by simpa using hl))
    clear hl co cs
    go_enter Tryz.func110, Tryz.ntmps110
    go_wp2
    go_ret
    exact ⟨ret_bool H.out.symm, rfl⟩
  · have t : decide ((s.size : Int) ≤ n) = true := decide_eq_true (by omega)
    have hle : ((s.data.toList.length : Nat) : Int) ≤ n := by rw [len_data]; omega
    cases ho : odd s.data.toList with
    | some k =>
      rw [ho] at co
      have H := Lib.hid (show fitB s.data.toList n = false from fitB_odd ho)
      have t2 : decide ((k : Int) < 0) = false := decide_eq_false (by omega)
      clear hl ho cs hle
      go_enter Tryz.func110, Tryz.ntmps110
      go_wp2_with (go_at_call 88; refine co.mono ?_; rintro e w' ⟨rfl, rfl⟩)
      go_ret
      exact ⟨ret_bool H.out.symm, rfl⟩
    | none =>
      rw [ho] at co
      have H := Lib.hid (show fitB s.data.toList n = !endB s.data.toList from fitB_ok hle ho)
      obtain ⟨b, hb⟩ : ∃ b, endB s.data.toList = b := ⟨_, rfl⟩
      rw [hb] at cs
      have HB := Lib.hid hb
      have co' : Calls Tryz.prog 88 #[.string s] w fun e w' => e = .returned (.int .i64 (-1)) ∧ w = w' := co
      clear hl ho hle hb co
      go_enter Tryz.func110, Tryz.ntmps110
      go_wp2_with (first
        | (go_at_call 88; refine co'.mono ?_; rintro e w' ⟨rfl, rfl⟩)
        | (go_at_call 138; refine cs.mono ?_; rintro e w' ⟨rfl, rfl⟩))
      go_ret
      exact ⟨ret_bool (by rw [H.out, HB.out]), rfl⟩
end Go.Proofs.YtomonhghioamfaaGreatDoor
