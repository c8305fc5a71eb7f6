
/- The document's own answers for fixed: all, fits. -/
import Derived.Test.YtomonhghioamfaaGreatDoorFixedC
set_option linter.unusedVariables false
namespace Go.Proofs.YtomonhghioamfaaGreatDoor
open Go.ChangeShapes Go.WideShapes Go.ChangeAt Go.RowKit Csv Fix

/-- What all widths have together, or -1. -/
def allI (W : List Int) : Int := if okW W = true then (sumW W : Int) else -1
theorem allI_no {W : List Int} (h : okW W = false) : allI W = -1 := by unfold allI; rw [if_neg (by simp [h])]
theorem allI_yes {W : List Int} (h : okW W = true) : allI W = (sumW W : Int) := by unfold allI; rw [if_pos h]

set_option maxHeartbeats 1000000 in
theorem all_any (v : Value) (W : List Int) (w : World) (hW : IntsAt w v W) :
    Calls Tryz.prog 49 #[v] w fun e w' => e = .returned (.int .i64 (allI W)) ∧ w = w' := by
  obtain ⟨pW, cW, rfl, lW, hW⟩ := hW
  have HW := Lib.hid hW
  clear hW
  unfold maxLen at lW
  by_cases h100 : 100 < W.length
  · have t : decide ((100 : Int) < (W.length : Int)) = true := decide_eq_true (by omega)
    have H := Lib.hid (show okW W = false from by unfold okW; rw [decide_eq_false (by omega)]; rfl)
    clear h100
    go_enter Tryz.func49, Tryz.ntmps49
    go_wp2
    go_ret
    exact ⟨ret_int (allI_no H.out).symm, rfl⟩
  have hl : W.length ≤ 100 := by omega
  have t : decide ((100 : Int) < (W.length : Int)) = false := decide_eq_false (by omega)
  clear h100
  go_enter Tryz.func49, Tryz.ntmps49
  go_wp2
  go_loop [3, 4] (fun s i => ∃ k S : Nat, k ≤ W.length ∧ i = .int .i64 k ∧ s = .int .i64 S ∧ S ≤ 100000 ∧ S = sumW (W.take k) ∧ (W.take k).all okW1 = true) (fun _ i => W.length - (intOf i).toNat)
  case atStart => exact ⟨0, 0, by omega, rfl, rfl, by omega, rfl, rfl⟩
  case round =>
    obtain ⟨k, S, hk, rfl, rfl, hS, hsum, hall⟩ := hrel
    have HS := Lib.hid hsum
    have HA := Lib.hid hall
    clear hsum hall
    by_cases hlt : k < W.length
    · obtain ⟨n, hn⟩ : ∃ n, W[k]? = some n := ⟨_, List.getElem?_eq_getElem hlt⟩
      obtain ⟨a, rfl, hc⟩ := HW.out k n hn
      have HN := Lib.hid hn
      have hi1 : (k : Int) < (W.length : Int) := by omega
      clear hn
      by_cases h1 : n < 1
      · have t1 : decide (n < 1) = true := decide_eq_true h1
        have H := Lib.hid (show okW W = false from okW_no HN.out (by unfold okW1; rw [decide_eq_false (by omega)]; rfl))
        go_wp2
        go_ret
        exact ⟨ret_int (allI_no H.out).symm, rfl⟩
      · by_cases h2 : 1000 < n
        · have t1 : decide (n < 1) = false := decide_eq_false h1
          have t2 : decide (1000 < n) = true := decide_eq_true h2
          have H := Lib.hid (show okW W = false from okW_no HN.out (by unfold okW1; rw [decide_eq_false (show ¬ n ≤ 1000 by omega), Bool.and_false]))
          go_wp2
          go_ret
          exact ⟨ret_int (allI_no H.out).symm, rfl⟩
        · obtain ⟨m, rfl⟩ : ∃ m : Nat, n = m := ⟨n.toNat, by omega⟩
          have t1 : decide ((m : Int) < 1) = false := decide_eq_false h1
          have t2 : decide ((1000 : Int) < (m : Int)) = false := decide_eq_false h2
          have hok : okW1 (m : Int) = true := (okW1_iff _).2 ⟨by omega, by omega⟩
          have hall' := all_take HA.out HN.out hok
          have hsm := sumI_small W (k + 1) hl hall'
          have hst := sumW_take W k _ HN.out
          have H1 := Lib.hid hall'
          have H2 := Lib.hid (show S + m = sumW (W.take (k + 1)) from by rw [hst, HS.out]; simp)
          have h3 : S + m ≤ 100000 := by rw [H2.out]; exact hsm
          clear hok hall' hsm hst
          go_wp2
          go_round
          case rel => exact ⟨k + 1, S + m, by omega, by go_num, by go_num, h3, H2.out, H1.out⟩
          case measure => simp [intOf]; omega
    · obtain rfl : k = W.length := by omega
      have hz : ¬ ((W.length : Int) < (W.length : Int)) := by omega
      have H := Lib.hid (okW_yes hl HA.out)
      have H2 := Lib.hid (show S = sumW W from by rw [HS.out, List.take_of_length_le (Nat.le_refl _)])
      go_wp2
      go_ret
      exact ⟨ret_int (by rw [allI_yes H.out, H2.out]), rfl⟩

theorem fitB_bad {f : Bs} {n : Int} {k : Nat} {c : UInt8} (hk : f[k]? = some c) (hc : okB c = false) : fitB f n = false := by
  unfold fitB
  have : f.all okB = false := List.all_eq_false.2 ⟨c, List.mem_of_getElem? hk, by simp [hc]⟩
  rw [this, Bool.and_false]; rfl
theorem fitB_all {f : Bs} {n : Int} (h : (f.length : Int) ≤ n) (ho : f.all okB = true) : fitB f n = !endB f := by
  unfold fitB
  rw [decide_eq_true h, ho]; rfl

set_option maxHeartbeats 1000000 in
theorem rfits_any (s : ByteArray) (n : Int) (w : World) (hs : s.size ≤ maxLen) :
    Calls Tryz.prog 50 #[.string s, .int .i64 n] w fun e w' => e = .returned (.bool (fitB s.data.toList n)) ∧ w = w' := by
  unfold maxLen at hs
  go_enter Tryz.func50, Tryz.ntmps50
  go_wp2
  go_loop [5] (fun i => ∃ k : Nat, k ≤ s.size ∧ i = .int .i64 k ∧ (s.data.toList.take k).all okB = true) (fun i => s.size - (intOf i).toNat)
  case atStart => exact ⟨0, by omega, rfl, rfl⟩
  case round =>
    obtain ⟨k, hk, rfl, hall⟩ := hrel
    have HA := Lib.hid hall
    clear hall
    by_cases hlt : k < s.size
    · obtain ⟨c, hc⟩ : ∃ c, s[k]'hlt = c := ⟨_, rfl⟩
      have hc2 : s[(k : Int).toNat]'(by simpa using hlt) = c := by simpa using hc
      have HC := Lib.hid (show s.data.toList[k]? = some c from by rw [Lib.data_getElem? s k hlt, hc])
      have hi1 : (k : Int) < (s.size : Int) := by omega
      by_cases h1 : c.toNat < 32
      · have t1 : decide ((c.toNat : Int) < 32) = true := decide_eq_true (by omega)
        have H := Lib.hid (show fitB s.data.toList n = false from fitB_bad HC.out (by unfold okB; rw [decide_eq_false (by omega)]; rfl))
        go_wp2
        go_ret
        exact ⟨ret_bool H.out.symm, rfl⟩
      · by_cases h2 : 126 < c.toNat
        · have t1 : decide ((c.toNat : Int) < 32) = false := decide_eq_false (by omega)
          have t2 : decide ((126 : Int) < (c.toNat : Int)) = true := decide_eq_true (by omega)
          have H := Lib.hid (show fitB s.data.toList n = false from fitB_bad HC.out (by unfold okB; rw [decide_eq_false (show ¬ c.toNat ≤ 126 by omega), Bool.and_false]))
          go_wp2
          go_ret
          exact ⟨ret_bool H.out.symm, rfl⟩
        · have t1 : decide ((c.toNat : Int) < 32) = false := decide_eq_false (by omega)
          have t2 : decide ((126 : Int) < (c.toNat : Int)) = false := decide_eq_false (by omega)
          have H := Lib.hid (all_take HA.out HC.out (show okB c = true from (okB_iff c).2 ⟨by omega, by omega⟩))
          go_wp2
          go_round
          case rel => exact ⟨k + 1, by omega, by go_num, H.out⟩
          case measure => simp [intOf]; omega
    · obtain rfl : k = s.size := by omega
      have hz : ¬ ((s.size : Int) < (s.size : Int)) := by omega
      have hok : s.data.toList.all okB = true := by have h := HA.out; rwa [List.take_of_length_le (by simp)] at h
      by_cases hn : n < s.size
      · have t : decide ((s.size : Int) ≤ n) = false := decide_eq_false (by omega)
        have H := Lib.hid (show fitB s.data.toList n = false from fitB_long (by simpa using hn))
        clear hok hn
        go_wp2
        go_ret
        exact ⟨ret_bool H.out.symm, rfl⟩
      · have t : decide ((s.size : Int) ≤ n) = true := decide_eq_true (by omega)
        have hle : ((s.data.toList.length : Nat) : Int) ≤ n := by rw [len_data]; omega
        have H := Lib.hid (fitB_all hle hok)
        clear hok hn hle
        by_cases h0 : s.size = 0
        · have H2 := Lib.hid (show endB s.data.toList = false from by
            have e : s.data.toList = [] := List.eq_nil_of_length_eq_zero (by simpa using h0)
            rw [e]; rfl)
          have t0 : ((s.size : Int) == 0) = true := by rw [h0]; rfl
          clear h0
          go_wp2
          go_ret
          exact ⟨ret_bool (by rw [H.out, H2.out]; rfl), rfl⟩
        · obtain ⟨m, hm⟩ : ∃ m, s.size = m + 1 := ⟨s.size - 1, by omega⟩
          have t2 : m < s.size := by omega
          obtain ⟨c, hc⟩ : ∃ c, s[m]'t2 = c := ⟨_, rfl⟩
          have H2 := Lib.hid (show endB s.data.toList = (c == 32) from endB_at (by rw [Lib.data_getElem? s m (by omega), hc]) (by simpa using hm))
          have t0 : ((s.size : Int) == 0) = false := by rw [beq_eq_false_iff_ne]; omega
          have t1 : (s.size : Int) - 1 = (m : Int) := by omega
          have t3 : (m : Int) < (s.size : Int) := by omega
          have hc2 : s[(m : Int).toNat]'(by simpa using t2) = c := by simpa using hc
          clear h0 hm
          by_cases h32 : c = 32
          · have t4 : ((c.toNat : Int) != 32) = false := by rw [h32]; rfl
            have H3 := Lib.hid h32
            clear h32
            go_wp2
            go_ret
            exact ⟨ret_bool (by rw [H.out, H2.out, H3.out]; rfl), rfl⟩
          · have t4 : ((c.toNat : Int) != 32) = true := by
              have := byte_no (n := 32) (by decide) h32
              simpa [bne] using this
            have H3 := Lib.hid (show (c == 32) = false from by simpa using h32)
            clear h32
            go_wp2
            go_ret
            exact ⟨ret_bool (by rw [H.out, H2.out, H3.out]; rfl), rfl⟩
end Go.Proofs.YtomonhghioamfaaGreatDoor
