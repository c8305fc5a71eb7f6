
/- The program's stock: numbers, words, widths. The program's stock: a row's fields. -/
import Derived.Test.YtomonhghioamfaaGreatDoorSkRefM
import Derived.Test.YtomonhghioamfaaGreatDoorSkSet
import Derived.Test.YtomonhghioamfaaGreatDoorKyCP
import Derived.Test.YtomonhghioamfaaGreatDoorMoneyGetC
import Derived.Scope
set_option linter.unusedVariables false
namespace Go.Proofs.YtomonhghioamfaaGreatDoor
open Go.ChangeShapes Go.WideShapes Go.ChangeAt Go.RowKit Ky Rw Csv Stk
namespace Stk
def numB (f : Bt) (least most : Int) : Bool := Mon.getB f && decide (least ≤ Mon.getV f) && decide (Mon.getV f ≤ most)
theorem num_yes0 {f : Bt} {most : Int} (h : numB f 0 most = true) : numN f most = Mon.getV f := by
  unfold numB at h
  simp only [Bool.and_eq_true, decide_eq_true_eq] at h
  unfold numN
  rw [if_pos ⟨h.1.1, h.1.2, h.2⟩]
theorem num_no0 {f : Bt} {most : Int} (h : numB f 0 most = false) : numN f most = -1 := by
  unfold numN
  rw [if_neg]
  rintro ⟨a, b, c⟩
  have : numB f 0 most = true := by unfold numB; simp [a, b, c]
  rw [h] at this
  cases this
theorem num_yes1 {f : Bt} {most : Int} (h : numB f 1 most = true) : numN f most = Mon.getV f ∧ 1 ≤ Mon.getV f := by
  unfold numB at h
  simp only [Bool.and_eq_true, decide_eq_true_eq] at h
  unfold numN
  rw [if_pos ⟨h.1.1, by omega, h.2⟩]
  exact ⟨rfl, h.1.2⟩
theorem num_no1 {f : Bt} {most : Int} (h : numB f 1 most = false) : numN f most < 1 := by
  unfold numN
  split
  · rename_i g
    have : ¬ 1 ≤ Mon.getV f := fun e => by
      have : numB f 1 most = true := by unfold numB; simp [g.1, e, g.2.2]
      rw [h] at this
      cases this
    omega
  · omega
def codeI (f : Bt) : Int := if f = wDone then 1 else if f = wRef then 2 else 0
def storeB (f : Bt) : Bool := deedB f && decide (partyK (deedV f) = 1)
theorem store_iff {f : Bt} : storeB f = true ↔ (f = wRsv ∨ f = wRls) := by
  unfold storeB
  rw [Bool.and_eq_true, decide_eq_true_eq]
  exact store_word.symm
end Stk
set_option maxHeartbeats 4000000 in
set_option maxRecDepth 100000 in
theorem sp_number (s : ByteArray) (least most : Int) (w : World) (hs : s.size ≤ maxLen) (h1 : 0 ≤ least ∧ least < top) (h2 : 0 ≤ most ∧ most < top) :
    Calls Tryz.prog 104 #[.string s, .int .i64 least, .int .i64 most] w fun e w' => e = .returned (.tuple #[.int .i64 (Mon.getV s.data.toList), .bool (numB s.data.toList least most)]) ∧ Keeps w w' := by
  have I := sk_i64 s.data.toList
  have C1 := Lib.hid (moGet_any s w hs)
  unfold numB
  obtain ⟨n, hn⟩ : ∃ n, Mon.getV s.data.toList = n := ⟨_, rfl⟩
  obtain ⟨b, hb⟩ : ∃ b, Mon.getB s.data.toList = b := ⟨_, rfl⟩
  rw [hn] at I C1 ⊢
  rw [hb] at C1 ⊢
  have wn : wrap64 n = n := i64w I.1 I.2
  have wl : wrap64 least = least := i64w (by unfold top at *; omega) h1.2
  have wm : wrap64 most = most := i64w (by unfold top at *; omega) h2.2
  clear hn hb hs I h1 h2
  obtain ⟨x, hx⟩ : ∃ b, decide (least ≤ n) = b := ⟨_, rfl⟩
  obtain ⟨y, hy⟩ : ∃ b, decide (n ≤ most) = b := ⟨_, rfl⟩
  rw [hx, hy]
  go_enter Tryz.func104, Tryz.ntmps104
  go_wp2_with fail
  refine C1.out.mono ?_
  rintro e w1 ⟨rfl, k1⟩
  clear C1
  cases b <;> cases x <;> cases y
  all_goals
    go_wp2
    go_ret2
    exact ⟨rfl, k1⟩
set_option maxHeartbeats 4000000 in
set_option maxRecDepth 100000 in
theorem sp_deedOf (s : ByteArray) (w : World) (hp : HasP w) (hs : s.size ≤ maxLen) :
    Calls Tryz.prog 134 #[.string s] w fun e w' => e = .returned (.tuple #[.int .i64 (deedV s.data.toList), .bool (storeB s.data.toList)]) ∧ Keeps w w' := by
  have C1 := Lib.hid (pk_deed s w hs)
  have C2 : Hid (∀ d W, Keeps w W → Calls Tryz.prog 92 #[.int .i64 d] W fun e w' => e = .returned (.int .i64 (partyK d)) ∧ W = w') := Lib.hid fun d W k => pk_party d W (hp.keeps k)
  unfold storeB
  obtain ⟨d, hd⟩ : ∃ n, deedV s.data.toList = n := ⟨_, rfl⟩
  obtain ⟨b, hb⟩ : ∃ b, deedB s.data.toList = b := ⟨_, rfl⟩
  rw [hd, hb] at C1 ⊢
  obtain ⟨q, hq⟩ : ∃ n, partyK d = n := ⟨_, rfl⟩
  have HQ := Lib.hid hq
  obtain ⟨t, ht⟩ : ∃ b, (q == 1) = b := ⟨_, rfl⟩
  have C3 : Hid (∀ W, Keeps w W → Calls Tryz.prog 92 #[.int .i64 d] W fun e w' => e = .returned (.int .i64 q) ∧ W = w') := Lib.hid fun W k => hq ▸ C2.out d W k
  have T : Hid (decide (partyK d = 1) = t) := Lib.hid (by rw [hq, ← ht]; rfl)
  clear hd hb hs hp C2 hq
  go_enter Tryz.func134, Tryz.ntmps134
  go_wp2_with fail
  refine C1.out.mono ?_
  rintro e w1 ⟨rfl, k1⟩
  have K1 := Lib.hid k1
  clear C1 k1
  cases b with
  | false =>
    go_wp2
    go_ret2
    exact ⟨rfl, K1.out⟩
  | true =>
    go_wp2_with (go_at_call 92; refine (C3.out _ K1.out).mono ?_; rintro e w2 ⟨rfl, rfl⟩)
    go_ret2
    exact ⟨by rw [T.out]; rfl, K1.out⟩
set_option maxHeartbeats 4000000 in
theorem sp_codeOf (s : ByteArray) (w : World) : Calls Tryz.prog 135 #[.string s] w fun e w' => e = .returned (.int .i64 (codeI s.data.toList)) ∧ w = w' := by
  by_cases h1 : s = ⟨#[100, 111, 110, 101]⟩
  · subst h1
    go_enter Tryz.func135, Tryz.ntmps135
    go_wp2
    go_ret
    exact ⟨rfl, rfl⟩
  obtain ⟨a1, a2, a3⟩ := sv_neS (S := s) (l := [100, 111, 110, 101]) (fun e => h1 (bytes_inj (by rw [e])))
  by_cases h2 : s = ⟨#[114, 101, 102, 117, 115, 101, 100]⟩
  · subst h2
    go_enter Tryz.func135, Tryz.ntmps135
    go_wp2
    go_ret
    exact ⟨rfl, rfl⟩
  obtain ⟨b1, b2, b3⟩ := sv_neS (S := s) (l := [114, 101, 102, 117, 115, 101, 100]) (fun e => h2 (bytes_inj (by rw [e])))
  have E : Hid (codeI s.data.toList = 0) := Lib.hid (by unfold codeI; rw [if_neg (fun e => h1 (bytes_inj (by rw [e]))), if_neg (fun e => h2 (bytes_inj (by rw [e])))])
  clear h1 h2
  go_enter Tryz.func135, Tryz.ntmps135
  go_wp2
  go_ret
  exact ⟨ret_int E.out.symm, rfl⟩
set_option maxHeartbeats 4000000 in
theorem sp_mostOf (c : Int) (w : World) : Calls Tryz.prog 136 #[.int .i64 c] w fun e w' => e = .returned (.int .i64 (if c = 2 then 0 else 999)) ∧ w = w' := by
  by_cases h1 : c = 2
  · subst h1
    go_enter Tryz.func136, Tryz.ntmps136
    go_wp2
    go_ret
    exact ⟨rfl, rfl⟩
  have t : (c == 2) = false := by rw [beq_eq_false_iff_ne]; exact h1
  rw [if_neg h1]
  clear h1
  go_enter Tryz.func136, Tryz.ntmps136
  go_wp2
  go_ret
  exact ⟨rfl, rfl⟩
set_option maxHeartbeats 4000000 in
theorem sp_codeWord (c : Int) (w : World) : Calls Tryz.prog 66 #[.int .i64 c] w fun e w' => e = .returned (.string (if c = 1 then ⟨#[100, 111, 110, 101]⟩ else ⟨#[114, 101, 102, 117, 115, 101, 100]⟩)) ∧ w = w' := by
  by_cases h1 : c = 1
  · subst h1
    go_enter Tryz.func66, Tryz.ntmps66
    go_wp2
    go_ret
    exact ⟨rfl, rfl⟩
  have t : (c == 1) = false := by rw [beq_eq_false_iff_ne]; exact h1
  rw [if_neg h1]
  clear h1
  go_enter Tryz.func66, Tryz.ntmps66
  go_wp2
  go_ret
  exact ⟨rfl, rfl⟩
set_option maxHeartbeats 4000000 in
theorem sp_misfit (p : Option Addr) (n c want : Nat) (w : World) (hn : n ≤ 1000000) (hw : want ≤ 1000) :
    Calls Tryz.prog 103 #[.slice p n c, .int .i64 (want : Int)] w fun e w' => e = .returned (.int .i64 (wide n want : Nat)) ∧ w = w' := by
  rcases (show n < want ∨ n = want ∨ want < n from by omega) with h | h | h
  · have E : Hid (wide n want = n + 1) := Lib.hid (by unfold wide; rw [if_pos h])
    have e1 : wrap64 (1 + (n : Int)) = 1 + (n : Int) := i64w (by unfold top; omega) (by unfold top; omega)
    have t : ((n : Int) == (want : Int)) = false := by rw [beq_eq_false_iff_ne]; omega
    have t2 : (n : Int) < (want : Int) := by omega
    have t3 : (n : Int) ≤ (want : Int) := by omega
    clear h
    go_enter Tryz.func103, Tryz.ntmps103
    go_wp2
    go_ret
    exact ⟨ret_int (by rw [E.out]; push_cast; omega), rfl⟩
  · subst h
    have E : Hid (wide n n = 0) := Lib.hid (wide_same n)
    go_enter Tryz.func103, Tryz.ntmps103
    go_wp2
    go_ret
    exact ⟨ret_int (by rw [E.out]; rfl), rfl⟩
  · have E : Hid (wide n want = want + 1) := Lib.hid (by unfold wide; rw [if_neg (by omega), if_pos h])
    have e1 : wrap64 (1 + (want : Int)) = 1 + (want : Int) := i64w (by unfold top; omega) (by unfold top; omega)
    have t : ((n : Int) == (want : Int)) = false := by rw [beq_eq_false_iff_ne]; omega
    have t2 : (want : Int) < (n : Int) := by omega
    have t3 : ¬ ((n : Int) ≤ (want : Int)) := by omega
    have t4 : ¬ ((n : Int) < (want : Int)) := by omega
    clear h
    go_enter Tryz.func103, Tryz.ntmps103
    go_wp2
    go_ret
    exact ⟨ret_int (by rw [E.out]; push_cast; omega), rfl⟩
end Go.Proofs.YtomonhghioamfaaGreatDoor
namespace Go.Proofs.YtomonhghioamfaaGreatDoor
open Go.ChangeShapes Go.WideShapes Go.ChangeAt Go.RowKit Ky Rw Csv Stk

/-- What 'rowOf' tells. -/
def fitR (F : List (List UInt8)) : R := if fitC F = 0 then rowR F else ⟨0, 0, 0, 0, 0⟩
abbrev rBlk (W : World) (n : Nat) (a b c d e : Int) : Prop := W.heap[n]? = some (.cells #[.int .i64 a, .int .i64 b, .int .i64 c, .int .i64 d, .int .i64 e] tRw (0, 0))
/-- Between two fields. -/
def FldAt (w : World) (b0 b1 b2 b3 : Bool) (n0 d c n3 : Int) (g : Nat) (v4 v9 : Value) (W : World) : Prop :=
  Keeps w W ∧ ((g = 4 ∧ v9 = .int .i64 0 ∧ v4 = .bool false ∧ rBlk W w.heap.size 0 0 0 0 0) ∨
    (g = 3 ∧ v9 = .int .i64 1 ∧ v4 = .bool true ∧ rBlk W w.heap.size n0 0 0 0 0 ∧ b0 = true) ∨
    (g = 2 ∧ v9 = .int .i64 2 ∧ v4 = .bool true ∧ rBlk W w.heap.size n0 d 0 0 0 ∧ b0 = true ∧ b1 = true) ∨
    (g = 1 ∧ v9 = .int .i64 3 ∧ v4 = .bool true ∧ rBlk W w.heap.size n0 d c 0 0 ∧ b0 = true ∧ b1 = true ∧ b2 = true) ∨
    (g = 0 ∧ v9 = .int .i64 4 ∧ v4 = .bool true ∧ rBlk W w.heap.size n0 d c 0 n3 ∧ b0 = true ∧ b1 = true ∧ b2 = true ∧ b3 = true))
set_option maxHeartbeats 16000000 in
set_option maxRecDepth 100000 in
theorem sp_rowOf (v : Value) (F : List (List UInt8)) (w : World) (hF : StrsAt w v F) (h4 : F.length = 4) (hs : SkShort F) (hp : HasP w) :
    Calls Tryz.prog 106 #[v] w fun e w' => e = .returned (.tuple #[rwV (fitR F), .int .i64 (fitC F : Nat)]) ∧ Keeps w w' := by
  obtain ⟨p, cp, rfl, _, hpp, hc⟩ := strs_at hF
  obtain ⟨a, rfl⟩ := hpp (by omega)
  obtain ⟨S0, h0⟩ : ∃ S : ByteArray, ⟨(fa F 0).toArray⟩ = S := ⟨_, rfl⟩
  obtain ⟨S1, h1⟩ : ∃ S : ByteArray, ⟨(fa F 1).toArray⟩ = S := ⟨_, rfl⟩
  obtain ⟨S2, h2⟩ : ∃ S : ByteArray, ⟨(fa F 2).toArray⟩ = S := ⟨_, rfl⟩
  obtain ⟨S3, h3⟩ : ∃ S : ByteArray, ⟨(fa F 3).toArray⟩ = S := ⟨_, rfl⟩
  have z0 : S0.size ≤ maxLen := by rw [← h0, size_mk]; have := hs 0; unfold maxLen; omega
  have z1 : S1.size ≤ maxLen := by rw [← h1, size_mk]; have := hs 1; unfold maxLen; omega
  have z3 : S3.size ≤ maxLen := by rw [← h3, size_mk]; have := hs 3; unfold maxLen; omega
  obtain ⟨n0, hn0⟩ : ∃ n, Mon.getV (fa F 0) = n := ⟨_, rfl⟩
  obtain ⟨n3, hn3⟩ : ∃ n, Mon.getV (fa F 3) = n := ⟨_, rfl⟩
  obtain ⟨d, hd⟩ : ∃ n, deedV (fa F 1) = n := ⟨_, rfl⟩
  obtain ⟨c, hcc⟩ : ∃ n, codeI (fa F 2) = n := ⟨_, rfl⟩
  obtain ⟨b0, hb0⟩ : ∃ b, numB (fa F 0) 1 60 = b := ⟨_, rfl⟩
  obtain ⟨b1, hb1⟩ : ∃ b, storeB (fa F 1) = b := ⟨_, rfl⟩
  obtain ⟨b2, hb2⟩ : ∃ b, (c != 0) = b := ⟨_, rfl⟩
  obtain ⟨m, hm⟩ : ∃ m : Int, (if c = 2 then (0 : Int) else 999) = m := ⟨_, rfl⟩
  obtain ⟨b3, hb3⟩ : ∃ b, numB (fa F 3) 0 m = b := ⟨_, rfl⟩
  have mb : 0 ≤ m ∧ m < top := by unfold top; rw [← hm]; split <;> omega
  have C0 : Hid (∀ W, Calls Tryz.prog 104 #[.string S0, .int .i64 1, .int .i64 60] W fun e w' => e = .returned (.tuple #[.int .i64 n0, .bool b0]) ∧ Keeps W w') := Lib.hid fun W => by
    have := sp_number S0 1 60 W z0 (by unfold top; omega) (by unfold top; omega)
    rw [← h0, data_mk, hn0, hb0, h0] at this
    exact this
  have C1 : Hid (∀ W, Keeps w W → Calls Tryz.prog 134 #[.string S1] W fun e w' => e = .returned (.tuple #[.int .i64 d, .bool b1]) ∧ Keeps W w') := Lib.hid fun W k => by
    have := sp_deedOf S1 W (hp.keeps k) z1
    rw [← h1, data_mk, hd, hb1, h1] at this
    exact this
  have C2 : Hid (∀ W, Calls Tryz.prog 135 #[.string S2] W fun e w' => e = .returned (.int .i64 c) ∧ W = w') := Lib.hid fun W => by
    have := sp_codeOf S2 W
    rw [← h2, data_mk, hcc, h2] at this
    exact this
  have CM : Hid (∀ W, Calls Tryz.prog 136 #[.int .i64 c] W fun e w' => e = .returned (.int .i64 m) ∧ W = w') := Lib.hid fun W => hm ▸ sp_mostOf c W
  have C3 : Hid (∀ W, Calls Tryz.prog 104 #[.string S3, .int .i64 0, .int .i64 m] W fun e w' => e = .returned (.tuple #[.int .i64 n3, .bool b3]) ∧ Keeps W w') := Lib.hid fun W => by
    have := sp_number S3 0 m W z3 (by unfold top; omega) mb
    rw [← h3, data_mk, hn3, hb3, h3] at this
    exact this
  have FC : Hid (fitC F = if b0 = false then 1 else if b1 = false then 2 else if b2 = false then 3 else if b3 = false then 4 else 0) := Lib.hid (by
    unfold fitC
    have e0 : (numN (fa F 0) 60 < 1) ↔ b0 = false := by
      cases hb : b0 with
      | true => have := num_yes1 (hb0.trans hb); simp; omega
      | false => have := num_no1 (hb0.trans hb); simp; omega
    have e1 : (fa F 1 ≠ wRsv ∧ fa F 1 ≠ wRls) ↔ b1 = false := by
      rw [← hb1, ← Bool.not_eq_true, store_iff, not_or]
    have e2 : (fa F 2 ≠ wDone ∧ fa F 2 ≠ wRef) ↔ b2 = false := by
      rw [← hb2, ← hcc]
      unfold codeI
      by_cases x : fa F 2 = wDone
      · rw [if_pos x]; simp [x]
      · by_cases y : fa F 2 = wRef
        · rw [if_neg x, if_pos y]; simp [y]
        · rw [if_neg x, if_neg y]; simp [x, y]
    simp only [e0, e1, e2]
    by_cases x2 : b2 = false
    · simp only [if_pos x2]
    have e3 : (numN (fa F 3) 999 < 0 ∨ (0 < numN (fa F 3) 999 ∧ fa F 2 = wRef)) ↔ b3 = false := by
      have cc : (c = 2 ↔ fa F 2 = wRef) := by
        rw [← hcc]
        unfold codeI
        by_cases x : fa F 2 = wDone
        · rw [if_pos x, x]; decide
        · by_cases y : fa F 2 = wRef
          · rw [if_neg x, if_pos y]; simp [y]
          · rw [if_neg x, if_neg y]; simp [y]
      by_cases y : c = 2
      · rw [if_pos y] at hm
        subst hm
        have yy := cc.1 y
        rw [← hb3]
        unfold numB numN
        by_cases g1 : Mon.getB (fa F 3) = true <;> by_cases g2 : 0 ≤ Mon.getV (fa F 3) <;> by_cases g3 : Mon.getV (fa F 3) ≤ 0 <;> by_cases g4 : Mon.getV (fa F 3) ≤ 999 <;> simp [g1, g2, g3, g4, yy] <;> omega
      · rw [if_neg y] at hm
        subst hm
        have yy : ¬ fa F 2 = wRef := fun e => y (cc.2 e)
        rw [← hb3]
        unfold numB numN
        by_cases g1 : Mon.getB (fa F 3) = true <;> by_cases g2 : 0 ≤ Mon.getV (fa F 3) <;> by_cases g4 : Mon.getV (fa F 3) ≤ 999 <;> simp [g1, g2, g4, yy] <;> omega
    simp only [e3])
  have RR : Hid (b0 = true → b1 = true → b2 = true → b3 = true → rowR F = ⟨n0, d, c, 0, n3⟩) := Lib.hid fun x0 x1 x2 x3 => by
    have q0 := (num_yes1 (hb0.trans x0)).1
    have q3 : numN (fa F 3) 999 = n3 := by
      have := hb3.trans x3
      unfold numB at this
      simp only [Bool.and_eq_true, decide_eq_true_eq] at this
      unfold numN
      rw [if_pos ⟨this.1.1, this.1.2, by rw [← hm] at this; have := this.2; split at this <;> omega⟩, hn3]
    have qc : (if fa F 2 = wRef then (2 : Int) else 1) = c := by
      rw [← hcc]
      unfold codeI
      by_cases x : fa F 2 = wDone
      · rw [if_pos x, x]; decide
      · by_cases y : fa F 2 = wRef
        · rw [if_neg x, if_pos y, if_pos y]
        · exfalso
          rw [← hb2, ← hcc] at x2
          unfold codeI at x2
          rw [if_neg x, if_neg y] at x2
          simp at x2
    unfold rowR
    rw [q0, hn0, hd, qc, q3]
  have CQ : Hid (∀ W, Keeps w W → W.cell? a = some (.string S0) ∧ W.cell? ⟨a.block, a.off + 1, none⟩ = some (.string S1) ∧ W.cell? ⟨a.block, a.off + 2, none⟩ = some (.string S2) ∧ W.cell? ⟨a.block, a.off + 3, none⟩ = some (.string S3)) := Lib.hid fun W k => by
    obtain ⟨q0, q1⟩ := hc a rfl
    refine ⟨?_, ?_, ?_, ?_⟩
    · rw [← h0]; exact cell_keeps k (q0 (by omega))
    · rw [← h1]; exact cell_keeps k (q1 1 (by omega) (by omega))
    · rw [← h2]; exact cell_keeps k (q1 2 (by omega) (by omega))
    · rw [← h3]; exact cell_keeps k (q1 3 (by omega) (by omega))
  have AB : Hid (a.block < w.heap.size) := Lib.hid (World.block_lt_of_cell? w a ((hc a rfl).1 (by omega)))
  have BB : Hid ((c == 0) = !b2) := Lib.hid (by rw [← hb2, bne, Bool.not_not])
  have BN : Hid ((c != 0) = b2) := Lib.hid hb2
  rw [h4]
  clear hF h4 hs hp hpp hc h0 h1 h2 h3 z0 z1 z3 hn0 hn3 hd hcc hb0 hb1 hb2 hb3 hm mb
  go_enter Tryz.func106, Tryz.ntmps106
  go_wp2
  go_step3
  go_wp2
  go_step3
  go_wp2
  go_loopg [3, 4, 5, 6, 9] 4 (fun g v3 v4 v5 v6 v9 W => FldAt w b0 b1 b2 b3 n0 d c n3 g v4 v9 W)
  case atStart => exact ⟨kept_alloc (Keeps.refl w) _, Or.inl ⟨rfl, rfl, rfl, heap_alloc_new w _⟩⟩
  case round =>
    obtain ⟨hk, hst⟩ := hrel
    have HK := Lib.hid hk
    obtain ⟨q0, q1, q2, q3⟩ := CQ.out _ hk
    clear hk
    rcases hst with ⟨rfl, rfl, rfl, hb⟩ | ⟨rfl, rfl, rfl, hb, rfl⟩ | ⟨rfl, rfl, rfl, hb, rfl, rfl⟩ | ⟨rfl, rfl, rfl, hb, rfl, rfl, rfl⟩ | ⟨rfl, rfl, rfl, hb, rfl, rfl, rfl, rfl⟩
    · have HB := Lib.hid hb
      clear hb
      go_wp2_with fail
      refine (C0.out _).mono ?_
      rintro e w2 ⟨rfl, k2⟩
      have K2 := Lib.hid (HK.out.trans k2)
      have hb2 := (k2.block _ (Array.getElem?_eq_some_iff.1 HB.out).1).trans HB.out
      have HB2 := Lib.hid hb2
      obtain ⟨⟨z0, z1, z2, z3, z4⟩, f0, f1, f2, f3, f4⟩ := skFive_at hb2
      have K3 := Lib.hid (K2.out.setCell (p := ⟨w.heap.size, 0, none⟩) (Nat.le_refl _) (.int .i64 n0))
      have HB3 := Lib.hid (Joins.block_setCell (i := 0) HB2.out (.int .i64 n0))
      clear k2 hb2
      cases b0 with
      | true =>
        go_wp2
        go_roundg 3
        case measure => omega
        case rel => exact ⟨K3.out, Or.inr (Or.inl ⟨rfl, rfl, rfl, HB3.out, rfl⟩)⟩
      | false =>
        have E : Hid (fitC F = 1) := Lib.hid (by rw [FC.out]; simp)
        have E2 : Hid (fitR F = ⟨0, 0, 0, 0, 0⟩) := Lib.hid (by unfold fitR; rw [E.out, if_neg (by decide)])
        go_wp2
        obtain ⟨⟨e0, e1, e2, e3, e4⟩, _⟩ := skFive_at (skFive_set HB3.out (.int .i64 0) (.int .i64 0) (.int .i64 0) (.int .i64 0) (.int .i64 0))
        rw [Exit.noGoto_ret]
        exact bodyPost_ret (v := .tuple #[.agg #[.int .i64 0, .int .i64 0, .int .i64 0, .int .i64 0, .int .i64 0], .int .i64 1]) (by simp [results, Tryz.results106, go_sem, e0, e1, e2, e3, e4]) rfl ⟨by rw [E.out, E2.out]; rfl, skFive_keeps K3.out (Nat.le_refl _) _ _ _ _ _⟩
    · have HB := Lib.hid hb
      clear hb
      go_wp2_with fail
      refine (C1.out _ HK.out).mono ?_
      rintro e w2 ⟨rfl, k2⟩
      have K2 := Lib.hid (HK.out.trans k2)
      have hb2 := (k2.block _ (Array.getElem?_eq_some_iff.1 HB.out).1).trans HB.out
      have HB2 := Lib.hid hb2
      obtain ⟨⟨z0, z1, z2, z3, z4⟩, f0, f1, f2, f3, f4⟩ := skFive_at hb2
      have K3 := Lib.hid (K2.out.setCell (p := ⟨w.heap.size, 1, none⟩) (Nat.le_refl _) (.int .i64 d))
      have HB3 := Lib.hid (Joins.block_setCell (i := 1) HB2.out (.int .i64 d))
      clear k2 hb2
      cases b1 with
      | true =>
        go_wp2
        go_roundg 2
        case measure => omega
        case rel => exact ⟨K3.out, Or.inr (Or.inr (Or.inl ⟨rfl, rfl, rfl, HB3.out, rfl, rfl⟩))⟩
      | false =>
        have E : Hid (fitC F = 2) := Lib.hid (by rw [FC.out]; simp)
        have E2 : Hid (fitR F = ⟨0, 0, 0, 0, 0⟩) := Lib.hid (by unfold fitR; rw [E.out, if_neg (by decide)])
        go_wp2
        obtain ⟨⟨e0, e1, e2, e3, e4⟩, _⟩ := skFive_at (skFive_set HB3.out (.int .i64 0) (.int .i64 0) (.int .i64 0) (.int .i64 0) (.int .i64 0))
        rw [Exit.noGoto_ret]
        exact bodyPost_ret (v := .tuple #[.agg #[.int .i64 0, .int .i64 0, .int .i64 0, .int .i64 0, .int .i64 0], .int .i64 2]) (by simp [results, Tryz.results106, go_sem, e0, e1, e2, e3, e4]) rfl ⟨by rw [E.out, E2.out]; rfl, skFive_keeps K3.out (Nat.le_refl _) _ _ _ _ _⟩
    · have HB := Lib.hid hb
      obtain ⟨⟨z0, z1, z2, z3, z4⟩, f0, f1, f2, f3, f4⟩ := skFive_at hb
      have K3 := Lib.hid (HK.out.setCell (p := ⟨w.heap.size, 2, none⟩) (Nat.le_refl _) (.int .i64 c))
      have HB3 := Lib.hid (Joins.block_setCell (i := 2) HB.out (.int .i64 c))
      have bn := BN.out
      have bb := BB.out
      clear hb
      cases b2 with
      | true =>
        go_wp2_with (go_at_call 135; refine (C2.out _).mono ?_; rintro e w2 ⟨rfl, rfl⟩)
        go_roundg 1
        case measure => omega
        case rel => exact ⟨K3.out, Or.inr (Or.inr (Or.inr (Or.inl ⟨rfl, rfl, rfl, HB3.out, rfl, rfl, rfl⟩)))⟩
      | false =>
        have E : Hid (fitC F = 3) := Lib.hid (by rw [FC.out]; simp)
        have E2 : Hid (fitR F = ⟨0, 0, 0, 0, 0⟩) := Lib.hid (by unfold fitR; rw [E.out, if_neg (by decide)])
        go_wp2_with (go_at_call 135; refine (C2.out _).mono ?_; rintro e w2 ⟨rfl, rfl⟩)
        obtain ⟨⟨e0, e1, e2, e3, e4⟩, _⟩ := skFive_at (skFive_set HB3.out (.int .i64 0) (.int .i64 0) (.int .i64 0) (.int .i64 0) (.int .i64 0))
        rw [Exit.noGoto_ret]
        exact bodyPost_ret (v := .tuple #[.agg #[.int .i64 0, .int .i64 0, .int .i64 0, .int .i64 0, .int .i64 0], .int .i64 3]) (by simp [results, Tryz.results106, go_sem, e0, e1, e2, e3, e4]) rfl ⟨by rw [E.out, E2.out]; rfl, skFive_keeps K3.out (Nat.le_refl _) _ _ _ _ _⟩
    · have HB := Lib.hid hb
      obtain ⟨⟨z0, z1, z2, z3, z4⟩, f0, f1, f2, f3, f4⟩ := skFive_at hb
      clear hb
      go_wp2_with (go_at_call 136; refine (CM.out _).mono ?_; rintro e w2 ⟨rfl, rfl⟩)
      refine (C3.out _).mono ?_
      rintro e w2 ⟨rfl, k2⟩
      have K2 := Lib.hid (HK.out.trans k2)
      have hb2 := (k2.block _ (Array.getElem?_eq_some_iff.1 HB.out).1).trans HB.out
      have HB2 := Lib.hid hb2
      clear z0 z1 z2 z3 z4 f0 f1 f2 f3 f4
      obtain ⟨⟨z0, z1, z2, z3, z4⟩, f0, f1, f2, f3, f4⟩ := skFive_at hb2
      have K3 := Lib.hid (K2.out.setCell (p := ⟨w.heap.size, 4, none⟩) (Nat.le_refl _) (.int .i64 n3))
      have HB3 := Lib.hid (Joins.block_setCell (i := 4) HB2.out (.int .i64 n3))
      clear k2 hb2
      cases b3 with
      | true =>
        go_wp2
        go_roundg 0
        case measure => omega
        case rel => exact ⟨K3.out, Or.inr (Or.inr (Or.inr (Or.inr ⟨rfl, rfl, rfl, HB3.out, rfl, rfl, rfl, rfl⟩)))⟩
      | false =>
        have E : Hid (fitC F = 4) := Lib.hid (by rw [FC.out]; simp)
        have E2 : Hid (fitR F = ⟨0, 0, 0, 0, 0⟩) := Lib.hid (by unfold fitR; rw [E.out, if_neg (by decide)])
        go_wp2
        obtain ⟨⟨e0, e1, e2, e3, e4⟩, _⟩ := skFive_at (skFive_set HB3.out (.int .i64 0) (.int .i64 0) (.int .i64 0) (.int .i64 0) (.int .i64 0))
        rw [Exit.noGoto_ret]
        exact bodyPost_ret (v := .tuple #[.agg #[.int .i64 0, .int .i64 0, .int .i64 0, .int .i64 0, .int .i64 0], .int .i64 4]) (by simp [results, Tryz.results106, go_sem, e0, e1, e2, e3, e4]) rfl ⟨by rw [E.out, E2.out]; rfl, skFive_keeps K3.out (Nat.le_refl _) _ _ _ _ _⟩
    · have HB := Lib.hid hb
      obtain ⟨⟨z0, z1, z2, z3, z4⟩, f0, f1, f2, f3, f4⟩ := skFive_at hb
      have E : Hid (fitC F = 0) := Lib.hid (by rw [FC.out]; simp)
      have E2 : Hid (fitR F = ⟨n0, d, c, 0, n3⟩) := Lib.hid (by unfold fitR; rw [E.out, if_pos rfl]; exact RR.out rfl rfl rfl rfl)
      clear hb
      go_wp2
      obtain ⟨⟨e0, e1, e2, e3, e4⟩, _⟩ := skFive_at (skFive_set HB.out (.int .i64 n0) (.int .i64 d) (.int .i64 c) (.int .i64 0) (.int .i64 n3))
      first
        | exact bodyPost_ret (v := .tuple #[.agg #[.int .i64 n0, .int .i64 d, .int .i64 c, .int .i64 0, .int .i64 n3], .int .i64 0]) (by simp [results, Tryz.results106, go_sem, e0, e1, e2, e3, e4]) rfl ⟨by rw [E.out, E2.out]; rfl, skFive_keeps HK.out (Nat.le_refl _) _ _ _ _ _⟩
        | (rw [Exit.noGoto_ret]; exact bodyPost_ret (v := .tuple #[.agg #[.int .i64 n0, .int .i64 d, .int .i64 c, .int .i64 0, .int .i64 n3], .int .i64 0]) (by simp [results, Tryz.results106, go_sem, e0, e1, e2, e3, e4]) rfl ⟨by rw [E.out, E2.out]; rfl, skFive_keeps HK.out (Nat.le_refl _) _ _ _ _ _⟩)
end Go.Proofs.YtomonhghioamfaaGreatDoor
