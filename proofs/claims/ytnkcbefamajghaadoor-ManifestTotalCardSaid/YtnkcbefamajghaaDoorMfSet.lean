
/- The document's files of the carrier: a number, a cell, the first row, the end row, an order's row. csv's Parse, as manifest asks it. What manifest's Parse answers, as values. -/
import Derived.Test.YtnkcbefamajghaaDoorMfMath
import Derived.Test.YtnkcbefamajghaaDoorSkRefQ
import Derived.OwnWalk
import Derived.Maps.AppendAt
set_option linter.unusedVariables false
namespace Go.Proofs.YtnkcbefamajghaaDoor
open Go.ChangeShapes Go.WideShapes Go.ChangeAt Go.RowKit Ky Rw Csv Mft
open Stk (numN fa wide num_put num_yes num_le put_plain put_short plain_put wide_same wide_zero)

set_option maxHeartbeats 4000000 in
theorem mr_put (n : Int) (w : World) (hn : I64 n) : Calls Tryd.prog 26 #[.int .i64 n] w fun e w' => e = .returned (.string ⟨(Mon.put n).toArray⟩) ∧ Keeps w w' := by
  have C := Lib.hid (moRput_any n w hn)
  have wn : wrap64 n = n := i64w hn.1 hn.2
  obtain ⟨P, hP⟩ : ∃ P : ByteArray, ⟨(Mon.put n).toArray⟩ = P := ⟨_, rfl⟩
  rw [hP] at C ⊢
  clear hP hn
  go_enter Tryd.func26, Tryd.ntmps26
  go_wp2_with fail
  refine C.out.mono ?_
  rintro e w1 ⟨rfl, k⟩
  go_wp2
  go_ret
  exact ⟨rfl, k⟩
theorem mr_ext_take (s : ByteArray) (h : 5 ≤ s.size) : (s.extract 0 5).data.toList = s.data.toList.take 5 := by
  rw [← ByteArray.toList_eq, extract_list]; rfl
theorem mr_ext_drop (s : ByteArray) : (s.extract 5 s.size).data.toList = s.data.toList.drop 5 := by
  rw [← ByteArray.toList_eq, extract_list, List.take_of_length_le (by rw [List.length_drop, len_data]; exact Nat.le_refl _)]
theorem mr_short {l : List UInt8} (h : l.length < 6) (h1 : l ≠ wNo) (h2 : l ≠ wRef) : cellC l = -1 ∧ cellQ l = 0 := by
  have hc : cellC l = -1 := by
    unfold cellC
    rw [if_neg h1, if_neg h2, if_neg]
    rintro ⟨e1, e2⟩
    have h5 := congrArg List.length e1
    rw [List.length_take] at h5
    have : l.drop 5 = [] := List.drop_eq_nil_of_le (by simp at h5; omega)
    rw [this, num_nil] at e2
    omega
  exact ⟨hc, by unfold cellQ; rw [hc, if_neg (by omega)]⟩
theorem mr_other {l : List UInt8} (h1 : l ≠ wNo) (h2 : l ≠ wRef) (h3 : l.take 5 ≠ wDone) : cellC l = -1 ∧ cellQ l = 0 := by
  have hc : cellC l = -1 := by
    unfold cellC
    rw [if_neg h1, if_neg h2, if_neg (fun e => h3 e.1)]
  exact ⟨hc, by unfold cellQ; rw [hc, if_neg (by omega)]⟩
theorem mr_done {l : List UInt8} {m : Int} (h1 : l ≠ wNo) (h2 : l ≠ wRef) (h3 : l.take 5 = wDone) (hm : numN (l.drop 5) 999 = m) : cellC l = (if 0 ≤ m then 1 else -1) ∧ cellQ l = (if 0 ≤ m then m else 0) := by
  have hc : cellC l = (if 0 ≤ m then 1 else -1) := by
    unfold cellC
    rw [if_neg h1, if_neg h2, hm]
    by_cases h : 0 ≤ m
    · rw [if_pos ⟨h3, h⟩, if_pos h]
    · rw [if_neg (fun e => h e.2), if_neg h]
  refine ⟨hc, ?_⟩
  unfold cellQ
  rw [hc, hm]
  by_cases h : 0 ≤ m
  · rw [if_pos h, if_pos rfl, if_pos h]
  · rw [if_neg h, if_neg (by omega), if_neg h]
set_option maxHeartbeats 4000000 in
set_option maxRecDepth 100000 in
theorem mr_read (s : ByteArray) (w : World) (hs : s.size ≤ maxLen) :
    Calls Tryd.prog 51 #[.string s] w fun e w' => e = .returned (.tuple #[.int .i64 (cellC s.data.toList), .int .i64 (cellQ s.data.toList)]) ∧ Keeps w w' := by
  go_enter Tryd.func51, Tryd.ntmps51
  by_cases h0 : s = ⟨#[45]⟩
  · subst h0
    go_wp2
    go_ret2
    exact ⟨skRet2 (by decide) (by decide), Keeps.refl _⟩
  have n0 : Hid (s.data.toList ≠ wNo) := Lib.hid fun e => h0 (bytes_inj (by rw [e]))
  obtain ⟨a1, a2, a3⟩ := sv_neS (S := s) (l := [45]) (fun e => h0 (bytes_inj (by rw [e])))
  by_cases h1 : s = ⟨#[114, 101, 102, 117, 115, 101, 100]⟩
  · subst h1
    clear a1 a2 a3 h0
    go_wp2
    go_ret2
    exact ⟨skRet2 (by decide) (by decide), Keeps.refl _⟩
  have n1 : Hid (s.data.toList ≠ wRef) := Lib.hid fun e => h1 (bytes_inj (by rw [e]))
  obtain ⟨b1, b2, b3⟩ := sv_neS (S := s) (l := [114, 101, 102, 117, 115, 101, 100]) (fun e => h1 (bytes_inj (by rw [e])))
  by_cases h6 : s.size < 6
  · have E := Lib.hid (mr_short (l := s.data.toList) (by rw [len_data]; exact h6) n0.out n1.out)
    have t : (s.size : Int) < 6 := by omega
    clear h6
    go_wp2
    go_ret2
    exact ⟨skRet2 (by rw [E.out.1]) (by rw [E.out.2]), Keeps.refl _⟩
  have t : ¬ ((s.size : Int) < 6) := by omega
  have td : decide ((s.size : Int) < 6) = false := decide_eq_false t
  have h5 : 5 ≤ s.size := by omega
  have L5 := Lib.hid (mr_ext_take s h5)
  obtain ⟨X, hX⟩ : ∃ X, s.extract 0 5 = X := ⟨_, rfl⟩
  rw [hX] at L5
  clear h6
  by_cases hx : X = ⟨#[100, 111, 110, 101, 58]⟩
  rotate_left
  · have E := Lib.hid (mr_other (l := s.data.toList) n0.out n1.out (fun e => hx (bytes_inj (by rw [L5.out, e]))))
    obtain ⟨c1, c2, c3⟩ := sv_neS (S := X) (l := [100, 111, 110, 101, 58]) (fun e => hx (bytes_inj (by rw [e])))
    clear hx
    go_wp2
    go_ret2
    exact ⟨skRet2 (by rw [E.out.1]) (by rw [E.out.2]), Keeps.refl _⟩
  subst hx
  obtain ⟨Y, hY⟩ : ∃ Y, s.extract 5 s.size = Y := ⟨_, rfl⟩
  have LY : Hid (Y.data.toList = s.data.toList.drop 5) := Lib.hid (by rw [← hY]; exact mr_ext_drop s)
  obtain ⟨m, hm⟩ : ∃ m, numN Y.data.toList 999 = m := ⟨_, rfl⟩
  have YS : Y.size ≤ maxLen := by
    have := congrArg List.length LY.out
    rw [len_data, List.length_drop, len_data] at this
    omega
  have C : Hid (∀ W, Calls Tryd.prog 30 #[.string Y, .int .i64 999] W fun e w' => e = .returned (.int .i64 m) ∧ Keeps W w') := Lib.hid fun W => hm ▸ sk_number Y 999 W YS (by omega)
  have E := Lib.hid (mr_done (l := s.data.toList) (m := m) n0.out n1.out (by rw [← L5.out]) (by rw [← LY.out, hm]))
  have hss : s.size ≤ s.size := Nat.le_refl _
  clear YS hm L5 LY
  go_wp2_with fail
  refine (C.out _).mono ?_
  rintro e w1 ⟨rfl, k⟩
  by_cases h : 0 ≤ m
  · have tm : ¬ m < 0 := by omega
    have E2 : Hid (cellC s.data.toList = 1 ∧ cellQ s.data.toList = m) := Lib.hid ⟨by rw [E.out.1, if_pos h], by rw [E.out.2, if_pos h]⟩
    clear h
    go_wp2
    go_ret2
    exact ⟨skRet2 E2.out.1.symm E2.out.2.symm, k⟩
  · have tm : m < 0 := by omega
    have E2 : Hid (cellC s.data.toList = -1 ∧ cellQ s.data.toList = 0) := Lib.hid ⟨by rw [E.out.1, if_neg h], by rw [E.out.2, if_neg h]⟩
    clear h
    go_wp2
    go_ret2
    exact ⟨skRet2 E2.out.1.symm E2.out.2.symm, k⟩
theorem mr_cell_of (f : List UInt8) (h : f.length ≤ 200000) : ∃ S : ByteArray, ⟨f.toArray⟩ = S ∧ ∀ w, Calls Tryd.prog 51 #[.string S] w fun e w' => e = .returned (.tuple #[.int .i64 (cellC f), .int .i64 (cellQ f)]) ∧ Keeps w w' := by
  refine ⟨_, rfl, fun w => ?_⟩
  have := mr_read ⟨f.toArray⟩ w (by rw [size_mk]; unfold maxLen; omega)
  rw [data_mk] at this
  exact this
set_option maxHeartbeats 4000000 in
set_option maxRecDepth 100000 in
theorem mr_head (v : Value) (F : List (List UInt8)) (w : World) (hF : StrsAt w v F) (hne : F ≠ []) (hl : F.length ≤ 1000000) (hs : SkShort F) :
    Calls Tryd.prog 29 #[v] w fun e w' => e = .returned (.tuple #[.int .i64 ((headC F).1 : Int), .int .i64 (headC F).2]) ∧ Keeps w w' := by
  obtain ⟨p, c, rfl, _, hp, hc⟩ := strs_at hF
  have h0 : 0 < F.length := List.length_pos_iff.2 hne
  obtain ⟨a, rfl⟩ := hp h0
  obtain ⟨q0, q1⟩ := hc a rfl
  obtain ⟨n, hn⟩ : ∃ n, F.length = n := ⟨_, rfl⟩
  have HN := Lib.hid hn
  have q0 := q0 h0
  obtain ⟨S0, h1⟩ : ∃ S : ByteArray, ⟨(fa F 0).toArray⟩ = S := ⟨_, rfl⟩
  obtain ⟨S1, e1, C⟩ := sk_num (fa F 1) 1073741824 (hs 1) (by omega)
  obtain ⟨m, hm⟩ : ∃ n, numN (fa F 1) 1073741824 = n := ⟨_, rfl⟩
  have C2 := Lib.hid (hm ▸ C)
  have E2 := Lib.hid hm
  unfold sv at q0 q1
  rw [h1] at q0
  have H1 : Hid (S0.data.toList = fa F 0) := Lib.hid (by rw [← h1, data_mk])
  have Q1 : Hid (1 < n → w.cell? ⟨a.block, a.off + 1, none⟩ = some (.string S1)) := Lib.hid fun h => by rw [← e1]; exact q1 1 (by omega) (by omega)
  have CW : Hid (∀ W, Calls Tryd.prog 31 #[.slice (some a) n c, .int .i64 2] W fun e w' => e = .returned (.int .i64 (wide n 2 : Nat)) ∧ W = w') := Lib.hid fun W => sk_wide (some a) n c 2 W (by omega) (by omega)
  rw [hn] at h0 ⊢
  have h0' : (0 : Int) < (n : Int) := by omega
  clear hF hne hl hs hp hc q1 C e1 hm h1 hn
  go_enter Tryd.func29, Tryd.ntmps29
  by_cases hx : S0 = ⟨#[109, 97, 110, 105, 102, 101, 115, 116]⟩
  rotate_left
  · have E : Hid (headC F = (1, 7)) := Lib.hid (by
      unfold headC
      rw [if_pos (fun e => hx (bytes_inj (by rw [H1.out, e])))])
    obtain ⟨t4, t2, t3⟩ := sv_neS (S := S0) (l := [109, 97, 110, 105, 102, 101, 115, 116]) (fun e => hx (bytes_inj (by rw [e])))
    clear hx
    go_wp2
    go_ret2
    exact ⟨skRet2 (by rw [E.out]; rfl) (by rw [E.out]), Keeps.refl _⟩
  have X : Hid (fa F 0 = wName) := Lib.hid (by rw [← H1.out, hx])
  subst hx
  by_cases hw : wide n 2 = 0
  rotate_left
  · have E : Hid (headC F = (wide n 2, 1)) := Lib.hid (by unfold headC; rw [if_neg (by simp [X.out]), HN.out, if_pos hw])
    obtain ⟨k, hk⟩ : ∃ k, wide n 2 = k := ⟨_, rfl⟩
    rw [hk] at CW E hw
    have hk0 : (0 : Int) < (k : Int) := by omega
    clear hw hk
    go_wp2_with (go_at_call 31; refine (CW.out _).mono ?_; rintro e w1 ⟨rfl, rfl⟩)
    go_ret2
    exact ⟨skRet2 (by rw [E.out]) (by rw [E.out]), Keeps.refl _⟩
  have hn2 : n = 2 := wide_zero hw
  subst hn2
  have q1 := Q1.out (by omega)
  have E0 : Hid (headC F = if numN (fa F 1) 1073741824 < 1 then (2, 3) else (0, 0)) := Lib.hid (by unfold headC; rw [if_neg (by simp [X.out]), HN.out, if_neg (by rw [hw]; simp)])
  rw [hw] at CW
  clear hw Q1
  by_cases hn : m < 1
  · have E : Hid (headC F = (2, 3)) := Lib.hid (by rw [E0.out, E2.out, if_pos hn])
    go_wp2_with (first
      | (go_at_call 31; refine (CW.out _).mono ?_; rintro e w1 ⟨rfl, rfl⟩)
      | (go_at_call 30; refine (C2.out _).mono ?_; rintro e w2 ⟨rfl, k2⟩))
    go_ret2
    exact ⟨skRet2 (by rw [E.out]; rfl) (by rw [E.out]), k2⟩
  · have E : Hid (headC F = (0, 0)) := Lib.hid (by rw [E0.out, E2.out, if_neg hn])
    go_wp2_with (first
      | (go_at_call 31; refine (CW.out _).mono ?_; rintro e w1 ⟨rfl, rfl⟩)
      | (go_at_call 30; refine (C2.out _).mono ?_; rintro e w2 ⟨rfl, k2⟩))
    go_ret2
    exact ⟨skRet2 (by rw [E.out]; rfl) (by rw [E.out]), k2⟩
theorem mr_gets (f : List UInt8) (h : f.length ≤ 200000) : ∃ S : ByteArray, ⟨f.toArray⟩ = S ∧ ∀ w, Calls Tryd.prog 50 #[.string S] w fun e w' => e = .returned (.tuple #[.int .i64 (Mon.getV f), .bool (Mon.getB f)]) ∧ Keeps w w' := by
  refine ⟨_, rfl, fun w => ?_⟩
  have := moRget_any ⟨f.toArray⟩ w (by rw [size_mk]; unfold maxLen; omega)
  rw [data_mk] at this
  exact this
theorem ne_tests {a b : Int} (h : a ≠ b) : (a == b) = false ∧ (a != b) = true := by
  have t1 : (a == b) = false := by rw [beq_eq_false_iff_ne]; exact h
  exact ⟨t1, by rw [bne, t1]; rfl⟩
set_option maxHeartbeats 4000000 in
set_option maxRecDepth 100000 in
theorem mr_tail (v : Value) (F : List (List UInt8)) (M T : Int) (w : World) (hF : StrsAt w v F) (h3 : F.length = 3) (hs : SkShort F) (hM : I64 M) (hT : I64 T) :
    Calls Tryd.prog 32 #[v, .int .i64 M, .int .i64 T] w fun e w' => e = .returned (.tuple #[.int .i64 ((tailC F M T).1 : Int), .int .i64 (tailC F M T).2]) ∧ Keeps w w' := by
  obtain ⟨p, c, rfl, _, hp, hc⟩ := strs_at hF
  obtain ⟨a, rfl⟩ := hp (by omega)
  obtain ⟨_, q⟩ := hc a rfl
  have q1 := q 1 (by omega) (by omega)
  have q2 := q 2 (by omega) (by omega)
  obtain ⟨S1, e1, C1⟩ := mr_gets (fa F 1) (hs 1)
  obtain ⟨S2, e2, C2⟩ := mr_gets (fa F 2) (hs 2)
  obtain ⟨g1, hg1⟩ : ∃ n, Mon.getV (fa F 1) = n := ⟨_, rfl⟩
  obtain ⟨b1, hb1⟩ : ∃ b, Mon.getB (fa F 1) = b := ⟨_, rfl⟩
  obtain ⟨g2, hg2⟩ : ∃ n, Mon.getV (fa F 2) = n := ⟨_, rfl⟩
  obtain ⟨b2, hb2⟩ : ∃ b, Mon.getB (fa F 2) = b := ⟨_, rfl⟩
  rw [hg1, hb1] at C1
  rw [hg2, hb2] at C2
  have D1 := Lib.hid C1
  have D2 := Lib.hid C2
  unfold sv at q1 q2
  rw [e1] at q1
  rw [e2] at q2
  have E0 : Hid (tailC F M T = if b1 = false ∨ g1 < 0 then (2, 3) else if g1 ≠ M then (2, 4) else if b2 = false ∨ g2 < 0 then (3, 3) else if g2 ≠ T then (3, 5) else (0, 0)) := Lib.hid (by unfold tailC; rw [hb1, hg1, hb2, hg2])
  have wM : wrap64 M = M := i64w hM.1 hM.2
  have wT : wrap64 T = T := i64w hT.1 hT.2
  rw [h3]
  have Q2 : Hid (∀ W, Keeps w W → W.cell? ⟨a.block, a.off + 2, none⟩ = some (.string S2)) := Lib.hid fun W k => cell_keeps k q2
  clear hF hs hp hc e1 e2 hg1 hb1 hg2 hb2 C1 C2 q hM hT h3 q2
  go_enter Tryd.func32, Tryd.ntmps32
  go_wp2_with fail
  refine (D1.out _).mono ?_
  rintro e w1 ⟨rfl, k1⟩
  have q2 := Q2.out _ k1
  go_wp2_with fail
  refine (D2.out _).mono ?_
  rintro e w2 ⟨rfl, k2⟩
  have K := Lib.hid (k1.trans k2)
  clear k1 k2 q1 q2 D1 D2 Q2
  go_upto_region 3 with (fail)
  cases b1 with
  | false =>
    have E : Hid (tailC F M T = (2, 3)) := Lib.hid (by rw [E0.out, if_pos (Or.inl rfl)])
    go_wp2
    go_ret2
    exact ⟨skRet2 (by rw [E.out]; rfl) (by rw [E.out]), K.out⟩
  | true =>
  by_cases h1 : g1 < 0
  · have E : Hid (tailC F M T = (2, 3)) := Lib.hid (by rw [E0.out, if_pos (Or.inr h1)])
    go_wp2
    go_ret2
    exact ⟨skRet2 (by rw [E.out]; rfl) (by rw [E.out]), K.out⟩
  have n1 : ¬ (true = false ∨ g1 < 0) := by simp [h1]
  by_cases h2 : g1 = M
  rotate_left
  · have E : Hid (tailC F M T = (2, 4)) := Lib.hid (by rw [E0.out, if_neg n1, if_pos h2])
    obtain ⟨t1, t2⟩ := ne_tests h2
    clear h2
    go_wp2
    go_ret2
    exact ⟨skRet2 (by rw [E.out]; rfl) (by rw [E.out]), K.out⟩
  have E1 : Hid (tailC F M T = if b2 = false ∨ g2 < 0 then (3, 3) else if g2 ≠ T then (3, 5) else (0, 0)) := Lib.hid (by rw [E0.out, if_neg n1, if_neg (fun h => h h2)])
  clear n1 E0
  subst h2
  cases b2 with
  | false =>
    have E : Hid (tailC F g1 T = (3, 3)) := Lib.hid (by rw [E1.out, if_pos (Or.inl rfl)])
    go_wp2
    go_ret2
    exact ⟨skRet2 (by rw [E.out]; rfl) (by rw [E.out]), K.out⟩
  | true =>
  by_cases h4 : g2 < 0
  · have E : Hid (tailC F g1 T = (3, 3)) := Lib.hid (by rw [E1.out, if_pos (Or.inr h4)])
    go_wp2
    go_ret2
    exact ⟨skRet2 (by rw [E.out]; rfl) (by rw [E.out]), K.out⟩
  have n2 : ¬ (true = false ∨ g2 < 0) := by simp [h4]
  by_cases h5 : g2 = T
  rotate_left
  · have E : Hid (tailC F g1 T = (3, 5)) := Lib.hid (by rw [E1.out, if_neg n2, if_pos h5])
    obtain ⟨t1, t2⟩ := ne_tests h5
    clear h5 n2
    go_wp2
    go_ret2
    exact ⟨skRet2 (by rw [E.out]; rfl) (by rw [E.out]), K.out⟩
  have E : Hid (tailC F g1 T = (0, 0)) := Lib.hid (by rw [E1.out, if_neg n2, if_neg (fun h => h h5)])
  clear n2 E1
  subst h5
  go_wp2
  go_ret2
  exact ⟨skRet2 (by rw [E.out]; rfl) (by rw [E.out]), K.out⟩
/-- What 'middle' leaves. -/
def MfMid (F : List (List UInt8)) (l : Int) (w : World) (e : Ending) (w' : World) : Prop :=
  ∃ v, e = .returned (.tuple #[v, .int .i64 ((rowC F l).1 : Int), .int .i64 (rowC F l).2]) ∧ rowK.Own w.heap.size w' v (if (rowC F l).1 = 0 then rowsG (gOf F) else []) ∧ Keeps w w'
theorem mid_nil {F : List (List UInt8)} {l : Int} {w w' : World} {c : Nat} {d : Int} (h : rowC F l = (c, d)) (hc : c ≠ 0) (k : Keeps w w') {e : Ending} (he : e = .returned (.tuple #[.slice none 0 0, .int .i64 (c : Int), .int .i64 d])) : MfMid F l w e w' :=
  ⟨.slice none 0 0, by rw [he, h], by rw [h, if_neg hc]; exact rowK.own_nil _ _, k⟩
/-- One row, in a block of its own. -/
theorem mr_src1 {w : World} (x : R) : rowK.Src (w.alloc (.cells #[.int .i64 x.o, .int .i64 x.d, .int .i64 x.c, .int .i64 x.a, .int .i64 x.q] tRw)) (.slice (some ⟨w.heap.size, 0, none⟩) 1 1) [x] := sk_rsrc_row (heap_alloc_new w _)
theorem one_len (o d c q : Int) : (one o d c q).length ≤ 1 := by unfold one; split <;> simp
theorem one_yes {o d c q : Int} (h : 0 < c) : one o d c q = [⟨o, d, c, 0, q⟩] := by unfold one; rw [if_pos h]
theorem one_no {o d c q : Int} (h : ¬ 0 < c) : one o d c q = [] := by unfold one; rw [if_neg h]
set_option maxHeartbeats 16000000 in
set_option maxRecDepth 100000 in
theorem mr_middle (v : Value) (F : List (List UInt8)) (l : Int) (w : World) (hF : StrsAt w v F) (h3 : F.length = 3) (hs : SkShort F) :
    Calls Tryd.prog 33 #[v, .int .i64 l] w (MfMid F l w) := by
  obtain ⟨p, c, rfl, _, hp, hc⟩ := strs_at hF
  obtain ⟨a, rfl⟩ := hp (by omega)
  obtain ⟨q0, q⟩ := hc a rfl
  have q0 := q0 (by omega)
  have q1 := q 1 (by omega) (by omega)
  have q2 := q 2 (by omega) (by omega)
  obtain ⟨S0, e0, C0⟩ := sk_num (fa F 0) 60 (hs 0) (by omega)
  obtain ⟨S1, e1, C1⟩ := mr_cell_of (fa F 1) (hs 1)
  obtain ⟨S2, e2, C2⟩ := mr_cell_of (fa F 2) (hs 2)
  obtain ⟨o, ho⟩ : ∃ n, numN (fa F 0) 60 = n := ⟨_, rfl⟩
  obtain ⟨ca, hca⟩ : ∃ n, cellC (fa F 1) = n := ⟨_, rfl⟩
  obtain ⟨qa, hqa⟩ : ∃ n, cellQ (fa F 1) = n := ⟨_, rfl⟩
  obtain ⟨cb, hcb⟩ : ∃ n, cellC (fa F 2) = n := ⟨_, rfl⟩
  obtain ⟨qb, hqb⟩ : ∃ n, cellQ (fa F 2) = n := ⟨_, rfl⟩
  rw [ho] at C0
  rw [hca, hqa] at C1
  rw [hcb, hqb] at C2
  have D0 := Lib.hid C0
  have D1 := Lib.hid C1
  have D2 := Lib.hid C2
  unfold sv at q0 q1 q2
  rw [e0] at q0
  rw [e1] at q1
  rw [e2] at q2
  have GO : Hid (gOf F = ⟨o, ca, qa, cb, qb⟩) := Lib.hid (by unfold gOf; rw [ho, hca, hqa, hcb, hqb])
  have E0 : Hid (rowC F l = if o < 1 then (1, 3) else if ca < 0 then (2, 3) else if cb < 0 then (3, 3) else if ca = 0 ∧ cb = 0 then (2, 3) else if o ≤ l then (1, 6) else (0, 0)) := Lib.hid (by unfold rowC; rw [ho, hca, hcb])
  have Q1 : Hid (∀ W, Keeps w W → W.cell? ⟨a.block, a.off + 1, none⟩ = some (.string S1)) := Lib.hid fun W k => cell_keeps k q1
  have Q2 : Hid (∀ W, Keeps w W → W.cell? ⟨a.block, a.off + 2, none⟩ = some (.string S2)) := Lib.hid fun W k => cell_keeps k q2
  rw [h3]
  clear hF hs hp hc e0 e1 e2 ho hca hqa hcb hqb C0 C1 C2 q h3 q1 q2
  go_enter Tryd.func33, Tryd.ntmps33
  go_wp2_with fail
  refine (D0.out _).mono ?_
  rintro e w1 ⟨rfl, k1⟩
  have q1 := Q1.out _ k1
  go_wp2_with fail
  refine (D1.out _).mono ?_
  rintro e w2 ⟨rfl, k2⟩
  have K2 := Lib.hid (k1.trans k2)
  have q2 := Q2.out _ K2.out
  clear k1 k2 q0 q1 D0 D1 Q1
  go_wp2_with fail
  refine (D2.out _).mono ?_
  rintro e w3 ⟨rfl, k3⟩
  have K := Lib.hid (K2.out.trans k3)
  clear k3 q2 D2 Q2 K2
  go_upto_region 4 with (fail)
  by_cases h0 : o < 1
  · have E : Hid (rowC F l = (1, 3)) := Lib.hid (by rw [E0.out, if_pos h0])
    go_wp2
    go_ret3
    exact mid_nil E.out (by decide) K.out rfl
  by_cases h1 : ca < 0
  · have E : Hid (rowC F l = (2, 3)) := Lib.hid (by rw [E0.out, if_neg h0, if_pos h1])
    go_wp2
    go_ret3
    exact mid_nil E.out (by decide) K.out rfl
  by_cases h2 : cb < 0
  · have E : Hid (rowC F l = (3, 3)) := Lib.hid (by rw [E0.out, if_neg h0, if_neg h1, if_pos h2])
    go_wp2
    go_ret3
    exact mid_nil E.out (by decide) K.out rfl
  have E1 : Hid (rowC F l = if ca = 0 ∧ cb = 0 then (2, 3) else if o ≤ l then (1, 6) else (0, 0)) := Lib.hid (by rw [E0.out, if_neg h0, if_neg h1, if_neg h2])
  go_upto_region 10 with (fail)
  clear E0
  by_cases h3 : ca = 0 ∧ cb = 0
  · have E : Hid (rowC F l = (2, 3)) := Lib.hid (by rw [E1.out, if_pos h3])
    obtain ⟨rfl, rfl⟩ := h3
    go_wp2
    go_ret3
    exact mid_nil E.out (by decide) K.out rfl
  have E2 : Hid (rowC F l = if o ≤ l then (1, 6) else (0, 0)) := Lib.hid (by rw [E1.out, if_neg h3])
  clear E1
  obtain ⟨b42, hb42⟩ : ∃ b : Bool, b = false := ⟨false, rfl⟩
  go_cut [42] (fun v W => v = .bool false ∧ W = w3)
  case first =>
    by_cases z : ca = 0
    · have y : cb ≠ 0 := fun e => h3 ⟨z, e⟩
      obtain ⟨t1, t2⟩ := ne_tests y
      clear h3 y
      subst z
      go_wp2
      go_meet
      case rel => exact ⟨rfl, rfl⟩
    · obtain ⟨t1, t2⟩ := ne_tests z
      clear h3 z
      go_wp2
      go_meet
      case rel => exact ⟨rfl, rfl⟩
  case rest =>
  obtain ⟨rfl, rfl⟩ := hcut
  clear h3 hb42
  by_cases h4 : o ≤ l
  · have E : Hid (rowC F l = (1, 6)) := Lib.hid (by rw [E2.out, if_pos h4])
    go_wp2
    go_ret3
    exact mid_nil E.out (by decide) K.out rfl
  have E : Hid (rowC F l = (0, 0)) := Lib.hid (by rw [E2.out, if_neg h4])
  clear E2
  go_upto_if 47 with (fail)
  go_cut [12] (fun v W => rowK.Own w.heap.size W v (one o 2 ca qa) ∧ Keeps w W)
  case first =>
    by_cases z : 0 < ca
    · have zd : decide (0 < ca) = true := decide_eq_true z
      obtain ⟨p', c', W', r1, r2, r3⟩ := rowK.app_row (wc.alloc (.cells #[.int .i64 o, .int .i64 2, .int .i64 ca, .int .i64 0, .int .i64 qa] tRw)) w.heap.size (.slice none 0 0) [] (.slice (some ⟨wc.heap.size, 0, none⟩) 1 1) [⟨o, 2, ca, 0, qa⟩] (rowK.own_nil _ _) (mr_src1 ⟨o, 2, ca, 0, qa⟩) (by simp) (Nat.le_trans K.out.size (by simp))
      have R1 : Hid ((Builtin.append_ #[rowK.ts, rowK.ts] rowK.ts #[.slice none 0 0, .slice (some ⟨wc.heap.size, 0, none⟩) 1 1]).run Tryd.prog (wc.alloc (.cells #[.int .i64 o, .int .i64 2, .int .i64 ca, .int .i64 0, .int .i64 qa] tRw)) = .ok (.slice p' 1 c') W') := Lib.hid r1
      have KW : Hid (Keeps w W') := Lib.hid (sk_mono (v := .slice none 0 0) (kept_alloc K.out _) r3 (fun j hj => by cases hj))
      have OW : Hid (rowK.Own w.heap.size W' (.slice p' 1 c') (one o 2 ca qa)) := Lib.hid (by rw [one_yes z]; exact r2)
      clear r1 r2 r3
      go_wp2_with (at_builtin; refine wpAppKnown rfl _ _ _ _ rfl _ _ _ _ rfl rfl R1.out ?_)
      go_meet
      case rel => exact ⟨OW.out, KW.out⟩
    · have zd : decide (0 < ca) = false := decide_eq_false z
      have OW : Hid (rowK.Own w.heap.size wc (.slice none 0 0) (one o 2 ca qa)) := Lib.hid (by rw [one_no z]; exact rowK.own_nil _ _)
      have zz : ca ≤ 0 := by omega
      clear z
      go_wp2
      go_meet
      case rel => exact ⟨OW.out, K.out⟩
  case rest =>
  obtain ⟨ho1, hk1⟩ := hcut
  obtain ⟨p1, c1, rfl⟩ := RowK.own_shape rowK ho1
  obtain ⟨n1, hn1⟩ : ∃ n, (one o 2 ca qa).length = n := ⟨_, rfl⟩
  have N1 : Hid (n1 ≤ 1) := Lib.hid (by rw [← hn1]; exact one_len _ _ _ _)
  rw [hn1] at ho1 ⊢
  have HN1 := Lib.hid hn1
  have O1 := Lib.hid ho1
  have K1 := Lib.hid hk1
  clear ho1 hk1 hn1
  go_upto_region 17 with (fail)
  by_cases z : 0 < cb
  · obtain ⟨p', c', W', r1, r2, r3⟩ := rowK.app_row (wc.alloc (.cells #[.int .i64 o, .int .i64 5, .int .i64 cb, .int .i64 0, .int .i64 qb] tRw)) w.heap.size (.slice p1 n1 c1) (one o 2 ca qa) (.slice (some ⟨wc.heap.size, 0, none⟩) 1 1) [⟨o, 5, cb, 0, qb⟩] (rowK.own_keeps O1.out (kept_alloc (Keeps.refl _) _)) (mr_src1 ⟨o, 5, cb, 0, qb⟩) (by rw [HN1.out]; have := N1.out; simp; omega) (Nat.le_trans K1.out.size (by simp))
    rw [List.length_singleton, HN1.out] at r1 r2
    have R1 : Hid ((Builtin.append_ #[rowK.ts, rowK.ts] rowK.ts #[.slice p1 n1 c1, .slice (some ⟨wc.heap.size, 0, none⟩) 1 1]).run Tryd.prog (wc.alloc (.cells #[.int .i64 o, .int .i64 5, .int .i64 cb, .int .i64 0, .int .i64 qb] tRw)) = .ok (.slice p' (n1 + 1) c') W') := Lib.hid r1
    have KW : Hid (Keeps w W') := Lib.hid (sk_mono (kept_alloc K1.out _) r3 (fun j hj => (rowK.own_lt O1.out j hj).1))
    have OW : Hid (rowK.Own w.heap.size W' (.slice p' (n1 + 1) c') (rowsG (gOf F))) := Lib.hid (by
      have e : rowsG (gOf F) = one o 2 ca qa ++ [⟨o, 5, cb, 0, qb⟩] := by rw [GO.out]; unfold rowsG; rw [one_yes (d := 5) z]
      rw [e]; exact r2)
    clear r1 r2 r3
    go_wp2_with (at_builtin; refine wpAppKnown rfl _ _ _ _ rfl _ _ _ _ rfl rfl R1.out ?_)
    go_ret3
    exact ⟨_, by rw [E.out]; rfl, by rw [E.out, if_pos rfl]; exact OW.out, KW.out⟩
  · have OW : Hid (rowK.Own w.heap.size wc (.slice p1 n1 c1) (rowsG (gOf F))) := Lib.hid (by
      have e : rowsG (gOf F) = one o 2 ca qa := by rw [GO.out]; unfold rowsG; rw [one_no (d := 5) z, List.append_nil]
      rw [e]; exact O1.out)
    go_wp2
    go_ret3
    exact ⟨_, by rw [E.out]; rfl, by rw [E.out, if_pos rfl]; exact OW.out, K1.out⟩
end Go.Proofs.YtnkcbefamajghaaDoor
namespace Go.Proofs.YtnkcbefamajghaaDoor
open Go.ChangeShapes Go.WideShapes Go.ChangeAt Go.RowKit Go.Shelf Go.Proofs Csv Mft
open Stk (numN fa wide num_put num_yes num_le put_plain put_short plain_put wide_same wide_zero)

/-- What csv tells of a text: rows, or what manifest tells of it. -/
def MfAll (l : List UInt8) (w : World) (e : Ending) (w' : World) : Prop :=
  Keeps w w' ∧ ∃ (v : Value) (line col code : Int), e = .returned (.tuple #[v, .agg #[.int .i64 line, .int .i64 col, .int .i64 code]]) ∧
    ((∃ T, Csv.run Csv.st0 0 l = .rows T ∧ Mft.parseM l = Mft.runL Mft.st0 T ∧ Stk.Fine T ∧ OwnTable w.heap.size w' v T ∧ line = 0 ∧ col = 0 ∧ code = 0) ∨
     (∃ (a b : Nat), Mft.parseM l = .error (a, b, code) ∧ code ≠ 0 ∧ v = .slice none 0 0 ∧ line = (a : Int) ∧ col = (b : Int)))
theorem mfall_of {l : List UInt8} {w w' : World} {e : Ending} (hl : l.length ≤ 65536) (h : ParseOut l w e w') : MfAll l w e w' := by
  obtain ⟨k, v, line, col, code, rfl, h⟩ := h
  refine ⟨k, v, line, col, code, rfl, ?_⟩
  rcases h with ⟨T, h1, h2, h3, h4, h5⟩ | ⟨p, c, h1, h2, h3, h4, h5⟩
  · exact Or.inl ⟨T, h1, by unfold Mft.parseM; rw [if_neg (by omega), h1]; rfl, Stk.fine_of h1 hl, h2, h3, h4, h5⟩
  · have hk := (Csv.run_code h1).1
    refine Or.inr ⟨_, _, by unfold Mft.parseM; rw [if_neg (by omega), h1, h5]; rfl, by omega, h2, h3, h4⟩
theorem mfall_long {l : List UInt8} {w w' : World} {e : Ending} (hl : 65536 < l.length) (k : Keeps w w') (he : e = .returned (.tuple #[.slice none 0 0, .agg #[.int .i64 1, .int .i64 1, .int .i64 8]])) : MfAll l w e w' :=
  ⟨k, _, _, _, _, he, Or.inr ⟨1, 1, by unfold Mft.parseM; rw [if_pos hl], by decide, rfl, rfl, rfl⟩⟩
theorem mf_rcsv (s : ByteArray) (w : World) (hs : s.size ≤ maxLen) : Calls Tryd.prog 15 #[.string s] w (MfAll s.data.toList w) := by
  by_cases hl : s.size ≤ 65536
  · exact (rparse_any s w hl).mono fun e w' h => mfall_of (by rw [len_data]; exact hl) h
  · exact (rparse_long s w (by omega) hs).mono fun e w' h => mfall_long (by rw [len_data]; omega) h.2 h.1
theorem mf_csv (s : ByteArray) (w : World) (hs : s.size ≤ maxLen) (hm : HasMax w) : Calls Tryd.prog 19 #[.string s] w (MfAll s.data.toList w) := by
  by_cases hl : s.size ≤ 65536
  · exact (parse_any s w hl hm).mono fun e w' h => mfall_of (by rw [len_data]; exact hl) h
  · exact (parse_long s w (by omega) hs).mono fun e w' h => mfall_long (by rw [len_data]; omega) h.2 h.1
end Go.Proofs.YtnkcbefamajghaaDoor
namespace Go.Proofs.YtnkcbefamajghaaDoor
open Go.ChangeShapes Go.WideShapes Go.ChangeAt Go.RowKit Ky Rw Csv Mft
open Stk (numN fa wide num_put num_yes num_le put_plain put_short plain_put wide_same wide_zero)

/-- 'append', that says where the new row lies. -/
theorem mf_app_row_at {α : Type} (K : RowK α) (w : World) (B : Nat) (v : Value) (l : List α) (src : Value) (m : List α) (hown : K.Own B w v l) (hs : K.Src w src m) (hn : l.length + m.length ≤ 100000) (hB : B ≤ w.heap.size) :
    ∃ p' c' w', (Builtin.append_ #[K.ts, K.ts] K.ts #[v, src]).run Tryd.prog w = .ok (.slice p' (l.length + m.length) c') w' ∧ K.Own B w' (.slice p' (l.length + m.length) c') (l ++ m) ∧ w.grownBy w' v.ownBlock ∧ ((Value.slice p' (l.length + m.length) c').ownBlock = v.ownBlock ∨ (Value.slice p' (l.length + m.length) c').ownBlock = some w.heap.size) := by
  obtain ⟨i, hi, hz, hsz, hb⟩ := K.parts
  obtain ⟨p, c, rfl, h1, h2⟩ := hs
  cases p with
  | none =>
    obtain ⟨rfl, rfl⟩ := h1 rfl
    have hr := run_append_owned_none (P := Tryd.prog) w B K.ts K.ts K.t i K.sz K.under hi v l.length (K.row l) hown
    obtain ⟨p', c', rfl⟩ := K.own_shape hown
    exact ⟨p', c', w, hr, by simpa using hown, ⟨rfl, rfl, rfl, Nat.le_refl _, fun _ _ _ => rfl⟩, Or.inl rfl⟩
  | some a =>
    obtain ⟨v', w', q1, q2, q3, _, q4⟩ := run_append_own_at (P := Tryd.prog) w B K.ts K.ts K.t i _ K.sz K.bytes K.under hi hz hsz hb K.zsize K.pos v l.length (K.row l) hown a m.length c (K.row m) (K.row_len m) (h2 a rfl) (K.row_one m) (by unfold maxLen; omega) (by
      have := K.small
      calc (l.length + m.length) * K.bytes ≤ 100000 * 1000 := Nat.mul_le_mul hn this
        _ ≤ 140737488355328 := by omega) hB
    obtain ⟨p', c', rfl⟩ := K.own_shape q2
    exact ⟨p', c', w', q1, by unfold RowK.Own; rw [K.row_app, List.length_append]; exact q2, q3, q4⟩
theorem mf_stepAppAtK {α : Type} (R : RowK α) {w : World} {ops : Array Oper} {o : Oper} {a : Act} {K : Act → World → Prop} {Q : Exit → Act → World → Prop} {E : Prop} (hgd : o.guard = none) (sl x : Operand)
    (ho : o.op = .call { callee := .builtin .append, args := #[sl, x], argTypes := #[R.ts, R.ts] }) (ht : o.type = R.ts) (B : Nat) (hB : B ≤ w.heap.size) (v src : Value) (L M : List α) (m : Nat) (hm : L.length + M.length = m) (hs : a.eval sl = v) (hx : a.eval x = src) (hown : R.Own B w v L) (hsrc : R.Src w src M) (hn : L.length + M.length ≤ 100000)
    (h : ∀ p' c' w', R.Own B w' (.slice p' m c') (L ++ M) → w.grownBy w' v.ownBlock → ((Value.slice p' m c').ownBlock = v.ownBlock ∨ (Value.slice p' m c').ownBlock = some w.heap.size) → K (a.put o.dst (.slice p' m c')) w') : if Region.wanted o (yielded ops a.tmps) = true then Oper.wp Tryd.prog o a w K Q else E := by
  subst hm
  obtain ⟨p', c', w', h1, h2, h3, h4⟩ := mf_app_row_at R w B v L src M hown hsrc hn hB
  exact stepAppendKnown hgd sl x _ _ ho _ _ _ w' hs hx (by rw [ht]; exact h1) (h p' c' w' h2 h3 h4)
/-- What Parse answers, as values. -/
def MfOut (l : List UInt8) (w : World) (e : Ending) (w' : World) : Prop :=
  (∃ s L v, Mft.parseM l = .ok (s, L) ∧ e = .returned (.tuple #[stV 2 s v, .agg #[.int .i64 0, .int .i64 0, .int .i64 0]]) ∧ RowsIn w' v L ∧ Keeps w w') ∨
  (∃ a b c, Mft.parseM l = .error (a, b, c) ∧ e = .returned (.tuple #[stV 0 0 (.slice none 0 0), .agg #[.int .i64 (a : Int), .int .i64 (b : Int), .int .i64 c]]) ∧ Keeps w w')
theorem wrap_tot {t q u : Int} (h : t + q = u) (h0 : 0 ≤ t) (h1 : t ≤ 121878) (q0 : 0 ≤ q) (q1 : q ≤ 999) : wrap64 (t + q) = u := by
  rw [h]; exact i64w (by unfold top; omega) (by unfold top; omega)
theorem mf_meas {j n : Nat} (h : j < n) : n - (intOf (.int .i64 ((j : Int) + 1))).toNat < n - (intOf (.int .i64 (j : Int))).toNat := by
  show n - ((j : Int) + 1).toNat < n - ((j : Int)).toNat
  omega
theorem wrap_totI {t q u : Int} (h : t + q = u) (h0 : 0 ≤ t) (h1 : t ≤ 121878) (q0 : 0 ≤ q) (q1 : q ≤ 999) : IntKind.i64.wrap (t + q) = u := by
  rw [h]
  unfold IntKind.wrap
  simp [IntKind.signed, IntKind.bits]
  omega
end Go.Proofs.YtnkcbefamajghaaDoor
