
/- The contracts of records.Put, Get. The contracts of the document's Put, Get of records. -/
import Derived.Test.YtlaepdpgegoopaaGreatRecMath
import Derived.Test.YtlaepdpgegoopaaGreatSumsOpenC
import Derived.Test.YtlaepdpgegoopaaGreatBitsRefC
import Derived.Test.YtlaepdpgegoopaaGreatSumsRefC
set_option linter.unusedVariables false
namespace Go.Proofs.YtlaepdpgegoopaaGreat
open Go.ChangeShapes Go.WideShapes Go.ChangeAt Go.RowKit Bit Crc Rc

theorem ext_data (s : ByteArray) (a b : Nat) : (s.extract a b).data.toList = (s.data.toList.drop a).take (b - a) := by
  rw [← ByteArray.toList_eq, extract_list]
theorem to_mk {s : ByteArray} {l : List UInt8} (h : s.data.toList = l) : s = ⟨l.toArray⟩ := by rw [← h]
theorem put4_any (n : Int) (N : Nat) (w : World) (h : n = (N : Int)) (hN : N < topN) :
    Calls Tryz.prog 68 #[.int .u64 n, .int .i64 4] w fun e w' => e = .returned (.string ⟨(be 4 N).toArray⟩) ∧ Keeps w w' := by
  rw [h]
  refine (put_any N 4 w hN).mono ?_
  rintro e w' ⟨rfl, hk⟩
  exact ⟨ret_str rfl, hk⟩
theorem seal_to (s t : ByteArray) (w : World) (hs : s.size ≤ 4294967296) (h : sealL s.data.toList = t.data.toList) :
    Calls Tryz.prog 67 #[.string s] w fun e w' => e = .returned (.string t) ∧ Keeps w w' := by
  refine (seal_any s w hs).mono ?_
  rintro e w' ⟨rfl, hk⟩
  exact ⟨ret_str (by rw [h]), hk⟩
def recB (s : ByteArray) : ByteArray := ⟨(recL s.data.toList).toArray⟩
theorem recB_data (s : ByteArray) : (recB s).data.toList = recL s.data.toList := by simp [recB]
theorem recB_size (s : ByteArray) : (recB s).size = s.size + 8 := by rw [← len_data, recB_data, recL_len, len_data]

set_option maxRecDepth 100000 in
set_option maxHeartbeats 1000000 in
theorem recPut_long (s : ByteArray) (w : World) (hs : s.size ≤ maxLen) (h : 65536 < s.size) :
    Calls Tryz.prog 47 #[.string s] w fun e w' => e = .returned (.tuple #[.string ⟨#[]⟩, .int .i64 3]) ∧ Keeps w w' := by
  have t1 : decide ((65536 : Int) < (s.size : Int)) = true := decide_eq_true (by omega)
  clear h
  go_enter Tryz.func47, Tryz.ntmps47
  go_wp2
  go_ret2
  exact ⟨rfl, Keeps.refl _⟩

set_option maxRecDepth 100000 in
set_option maxHeartbeats 1000000 in
theorem recPut_any (s : ByteArray) (w : World) (h : s.size ≤ 65536) :
    Calls Tryz.prog 47 #[.string s] w fun e w' => e = .returned (.tuple #[.string (recB s), .int .i64 0]) ∧ Keeps w w' := by
  have t1 : decide ((65536 : Int) < (s.size : Int)) = false := decide_eq_false (by omega)
  have HT := Lib.hid (show s.size < topN from by unfold topN; omega)
  obtain ⟨F, hF⟩ : ∃ F : ByteArray, (⟨(be 4 s.size).toArray⟩ : ByteArray) = F := ⟨_, rfl⟩
  have hFd : F.data.toList = be 4 s.size := by rw [← hF]
  have hFs : F.size = 4 := by rw [← len_data, hFd, be_length]
  obtain ⟨X, hX⟩ : ∃ X, F ++ s = X := ⟨_, rfl⟩
  have hXd : X.data.toList = be 4 s.size ++ s.data.toList := by rw [← hX, ← hFd]; simp
  have HXS := Lib.hid (show X.size ≤ 4294967296 from by rw [← len_data, hXd, List.length_append, be_length, len_data]; omega)
  have HXD := Lib.hid (show sealL X.data.toList = (recB s).data.toList from by rw [hXd, recB_data, recL, len_data])
  have C1 := Lib.hid fun (m : Int) (hm : m = (s.size : Int)) (W : World) => put4_any m s.size W hm HT.out
  rw [hF] at C1
  have hcat : ¬ (9223372036854775807 < F.size + s.size) := by omega
  clear hF hFd hXd hFs
  go_enter Tryz.func47, Tryz.ntmps47
  go_wp2_with (first
    | (go_at_call 68; refine (C1.out _ rfl _).mono ?_; rintro e w1 ⟨rfl, k1⟩; have K1 := Lib.hid k1; clear k1)
    | (go_at_call 67; refine (seal_to X _ _ HXS.out HXD.out).mono ?_; rintro e w2 ⟨rfl, k2⟩; have K2 := Lib.hid k2; clear k2))
  go_ret2
  exact ⟨rfl, K1.out.trans K2.out⟩

/-! ### Get -/
theorem get4_any (s : ByteArray) (a b n : Nat) (w : World) (hs : s.size ≤ maxLen) (hb : b = a + 4) (hn : gN (s.data.toList.drop a) = n) :
    Calls Tryz.prog 107 #[.string (s.extract a b)] w fun e w' => e = .returned (.int .u64 (n : Int)) ∧ w = w' := by
  refine (get_any (s.extract a b) w (by rw [ByteArray.size_extract]; omega)).mono ?_
  rintro e w' ⟨rfl, hk⟩
  refine ⟨ret_int ?_, hk⟩
  rw [ext_data, hb, show a + 4 - a = 4 by omega, ← hn]
  unfold getN gN
  rw [List.take_take, show min 8 4 = 4 from rfl]
theorem open_at (s T : ByteArray) (a b n : Nat) (o : Bool) (w : World) (hs : s.size ≤ maxLen) (hb : b = a + (8 + n)) (h : opT ((s.data.toList.drop a).take (8 + n)) = T.data.toList ∧ opB ((s.data.toList.drop a).take (8 + n)) = o) :
    Calls Tryz.prog 108 #[.string (s.extract a b)] w fun e w' => e = .returned (.tuple #[.string T, .bool o]) ∧ Keeps w w' := by
  refine (open_any (s.extract a b) w (by rw [ByteArray.size_extract]; omega)).mono ?_
  rintro e w' ⟨rfl, hk⟩
  have e1 : (s.extract a b).data.toList = (s.data.toList.drop a).take (8 + n) := by rw [ext_data, hb]; congr 1; omega
  exact ⟨ret_str_bool (by rw [e1, h.1]) (by rw [e1, h.2]), hk⟩

set_option maxRecDepth 100000 in
set_option maxHeartbeats 2000000 in
theorem recGet_yes (s : ByteArray) (a : Nat) (w : World) (hs : s.size ≤ maxLen) (h : gB (s.data.toList.drop a) = true) :
    Calls Tryz.prog 94 #[.string s, .int .i64 (a : Int)] w fun e w' => e = .returned (.tuple #[.string ⟨(gT (s.data.toList.drop a)).toArray⟩, .int .i64 ((a + 8 + gN (s.data.toList.drop a) : Nat) : Int), .bool true]) ∧ Keeps w w' := by
  obtain ⟨y1, y2, y3, _, _⟩ := g_yes h
  obtain ⟨n, hn⟩ : ∃ n, gN (s.data.toList.drop a) = n := ⟨_, rfl⟩
  obtain ⟨G, hG⟩ : ∃ G : ByteArray, (⟨(gT (s.data.toList.drop a)).toArray⟩ : ByteArray) = G := ⟨_, rfl⟩
  obtain ⟨q1, q2⟩ := g_text y1 y2 y3 h
  have q3 := g_open y1 y2 y3
  rw [hn] at y2 y3 q1 q2 q3 ⊢
  rw [hG]
  rw [List.length_drop, len_data] at y1 y3
  obtain ⟨T, hT⟩ : ∃ T : ByteArray, (⟨(opT ((s.data.toList.drop a).take (8 + n))).toArray⟩ : ByteArray) = T := ⟨_, rfl⟩
  have hTd : T.data.toList = opT ((s.data.toList.drop a).take (8 + n)) := by rw [← hT]
  have hTs : T.size = 4 + n := by rw [← len_data, hTd, q2]
  have hTG : T.extract 4 T.size = G := by rw [extract_end, hTd, q1, hG]
  obtain ⟨A4, hA4⟩ : ∃ A4 : Nat, A4 = a + 4 := ⟨_, rfl⟩
  obtain ⟨B, hB⟩ : ∃ B : Nat, B = a + (8 + n) := ⟨_, rfl⟩
  have C1 := Lib.hid fun (W : World) => get4_any s a A4 n W hs hA4 hn
  have C2 := Lib.hid fun (W : World) => open_at s T a B n true W hs hB ⟨hTd.symm, by rw [q3, h]⟩
  have e1 : (a : Int) + 4 = (A4 : Int) := by omega
  have e2 : (A4 : Int) + (n : Int) + 4 = (B : Int) := by omega
  have hret : ((a + 8 + n : Nat) : Int) = (B : Int) := by omega
  unfold maxLen at hs
  have t1 : decide ((a : Int) < 0) = false := decide_eq_false (by omega)
  have t2 : decide ((s.size : Int) - 4 < (a : Int)) = false := decide_eq_false (by omega)
  have t3 : decide ((65536 : Int) < (n : Int)) = false := decide_eq_false (by omega)
  have t4 : decide ((s.size : Int) - (a : Int) - 4 - 4 < (n : Int)) = false := decide_eq_false (by omega)
  have b1 : a ≤ A4 := by omega
  have b2 : A4 ≤ s.size := by omega
  have b3 : a ≤ B := by omega
  have b4 : B ≤ s.size := by omega
  have b5 : 4 ≤ T.size := by omega
  have hn2 : (n : Int) ≤ 65536 := by omega
  have HR := Lib.hid hret
  have HG := Lib.hid hTG
  clear y1 y2 y3 q1 q2 q3 hTd hTs hTG hA4 hB hG hT hn h hret
  go_enter Tryz.func94, Tryz.ntmps94
  go_wp2_with (first
    | (go_at_call 107; refine (C1.out _).mono ?_; rintro e w1 ⟨rfl, rfl⟩)
    | (go_at_call 108; refine (C2.out _).mono ?_; rintro e w2 ⟨rfl, k2⟩; have K2 := Lib.hid k2; clear k2))
  go_ret3
  exact ⟨by rw [HG.out, HR.out]; rfl, K2.out⟩

set_option maxRecDepth 100000 in
set_option maxHeartbeats 2000000 in
theorem recGet_no (s : ByteArray) (at_ : Int) (w : World) (hs : s.size ≤ maxLen) (hat : I64 at_) (h : at_ < 0 ∨ (s.size : Int) < at_ ∨ gB (s.data.toList.drop at_.toNat) = false) :
    Calls Tryz.prog 94 #[.string s, .int .i64 at_] w fun e w' => e = .returned (.tuple #[.string ⟨#[]⟩, .int .i64 0, .bool false]) ∧ Keeps w w' := by
  have hs' := hs
  unfold maxLen at hs
  have hat' := hat
  unfold I64 top at hat'
  by_cases c1 : at_ < 0
  · have t1 : decide (at_ < 0) = true := decide_eq_true c1
    clear h hs' hat c1
    go_enter Tryz.func94, Tryz.ntmps94
    go_wp2
    go_ret3
    exact ⟨rfl, Keeps.refl _⟩
  have t1 : decide (at_ < 0) = false := decide_eq_false c1
  by_cases c2 : (s.size : Int) - 4 < at_
  · have t2 : decide ((s.size : Int) - 4 < at_) = true := decide_eq_true c2
    clear h hs' hat c1 c2
    go_enter Tryz.func94, Tryz.ntmps94
    go_wp2
    go_ret3
    exact ⟨rfl, Keeps.refl _⟩
  have t2 : decide ((s.size : Int) - 4 < at_) = false := decide_eq_false c2
  obtain ⟨a, rfl⟩ : ∃ a : Nat, at_ = a := ⟨at_.toNat, by omega⟩
  have hg : gB (s.data.toList.drop a) = false := by
    rcases h with h | h | h
    · omega
    · omega
    · simpa using h
  obtain ⟨n, hn⟩ : ∃ n, gN (s.data.toList.drop a) = n := ⟨_, rfl⟩
  have hn32 : n < 4294967296 := by rw [← hn]; exact gN_lt _
  obtain ⟨A4, hA4⟩ : ∃ A4 : Nat, A4 = a + 4 := ⟨_, rfl⟩
  have C1 := Lib.hid fun (W : World) => get4_any s a A4 n W hs' hA4 hn
  have e1 : (a : Int) + 4 = (A4 : Int) := by omega
  have b1 : a ≤ A4 := by omega
  have b2 : A4 ≤ s.size := by omega
  have hn2 : (n : Int) ≤ 4294967295 := by omega
  by_cases c3 : 65536 < n
  · have t3 : decide ((65536 : Int) < (n : Int)) = true := decide_eq_true (by omega)
    clear h hs' hat c1 c2 c3 hg hn hA4 hn32
    go_enter Tryz.func94, Tryz.ntmps94
    go_wp2_with (go_at_call 107; refine (C1.out _).mono ?_; rintro e w1 ⟨rfl, rfl⟩)
    go_ret3
    exact ⟨rfl, Keeps.refl _⟩
  have t3 : decide ((65536 : Int) < (n : Int)) = false := decide_eq_false (by omega)
  by_cases c4 : (s.size : Int) - (a : Int) - 4 - 4 < (n : Int)
  · have t4 : decide ((s.size : Int) - (a : Int) - 4 - 4 < (n : Int)) = true := decide_eq_true c4
    clear h hs' hat c1 c2 c3 c4 hg hn hA4 hn32
    go_enter Tryz.func94, Tryz.ntmps94
    go_wp2_with (go_at_call 107; refine (C1.out _).mono ?_; rintro e w1 ⟨rfl, rfl⟩)
    go_ret3
    exact ⟨rfl, Keeps.refl _⟩
  have t4 : decide ((s.size : Int) - (a : Int) - 4 - 4 < (n : Int)) = false := decide_eq_false c4
  obtain ⟨B, hB⟩ : ∃ B : Nat, B = a + (8 + n) := ⟨_, rfl⟩
  have hl : (s.data.toList.drop a).length = s.size - a := by rw [List.length_drop, len_data]
  have ho : opB ((s.data.toList.drop a).take (8 + n)) = false := by
    rw [← hn, g_open (by rw [hl]; omega) (by rw [hn]; omega) (by rw [hn, hl]; omega)]; exact hg
  have C2 := Lib.hid fun (W : World) => open_at s ⟨#[]⟩ a B n false W hs' hB ⟨by rw [op_no ho], ho⟩
  have e2 : (A4 : Int) + (n : Int) + 4 = (B : Int) := by omega
  have b3 : a ≤ B := by omega
  have b4 : B ≤ s.size := by omega
  have hn3 : (n : Int) ≤ 65536 := by omega
  clear h hs' hat c1 c2 c3 c4 hg hn hA4 hn32 hB hl ho hn2
  go_enter Tryz.func94, Tryz.ntmps94
  go_wp2_with (first
    | (go_at_call 107; refine (C1.out _).mono ?_; rintro e w1 ⟨rfl, rfl⟩)
    | (go_at_call 108; refine (C2.out _).mono ?_; rintro e w2 ⟨rfl, k2⟩; have K2 := Lib.hid k2; clear k2))
  go_ret3
  exact ⟨rfl, K2.out⟩
end Go.Proofs.YtlaepdpgegoopaaGreat
namespace Go.Proofs.YtlaepdpgegoopaaGreat
open Go.ChangeShapes Go.WideShapes Go.ChangeAt Go.RowKit Bit Crc Rc

theorem rput4_any (n : Int) (N : Nat) (w : World) (h : n = (N : Int)) (hN : N < topN) :
    Calls Tryz.prog 73 #[.int .u64 n, .int .i64 4] w fun e w' => e = .returned (.string ⟨(be 4 N).toArray⟩) ∧ Keeps w w' := by
  rw [h]
  refine (rput_any N 4 w hN).mono ?_
  rintro e w' ⟨rfl, hk⟩
  exact ⟨ret_str rfl, hk⟩
theorem rseal_to (s t : ByteArray) (w : World) (hs : s.size ≤ 4294967296) (h : sealL s.data.toList = t.data.toList) :
    Calls Tryz.prog 72 #[.string s] w fun e w' => e = .returned (.string t) ∧ Keeps w w' := by
  refine (rseal_any s w hs).mono ?_
  rintro e w' ⟨rfl, hk⟩
  exact ⟨ret_str (by rw [h]), hk⟩

set_option maxRecDepth 100000 in
set_option maxHeartbeats 1000000 in
theorem rrecPut_long (s : ByteArray) (w : World) (hs : s.size ≤ maxLen) (h : 65536 < s.size) :
    Calls Tryz.prog 52 #[.string s] w fun e w' => e = .returned (.tuple #[.string ⟨#[]⟩, .int .i64 3]) ∧ Keeps w w' := by
  have t1 : decide ((65536 : Int) < (s.size : Int)) = true := decide_eq_true (by omega)
  clear h
  go_enter Tryz.func52, Tryz.ntmps52
  go_wp2
  go_ret2
  exact ⟨rfl, Keeps.refl _⟩

set_option maxRecDepth 100000 in
set_option maxHeartbeats 1000000 in
theorem rrecPut_any (s : ByteArray) (w : World) (h : s.size ≤ 65536) :
    Calls Tryz.prog 52 #[.string s] w fun e w' => e = .returned (.tuple #[.string (recB s), .int .i64 0]) ∧ Keeps w w' := by
  have t1 : decide ((65536 : Int) < (s.size : Int)) = false := decide_eq_false (by omega)
  have HT := Lib.hid (show s.size < topN from by unfold topN; omega)
  obtain ⟨F, hF⟩ : ∃ F : ByteArray, (⟨(be 4 s.size).toArray⟩ : ByteArray) = F := ⟨_, rfl⟩
  have hFd : F.data.toList = be 4 s.size := by rw [← hF]
  have hFs : F.size = 4 := by rw [← len_data, hFd, be_length]
  obtain ⟨X, hX⟩ : ∃ X, F ++ s = X := ⟨_, rfl⟩
  have hXd : X.data.toList = be 4 s.size ++ s.data.toList := by rw [← hX, ← hFd]; simp
  have HXS := Lib.hid (show X.size ≤ 4294967296 from by rw [← len_data, hXd, List.length_append, be_length, len_data]; omega)
  have HXD := Lib.hid (show sealL X.data.toList = (recB s).data.toList from by rw [hXd, recB_data, recL, len_data])
  have C1 := Lib.hid fun (m : Int) (hm : m = (s.size : Int)) (W : World) => rput4_any m s.size W hm HT.out
  rw [hF] at C1
  have hcat : ¬ (9223372036854775807 < F.size + s.size) := by omega
  clear hF hFd hXd hFs
  go_enter Tryz.func52, Tryz.ntmps52
  go_wp2_with (first
    | (go_at_call 73; refine (C1.out _ rfl _).mono ?_; rintro e w1 ⟨rfl, k1⟩; have K1 := Lib.hid k1; clear k1)
    | (go_at_call 72; refine (rseal_to X _ _ HXS.out HXD.out).mono ?_; rintro e w2 ⟨rfl, k2⟩; have K2 := Lib.hid k2; clear k2))
  go_ret2
  exact ⟨rfl, K1.out.trans K2.out⟩

/-! ### Get -/
theorem rget4_any (s : ByteArray) (a b n : Nat) (w : World) (hs : s.size ≤ maxLen) (hb : b = a + 4) (hn : gN (s.data.toList.drop a) = n) :
    Calls Tryz.prog 85 #[.string (s.extract a b)] w fun e w' => e = .returned (.int .u64 (n : Int)) ∧ w = w' := by
  refine (rget_any (s.extract a b) w (by rw [ByteArray.size_extract]; omega)).mono ?_
  rintro e w' ⟨rfl, hk⟩
  refine ⟨ret_int ?_, hk⟩
  rw [ext_data, hb, show a + 4 - a = 4 by omega, ← hn]
  unfold getN gN
  rw [List.take_take, show min 8 4 = 4 from rfl]

set_option maxRecDepth 100000 in
set_option maxHeartbeats 2000000 in
theorem rrecGet_long (s : ByteArray) (a : Nat) (n : Nat) (w : World) (hs : s.size ≤ maxLen) (h1 : 8 ≤ s.size - a) (hn : gN (s.data.toList.drop a) = n) (h2 : n ≤ 65536) (h3 : 8 + n ≤ s.size - a) (o : Bool) (ho : gB (s.data.toList.drop a) = o) (V : Int) (hV : V = if o then ((a + 8 + n : Nat) : Int) else 0) :
    Calls Tryz.prog 65 #[.string s, .int .i64 (a : Int)] w fun e w' => e = .returned (.tuple #[.string ⟨(gT (s.data.toList.drop a)).toArray⟩, .int .i64 V, .bool o]) ∧ Keeps w w' := by
  have hl : (s.data.toList.drop a).length = s.size - a := by rw [List.length_drop, len_data]
  have hgi := g_is (l := s.data.toList.drop a) (by rw [hl]; omega) (by rw [hn]; omega) (by rw [hl, hn]; omega)
  rw [hn, ho] at hgi
  obtain ⟨A4, hA4⟩ : ∃ A4 : Nat, A4 = a + 4 := ⟨_, rfl⟩
  obtain ⟨An, hAn⟩ : ∃ An : Nat, An = a + 4 + n := ⟨_, rfl⟩
  obtain ⟨B, hB⟩ : ∃ B : Nat, B = a + (8 + n) := ⟨_, rfl⟩
  obtain ⟨P, hP⟩ : ∃ P, s.extract A4 An = P := ⟨_, rfl⟩
  have hPd : P.data.toList = ((s.data.toList.drop a).drop 4).take n := by rw [← hP, ext_data, List.drop_drop, hA4, hAn]; congr 1; omega
  have hPs : P.size = n := by rw [← len_data, hPd, List.length_take, List.length_drop, hl]; omega
  obtain ⟨R, hR⟩ : ∃ R, recB P = R := ⟨_, rfl⟩
  have hRs : R.size = 8 + n := by rw [← hR, recB_size, hPs]; omega
  obtain ⟨X, hX⟩ : ∃ X, s.extract a B = X := ⟨_, rfl⟩
  have hXd : X.data.toList = (s.data.toList.drop a).take (8 + n) := by rw [← hX, ext_data, hB]; congr 1; omega
  have hXR : (R.toList == X.toList) = o := by
    rw [hgi, ByteArray.toList_eq, ByteArray.toList_eq, hXd, ← hR, recB_data, hPd]
  have hXR2 : (X.toList == R.toList) = o := by rw [← hXR]; exact BEq.comm
  have hGT : o = true → (⟨(gT (s.data.toList.drop a)).toArray⟩ : ByteArray) = P := fun e => by
    subst e
    rw [(g_yes ho).2.2.2.2, hn, ← hPd]
  have hGF : o = false → (⟨(gT (s.data.toList.drop a)).toArray⟩ : ByteArray) = ⟨#[]⟩ := fun e => by
    subst e
    rw [g_no ho]
  have C1 := Lib.hid fun (W : World) => rget4_any s a A4 n W hs hA4 hn
  have C2 := Lib.hid fun (W : World) => rrecPut_any P W (by omega)
  rw [hR] at C2
  unfold maxLen at hs
  have e1 : (a : Int) + 4 = (A4 : Int) := by omega
  have e2 : (A4 : Int) + (n : Int) = (An : Int) := by omega
  have e3 : (a : Int) + (R.size : Int) = (B : Int) := by omega
  have HRET := Lib.hid (show (if true then ((a + 8 + n : Nat) : Int) else 0) = (B : Int) by rw [if_pos rfl]; omega)
  have t1 : decide ((a : Int) < 0) = false := decide_eq_false (by omega)
  have t2 : decide ((s.size : Int) < (a : Int)) = false := decide_eq_false (by omega)
  have t2n : decide (s.size < a) = false := decide_eq_false (by omega)
  have t3 : decide ((s.size : Int) - (a : Int) < 8) = false := decide_eq_false (by omega)
  have t4 : decide ((65536 : Int) < (n : Int)) = false := decide_eq_false (by omega)
  have t5 : decide ((s.size : Int) - (a : Int) - 8 < (n : Int)) = false := decide_eq_false (by omega)
  have b1 : a ≤ A4 := by omega
  have b2 : A4 ≤ s.size := by omega
  have b3 : A4 ≤ An := by omega
  have b4 : An ≤ s.size := by omega
  have b5 : a ≤ B := by omega
  have b6 : B ≤ s.size := by omega
  have hn2 : (n : Int) ≤ 65536 := by omega
  have hR2 : (R.size : Int) ≤ 70000 := by omega
  have HGT := Lib.hid hGT
  have HGF := Lib.hid hGF
  clear hl hgi hA4 hAn hB hPd hPs hR hRs hXd hGT hGF ho hn h1 h2 h3 hXR
  cases o with
  | false =>
    rw [HGF.out rfl]
    have hv : V = 0 := hV
    clear hV
    subst hv
    go_enter Tryz.func65, Tryz.ntmps65
    go_wp2_with (first
      | (go_at_call 85; refine (C1.out _).mono ?_; rintro e w1 ⟨rfl, rfl⟩)
      | (go_at_call 52; refine (C2.out _).mono ?_; rintro e w2 ⟨rfl, k2⟩; have K2 := Lib.hid k2; clear k2))
    go_ret3
    exact ⟨rfl, K2.out⟩
  | true =>
    rw [HGT.out rfl]
    have hv := hV.trans HRET.out
    clear hV
    subst hv
    go_enter Tryz.func65, Tryz.ntmps65
    go_wp2_with (first
      | (go_at_call 85; refine (C1.out _).mono ?_; rintro e w1 ⟨rfl, rfl⟩)
      | (go_at_call 52; refine (C2.out _).mono ?_; rintro e w2 ⟨rfl, k2⟩; have K2 := Lib.hid k2; clear k2))
    go_ret3
    exact ⟨rfl, K2.out⟩

set_option maxRecDepth 100000 in
set_option maxHeartbeats 2000000 in
theorem rrecGet_no (s : ByteArray) (at_ : Int) (w : World) (hs : s.size ≤ maxLen) (hat : I64 at_) (h : at_ < 0 ∨ (s.size : Int) < at_ ∨ gB (s.data.toList.drop at_.toNat) = false) :
    Calls Tryz.prog 65 #[.string s, .int .i64 at_] w fun e w' => e = .returned (.tuple #[.string ⟨#[]⟩, .int .i64 0, .bool false]) ∧ Keeps w w' := by
  have hs' := hs
  unfold maxLen at hs
  have hat' := hat
  unfold I64 top at hat'
  by_cases c1 : at_ < 0
  · have t1 : decide (at_ < 0) = true := decide_eq_true c1
    clear h hs' hat c1
    go_enter Tryz.func65, Tryz.ntmps65
    go_wp2
    go_ret3
    exact ⟨rfl, Keeps.refl _⟩
  have t1 : decide (at_ < 0) = false := decide_eq_false c1
  by_cases c2 : (s.size : Int) < at_
  · have t2 : decide ((s.size : Int) < at_) = true := decide_eq_true c2
    clear h hs' hat c1 c2
    go_enter Tryz.func65, Tryz.ntmps65
    go_wp2
    go_ret3
    exact ⟨rfl, Keeps.refl _⟩
  have t2 : decide ((s.size : Int) < at_) = false := decide_eq_false c2
  obtain ⟨a, rfl⟩ : ∃ a : Nat, at_ = a := ⟨at_.toNat, by omega⟩
  have t2n : decide (s.size < a) = false := decide_eq_false (by omega)
  by_cases c3 : (s.size : Int) - (a : Int) < 8
  · have t3 : decide ((s.size : Int) - (a : Int) < 8) = true := decide_eq_true c3
    clear h hs' hat c1 c2 c3
    go_enter Tryz.func65, Tryz.ntmps65
    go_wp2
    go_ret3
    exact ⟨rfl, Keeps.refl _⟩
  have t3 : decide ((s.size : Int) - (a : Int) < 8) = false := decide_eq_false c3
  have hg : gB (s.data.toList.drop a) = false := by
    rcases h with h | h | h
    · omega
    · omega
    · simpa using h
  obtain ⟨n, hn⟩ : ∃ n, gN (s.data.toList.drop a) = n := ⟨_, rfl⟩
  have hn32 : n < 4294967296 := by rw [← hn]; exact gN_lt _
  by_cases c45 : n ≤ 65536 ∧ 8 + n ≤ s.size - a
  · have := rrecGet_long s a n w hs' (by omega) hn c45.1 c45.2 false hg 0 (by simp)
    rw [g_no hg] at this
    exact this
  obtain ⟨A4, hA4⟩ : ∃ A4 : Nat, A4 = a + 4 := ⟨_, rfl⟩
  have C1 := Lib.hid fun (W : World) => rget4_any s a A4 n W hs' hA4 hn
  have e1 : (a : Int) + 4 = (A4 : Int) := by omega
  have b1 : a ≤ A4 := by omega
  have b2 : A4 ≤ s.size := by omega
  have hn2 : (n : Int) ≤ 4294967295 := by omega
  by_cases c4 : 65536 < n
  · have t4 : decide ((65536 : Int) < (n : Int)) = true := decide_eq_true (by omega)
    clear h hs' hat c1 c2 c3 c4 hg hn hA4 hn32 c45
    go_enter Tryz.func65, Tryz.ntmps65
    go_wp2_with (go_at_call 85; refine (C1.out _).mono ?_; rintro e w1 ⟨rfl, rfl⟩)
    go_ret3
    exact ⟨rfl, Keeps.refl _⟩
  have t4 : decide ((65536 : Int) < (n : Int)) = false := decide_eq_false (by omega)
  have t5 : decide ((s.size : Int) - (a : Int) - 8 < (n : Int)) = true := decide_eq_true (by omega)
  clear h hs' hat c1 c2 c3 c4 hg hn hA4 hn32 c45
  go_enter Tryz.func65, Tryz.ntmps65
  go_wp2_with (go_at_call 85; refine (C1.out _).mono ?_; rintro e w1 ⟨rfl, rfl⟩)
  go_ret3
  exact ⟨rfl, Keeps.refl _⟩
theorem rrecGet_yes (s : ByteArray) (a : Nat) (w : World) (hs : s.size ≤ maxLen) (h : gB (s.data.toList.drop a) = true) :
    Calls Tryz.prog 65 #[.string s, .int .i64 (a : Int)] w fun e w' => e = .returned (.tuple #[.string ⟨(gT (s.data.toList.drop a)).toArray⟩, .int .i64 ((a + 8 + gN (s.data.toList.drop a) : Nat) : Int), .bool true]) ∧ Keeps w w' := by
  obtain ⟨y1, y2, y3, _, _⟩ := g_yes h
  rw [List.length_drop, len_data] at y1 y3
  exact rrecGet_long s a _ w hs y1 rfl y2 y3 true h _ (by simp)
end Go.Proofs.YtlaepdpgegoopaaGreat
