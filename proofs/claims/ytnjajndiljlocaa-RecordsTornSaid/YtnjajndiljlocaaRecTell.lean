
/- The walks of RecordsTell, RecordsLong, RecordsBack. -/
import Derived.Test.YtnjajndiljlocaaRecLaws
import Derived.Test.YtnjajndiljlocaaLies
set_option linter.unusedVariables false
namespace Go.Proofs.Ytnjajndiljlocaa
open Go.ChangeShapes Go.WideShapes Go.ChangeAt Go.RowKit Bit Crc Rc Csv

set_option maxRecDepth 100000 in
set_option maxHeartbeats 2000000 in
theorem recordsTell_go (s : ByteArray) (at_ : Int) (w : World) (hs : s.size ≤ maxLen) (hat : (Lit.int .i64 at_).wf = true) :
    Calls Try.prog 3 #[.string s, .int .i64 at_] w fun e w' => e = .returned (.bool true) ∧ Keeps w w' := by
  by_cases hb : 3000 < s.size
  · have t1 : decide ((3000 : Int) < (s.size : Int)) = true := decide_eq_true (by omega)
    clear hb
    go_enter Try.func3, Try.ntmps3
    go_wp2_with (go_at_call 9; refine (recorded_any _).mono ?_; rintro e w' ⟨rfl, hk1⟩)
    go_ret
    exact ⟨rfl, hk1⟩
  have t1 : decide ((3000 : Int) < (s.size : Int)) = false := decide_eq_false (by omega)
  have hR := recB_size s
  obtain ⟨R, hRe⟩ : ∃ R, recB s = R := ⟨_, rfl⟩
  rw [hRe] at hR
  have C1 := Lib.hid fun (W : World) => recPut_any s W (by omega)
  have C2 := Lib.hid fun (W : World) => rrecPut_any s W (by omega)
  rw [hRe] at C1 C2
  have C3 := Lib.hid fun (W : World) => stands_any s at_ W (by omega) (i64_of hat)
  have C4 := Lib.hid fun (W : World) => stands_any R at_ W (by omega) (i64_of hat)
  clear hb hs hat hR hRe
  go_enter Try.func3, Try.ntmps3
  go_wp2_with fail
  refine (C1.out _).mono ?_
  rintro e w1 ⟨rfl, k1⟩
  have K1 := Lib.hid k1
  clear k1
  go_wp2_with fail
  refine (C2.out _).mono ?_
  rintro e w2 ⟨rfl, k2⟩
  have K2 := Lib.hid k2
  clear k2
  go_wp2_with fail
  refine (C3.out _).mono ?_
  rintro e w3 ⟨rfl, k3⟩
  have K3 := Lib.hid k3
  clear k3
  go_wp2_with fail
  refine (C4.out _).mono ?_
  rintro e w4 ⟨rfl, k4⟩
  have K4 := Lib.hid k4
  clear k4
  go_wp2_with fail
  refine (recorded_any _).mono ?_
  rintro e w5 ⟨rfl, k5⟩
  go_wp2
  go_ret
  exact ⟨rfl, K1.out.trans (K2.out.trans (K3.out.trans (K4.out.trans k5)))⟩

/-! ### RecordsLong -/
theorem i8_of {n : Int} (h : (Lit.int .i8 n).wf = true) : -128 ≤ n ∧ n ≤ 127 := by
  simp only [Lit.wf, IntKind.min, IntKind.max, IntKind.signed, IntKind.bits, Bool.and_eq_true, decide_eq_true_eq, if_true] at h
  omega
set_option maxRecDepth 100000 in
set_option maxHeartbeats 2000000 in
theorem recordsLong_go (by_ : Int) (w : World) (hb : (Lit.int .i8 by_).wf = true) :
    Calls Try.prog 5 #[.int .i8 by_] w fun e w' => e = .returned (.bool true) ∧ Keeps w w' := by
  have hb := i8_of hb
  obtain ⟨n, hn⟩ : ∃ n : Nat, 65536 + by_ = (n : Int) := ⟨(65536 + by_).toNat, by omega⟩
  have hn1 : 60000 ≤ n := by omega
  have hn2 : n ≤ 70000 := by omega
  have hmk := make_zrow n (by omega)
  obtain ⟨X, hX⟩ : ∃ X : ByteArray, (⟨(List.replicate n (0 : UInt8)).toArray⟩ : ByteArray) = X := ⟨_, rfl⟩
  have hXs : X.size = n := by rw [← hX, size_mk]; simp
  have hcv : ∀ W : World, (convert 34 9 (.slice (some ⟨W.heap.size, 0, none⟩) n n)).run Try.prog (W.alloc (zrow n)) = .ok (.string X) (W.alloc (zrow n)) := fun W => by
    rw [← hX]
    exact (lies_zrow W n).text 34 5 9 Try.underlying34 Try.underlying5 Try.underlying9 n n (by simp)
  have KZ := Lib.hid (lit_keeps w (zrow n))
  have htx := hcv w
  clear hcv hX
  by_cases hp : 0 < by_
  · have t1 : decide (0 < by_) = true := decide_eq_true hp
    have C1 := Lib.hid fun (W : World) => recPut_long X W (by unfold maxLen; omega) (by omega)
    have hN : (65536 : Int) + by_ = (n : Int) := hn
    clear hn hXs hp
    go_enter Try.func5, Try.ntmps5
    go_wp2_with fail
    refine (C1.out _).mono ?_
    rintro e w1 ⟨rfl, k1⟩
    have K1 := Lib.hid k1
    clear k1
    go_wp2_with fail
    refine (recorded_any _).mono ?_
    rintro e w2 ⟨rfl, k2⟩
    go_wp2
    go_ret
    exact ⟨rfl, KZ.out.trans (K1.out.trans k2)⟩
  · have t1 : decide (0 < by_) = false := decide_eq_false hp
    have hR := recB_size X
    obtain ⟨R, hRe⟩ : ∃ R, recB X = R := ⟨_, rfl⟩
    have C1 := Lib.hid fun (W : World) => recPut_any X W (by omega)
    rw [hRe] at C1 hR
    have hN : (65536 : Int) + by_ = (n : Int) := hn
    have hRn : (R.size : Int) = (n : Int) + 8 := by omega
    have t2 : ((R.size : Int) == (n : Int) + 8) = true := by rw [hRn]; simp
    have hRb : (R.size : Int) ≤ 80000 := by omega
    clear hn hXs hp hR hRe hRn
    go_enter Try.func5, Try.ntmps5
    go_wp2_with fail
    refine (C1.out _).mono ?_
    rintro e w1 ⟨rfl, k1⟩
    have K1 := Lib.hid k1
    clear k1
    go_wp2_with fail
    refine (recorded_any _).mono ?_
    rintro e w2 ⟨rfl, k2⟩
    go_wp2
    go_ret
    exact ⟨rfl, KZ.out.trans (K1.out.trans k2)⟩

/-! ### RecordsBack -/
set_option maxRecDepth 100000 in
set_option maxHeartbeats 4000000 in
theorem recordsBack_stop (p a b : ByteArray) (w : World) (hp : p.size ≤ maxLen) (ha : a.size ≤ maxLen) (hb : b.size ≤ maxLen) (h : 2000 < p.size ∨ 200 < a.size ∨ 200 < b.size) :
    Calls Try.prog 7 #[.string p, .string a, .string b] w fun e w' => e = .returned (.bool true) ∧ Keeps w w' := by
  unfold maxLen at hp ha hb
  by_cases h1 : 2000 < p.size
  · have t1 : decide ((2000 : Int) < (p.size : Int)) = true := decide_eq_true (by omega)
    clear h h1
    go_enter Try.func7, Try.ntmps7
    go_wp2_with (go_at_call 9; refine (recorded_any _).mono ?_; rintro e w' ⟨rfl, hk1⟩)
    go_ret
    exact ⟨rfl, hk1⟩
  have t1 : decide ((2000 : Int) < (p.size : Int)) = false := decide_eq_false (by omega)
  by_cases h2 : 200 < a.size
  · have t2 : decide ((200 : Int) < (a.size : Int)) = true := decide_eq_true (by omega)
    clear h h1 h2
    go_enter Try.func7, Try.ntmps7
    go_wp2_with (go_at_call 9; refine (recorded_any _).mono ?_; rintro e w' ⟨rfl, hk1⟩)
    go_ret
    exact ⟨rfl, hk1⟩
  have t2 : decide ((200 : Int) < (a.size : Int)) = false := decide_eq_false (by omega)
  have t3 : decide ((200 : Int) < (b.size : Int)) = true := decide_eq_true (by omega)
  clear h h1 h2
  go_enter Try.func7, Try.ntmps7
  go_wp2_with (go_at_call 9; refine (recorded_any _).mono ?_; rintro e w' ⟨rfl, hk1⟩)
  go_ret
  exact ⟨rfl, hk1⟩

set_option maxRecDepth 100000 in
set_option maxHeartbeats 4000000 in
theorem recordsBack_go (p a b : ByteArray) (w : World) (hp : p.size ≤ maxLen) (ha : a.size ≤ maxLen) (hb : b.size ≤ maxLen) :
    Calls Try.prog 7 #[.string p, .string a, .string b] w fun e w' => e = .returned (.bool true) ∧ Keeps w w' := by
  by_cases hbad : 2000 < p.size ∨ 200 < a.size ∨ 200 < b.size
  · exact recordsBack_stop p a b w hp ha hb hbad
  unfold maxLen at hp ha hb
  have t1 : decide ((2000 : Int) < (p.size : Int)) = false := decide_eq_false (by omega)
  have t2 : decide ((200 : Int) < (a.size : Int)) = false := decide_eq_false (by omega)
  have t3 : decide ((200 : Int) < (b.size : Int)) = false := decide_eq_false (by omega)
  have hR := recB_size p
  obtain ⟨R, hRe⟩ : ∃ R, recB p = R := ⟨_, rfl⟩
  have C1 := Lib.hid fun (W : World) => recPut_any p W (by omega)
  rw [hRe] at C1 hR
  obtain ⟨X, hX⟩ : ∃ X, a ++ R = X := ⟨_, rfl⟩
  obtain ⟨Y, hY⟩ : ∃ Y, X ++ b = Y := ⟨_, rfl⟩
  have hXs : X.size = a.size + R.size := by rw [← hX]; exact ByteArray.size_append
  have hYs : Y.size = X.size + b.size := by rw [← hY]; exact ByteArray.size_append
  have hYd : Y.data.toList = a.data.toList ++ (recL p.data.toList ++ b.data.toList) := by
    rw [← hY, ← hX, ← hRe, ← recB_data]; simp
  have hdrop : Y.data.toList.drop a.size = recL p.data.toList ++ b.data.toList := by
    rw [hYd, List.drop_append_of_le_length (by rw [len_data]; exact Nat.le_refl _), ← len_data, List.drop_length, List.nil_append]
  obtain ⟨g1, g2, g3⟩ := g_rec p.data.toList b.data.toList (by rw [len_data]; omega)
  have C2 := Lib.hid fun (W : World) => get_is Y p (a.size : Int) ((a.size : Int) + (R.size : Int)) true W (by unfold maxLen; omega) (Or.inl ⟨by omega, by rw [Int.toNat_natCast, hdrop]; exact g1, by rw [Int.toNat_natCast, hdrop]; exact g2, by rw [Int.toNat_natCast, hdrop, g3, len_data, hR]; omega, rfl⟩)
  have hc1 : ¬ (9223372036854775807 < a.size + R.size) := by omega
  have hc2 : ¬ (9223372036854775807 < X.size + b.size) := by omega
  have hRi : (R.size : Int) = (p.size : Int) + 8 := by omega
  have t4 : ((R.size : Int) == (p.size : Int) + 8) = true := by rw [hRi]; simp
  have hb1 : (R.size : Int) ≤ 3000 := by omega
  have hb2 : (a.size : Int) ≤ 200 := by omega
  have hb3 : (p.size : Int) ≤ 2000 := by omega
  clear hbad hp ha hb hR hRe hXs hYs hYd hdrop g1 g2 g3 hRi
  go_enter Try.func7, Try.ntmps7
  go_wp2_with fail
  refine (C1.out _).mono ?_
  rintro e w1 ⟨rfl, k1⟩
  have K1 := Lib.hid k1
  clear k1
  go_wp2_with fail
  refine (C2.out _).mono ?_
  rintro e w2 ⟨rfl, k2⟩
  have K2 := Lib.hid k2
  clear k2
  go_wp2_with fail
  refine (recorded_any _).mono ?_
  rintro e w3 ⟨rfl, k3⟩
  go_wp2
  go_ret
  exact ⟨rfl, K1.out.trans (K2.out.trans k3)⟩
end Go.Proofs.Ytnjajndiljlocaa
