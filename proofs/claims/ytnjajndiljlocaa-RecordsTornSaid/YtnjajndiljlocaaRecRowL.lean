
/- The walks of RecordsRow, RecordsTorn. -/
import Derived.Test.YtnjajndiljlocaaRecRow
set_option linter.unusedVariables false
namespace Go.Proofs.Ytnjajndiljlocaa
open Go.ChangeShapes Go.WideShapes Go.ChangeAt Go.RowKit Bit Crc Rc Csv

theorem u16_at {n : Int} (h : (Lit.int .u16 n).wf = true) : ∃ N : Nat, n = N ∧ N < 65536 := by
  simp only [Lit.wf, IntKind.min, IntKind.max, IntKind.signed, IntKind.bits, Bool.and_eq_true] at h
  simp at h
  exact ⟨n.toNat, by omega, by omega⟩
theorem rowB_size (P : List (List UInt8)) : (rowB P).size = (rowL P).length := by rw [rowB, size_mk]

set_option maxRecDepth 100000 in
set_option maxHeartbeats 8000000 in
theorem recordsRow_go (v : Value) (P : List (List UInt8)) (b : ByteArray) (pl : Int) (w : World) (h : StrsAt w v P) (hb : b.size ≤ maxLen) (hpl : (Lit.int .u16 pl).wf = true) :
    Calls Try.prog 4 #[v, .string b, .int .u16 pl] w fun e w' => e = .returned (.bool true) ∧ Keeps w w' := by
  obtain ⟨Q, rfl, hQ⟩ := u16_at hpl
  have C := Lib.hid (row_any v P w h)
  obtain ⟨pv, cv, rfl, lP, _⟩ := h
  unfold maxLen at hb lP
  clear hpl
  go_enter Try.func4, Try.ntmps4
  go_wp2_with fail
  refine C.out.mono ?_
  rintro e w1 (⟨hok, va, rfl, hown, k1⟩ | ⟨hok, rfl, k1⟩)
  · have K1 := Lib.hid k1
    by_cases hbig : 100 < b.size
    · have t1 : decide ((100 : Int) < (b.size : Int)) = true := decide_eq_true (by omega)
      clear hok hown k1 hbig hb lP
      go_wp2_with fail
      refine (recorded_any _).mono ?_
      rintro e w2 ⟨rfl, k2⟩
      go_wp2
      go_ret
      exact ⟨rfl, K1.out.trans k2⟩
    · have t1 : decide ((100 : Int) < (b.size : Int)) = false := decide_eq_false (by omega)
      obtain ⟨o1, o2⟩ := okRow_len hok
      have hle := rowL_le P o2
      obtain ⟨n, hn⟩ : ∃ n, P.length = n := ⟨_, rfl⟩
      have hel := endsI_len P n
      rw [hn] at hown o1 hle
      have hown' : w1.ownsRow w.heap.size tInt 1 va (endsI P n).length (ivs (endsI P n)) := by rw [hel]; exact hown
      have hI := own_ints hown'
      obtain ⟨pa, ca, rfl, _, hcells⟩ := hI
      obtain ⟨j, hj⟩ : ∃ j : Nat, (Q : Int) % ((n + 1 : Nat) : Int) = (j : Int) := ⟨Q % (n + 1), by omega⟩
      have hjn : j ≤ n := by have := Int.emod_lt_of_pos (Q : Int) (show (0 : Int) < ((n + 1 : Nat) : Int) by omega); omega
      obtain ⟨a, rfl, hc⟩ := hcells j _ (endsI_at P n j hjn)
      obtain ⟨E, hE⟩ : ∃ E, (rowL (P.take j)).length = E := ⟨_, rfl⟩
      rw [hE] at hc
      obtain ⟨R, hR⟩ : ∃ R, rowB P = R := ⟨_, rfl⟩
      have hRs := rowB_size P
      rw [hR] at hRs
      obtain ⟨S, hS⟩ : ∃ S, R ++ b = S := ⟨_, rfl⟩
      have hSs : S.size = R.size + b.size := by rw [← hS]; exact ByteArray.size_append
      obtain ⟨j2, hj2⟩ : ∃ j2 : Nat, (Q : Int) % ((S.size : Int) + 1) = (j2 : Int) := ⟨((Q : Int) % ((S.size : Int) + 1)).toNat, (Int.toNat_of_nonneg (Int.emod_nonneg _ (by omega))).symm⟩
      have hE2 : E ≤ 20000 := by
        have := rowL_mono P j n hjn
        rw [hE, ← hn, List.take_length] at this
        omega
      have hj22 : j2 ≤ 65535 := by
        have : (Q : Int) % ((S.size : Int) + 1) < (S.size : Int) + 1 := Int.emod_lt_of_pos _ (by omega)
        omega
      rw [hR]
      have C2 := Lib.hid fun (W : World) => stands_any S (E : Int) W (by omega) (by unfold I64 top; omega)
      have C3 := Lib.hid fun (W : World) => stands_any S (j2 : Int) W (by omega) (by unfold I64 top; omega)
      have hcat : ¬ (9223372036854775807 < R.size + b.size) := by omega
      have hSb : (S.size : Int) ≤ 20000 := by omega
      have hS0 : 0 < (S.size : Int) + 1 := by omega
      have hQ2 : (Q : Int) ≤ 65535 := by omega
      rw [hel]
      obtain ⟨n1, hn1⟩ : ∃ n1, n + 1 = n1 := ⟨_, rfl⟩
      rw [hn1] at hj ⊢
      have hn1b : 0 < (n1 : Int) := by omega
      have hn1c : (n1 : Int) ≤ 21 := by omega
      have hj1 : j < n1 := by omega
      clear hok hown k1 hbig hb lP o1 o2 hle hn hel hown' hcells hE hR hRs hSs hn1 hjn
      go_wp2_with fail
      refine (C2.out _).mono ?_
      rintro e w2 ⟨rfl, k2⟩
      have K2 := Lib.hid k2
      clear k2 hc
      go_wp2_with fail
      refine (C3.out _).mono ?_
      rintro e w3 ⟨rfl, k3⟩
      have K3 := Lib.hid k3
      clear k3
      go_wp2_with fail
      refine (recorded_any _).mono ?_
      rintro e w4 ⟨rfl, k4⟩
      go_wp2
      go_ret
      exact ⟨rfl, K1.out.trans (K2.out.trans (K3.out.trans k4))⟩
  · have K1 := Lib.hid k1
    clear hok k1 hb lP
    go_wp2_with fail
    refine (recorded_any _).mono ?_
    rintro e w2 ⟨rfl, k2⟩
    go_wp2
    go_ret
    exact ⟨rfl, K1.out.trans k2⟩
end Go.Proofs.Ytnjajndiljlocaa
