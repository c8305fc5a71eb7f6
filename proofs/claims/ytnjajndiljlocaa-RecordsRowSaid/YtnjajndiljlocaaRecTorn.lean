
/- The walk of RecordsTorn. -/
import Derived.Test.YtnjajndiljlocaaRecRowL
set_option linter.unusedVariables false
namespace Go.Proofs.Ytnjajndiljlocaa
open Go.ChangeShapes Go.WideShapes Go.ChangeAt Go.RowKit Bit Crc Rc Csv

theorem strs_take {w : World} {p : Option Addr} {n c : Nat} {P : List (List UInt8)} (h : StrsAt w (.slice p n c) P) (m : Nat) (hm : m ≤ n) : StrsAt w (.slice p m c) (P.take m) := by
  obtain ⟨p', c', e, hl, hc⟩ := h
  cases e
  refine ⟨p, c, by rw [List.length_take, Nat.min_eq_left hm], by rw [List.length_take]; omega, fun j x hx => ?_⟩
  have hj : j < m := by have := (List.getElem?_eq_some_iff.1 hx).1; rw [List.length_take] at this; omega
  rw [List.getElem?_take, if_pos hj] at hx
  exact hc j x hx

set_option maxRecDepth 100000 in
set_option maxHeartbeats 8000000 in
theorem recordsTorn_go (v : Value) (P : List (List UInt8)) (ct : Int) (w : World) (h : StrsAt w v P) (hcap : ∀ p n c, v = .slice p n c → n ≤ c) (hct : (Lit.int .u16 ct).wf = true) :
    Calls Try.prog 6 #[v, .int .u16 ct] w fun e w' => e = .returned (.bool true) ∧ Keeps w w' := by
  obtain ⟨Q, rfl, hQ⟩ := u16_at hct
  have C := Lib.hid (row_any v P w h)
  have HI := Lib.hid h
  obtain ⟨pv, cv, rfl, lP, _⟩ := h
  have hcv := hcap _ _ _ rfl
  unfold maxLen at lP
  clear hct hcap
  go_enter Try.func6, Try.ntmps6
  go_wp2_with fail
  refine C.out.mono ?_
  rintro e w1 (⟨hok, va, rfl, hown, k1⟩ | ⟨hok, rfl, k1⟩)
  · have K1 := Lib.hid k1
    obtain ⟨o1, o2⟩ := okRow_len hok
    have hle := rowL_le P o2
    have O3 := Lib.hid (show ∀ p ∈ P, p.length ≤ 65536 from fun p hp => by have := o2 p hp; omega)
    obtain ⟨n, hn⟩ : ∃ n, P.length = n := ⟨_, rfl⟩
    have HI1 := Lib.hid (HI.out.keeps k1)
    rw [hn] at hown o1 hle lP hcv HI1 ⊢
    have hel := endsI_len P n
    have hown' : w1.ownsRow w.heap.size tInt 1 va (endsI P n).length (ivs (endsI P n)) := by rw [hel]; exact hown
    obtain ⟨pa, ca, rfl, _, hcells⟩ := own_ints hown'
    obtain ⟨a, rfl, _⟩ := hcells 0 _ (endsI_at P n 0 (by omega))
    have HC : Hid (∀ j, j ≤ n → w1.cell? (a.add j) = some (.int .i64 ((rowL (P.take j)).length : Int))) := Lib.hid fun j hj => by
      obtain ⟨a', e, hc⟩ := hcells j _ (endsI_at P n j hj)
      cases e
      exact hc
    obtain ⟨R, hR⟩ : ∃ R, rowB P = R := ⟨_, rfl⟩
    have hRs := rowB_size P
    rw [hR] at hRs
    have hRd : R.data.toList = rowL P := by rw [← hR]; simp [rowB]
    have hRb : (R.size : Int) ≤ 20000 := by omega
    obtain ⟨K, hK⟩ : ∃ K : Nat, (Q : Int) % ((R.size : Int) + 1) = (K : Int) := ⟨((Q : Int) % ((R.size : Int) + 1)).toNat, (Int.toNat_of_nonneg (Int.emod_nonneg _ (by omega))).symm⟩
    have hKR : K ≤ R.size := by
      have : (Q : Int) % ((R.size : Int) + 1) < (R.size : Int) + 1 := Int.emod_lt_of_pos _ (by omega)
      omega
    rw [hR, hel]
    have hS0 : 0 < (R.size : Int) + 1 := by omega
    have hQ2 : (Q : Int) ≤ 65535 := by omega
    have hn20 : (n : Int) ≤ 20 := by omega
    have HRD := Lib.hid hRd
    have HRS := Lib.hid hRs
    have HN := Lib.hid hn
    clear hok hown k1 hQ lP o1 o2 hle hn hel hown' hcells hR hRs hRd
    go_wp2
    go_loop [9] (fun vi => ∃ m : Nat, m ≤ n ∧ vi = .int .i64 (m : Int) ∧ (rowL (P.take m)).length ≤ K) (fun vi => n - (intOf vi).toNat)
    case atStart => exact ⟨0, by omega, rfl, by simp [rowL]⟩
    case round =>
      obtain ⟨m, hm, rfl, hmK⟩ := hrel
      have HMK := Lib.hid hmK
      clear hmK
      by_cases hgo : m < n ∧ (rowL (P.take (m + 1))).length ≤ K
      · obtain ⟨hlt, hE⟩ := hgo
        have hc := HC.out (m + 1) (by omega)
        have HE := Lib.hid hE
        obtain ⟨E, hEe⟩ : ∃ E, (rowL (P.take (m + 1))).length = E := ⟨_, rfl⟩
        rw [hEe] at hc hE
        have t1 : decide (E ≤ K) = true := decide_eq_true hE
        have t2 : decide ((E : Int) ≤ (K : Int)) = true := decide_eq_true (by omega)
        have hi1 : (m : Int) + 1 < ((n + 1 : Nat) : Int) := by omega
        obtain ⟨m1, hm1⟩ : ∃ m1, m + 1 = m1 := ⟨_, rfl⟩
        have hm1i : (m : Int) + 1 = (m1 : Int) := by omega
        have hm1n : m1 < n + 1 := by omega
        rw [hm1] at hc HE
        have HM1 := Lib.hid hm1
        clear hEe hE hm1
        go_wp2
        go_round
        case rel => exact ⟨m1, by omega, rfl, HE.out⟩
        case measure => simp [intOf]; omega
      · obtain ⟨xs, hdone, hpays⟩ := done_cut P O3.out m K (by rw [HN.out]; exact hm) HMK.out (fun hlt => by rw [HN.out] at hlt; omega) (by rw [← HRS.out]; exact hKR)
        obtain ⟨Em, hEm⟩ : ∃ Em, (rowL (P.take m)).length = Em := ⟨_, rfl⟩
        obtain ⟨X, hX⟩ : ∃ X, R.extract 0 K = X := ⟨_, rfl⟩
        have hXd : X.data.toList = (rowL P).take K := by rw [← hX, ext_data, HRD.out]; rfl
        have hXs : X.size ≤ 20000 := by rw [← hX, ByteArray.size_extract]; omega
        have hcm := HC.out m hm
        rw [hEm] at hcm hdone
        have HCM := Lib.hid hcm
        have C2 := Lib.hid fun (W : World) => whole_is X xs Em m (P.take m) W (by omega) (by rw [hXd]; exact hdone) hpays (by rw [List.length_take, HN.out]; omega)
        have HT := Lib.hid fun (W : World) (k : Keeps w1 W) => strs_take (HI1.out.keeps k) m hm
        have htail : (¬ ((m : Int) + 1 < ((n + 1 : Nat) : Int))) ∨ (((m : Int) + 1 < ((n + 1 : Nat) : Int)) ∧ ∃ (m1 E : Nat), m + 1 = m1 ∧ m1 < n + 1 ∧ w1.cell? (a.add m1) = some (.int .i64 (E : Int)) ∧ K < E) := by
          by_cases hlt : m < n
          · exact Or.inr ⟨by omega, m + 1, _, rfl, by omega, HC.out (m + 1) (by omega), by omega⟩
          · exact Or.inl (by omega)
        have hmcv : m ≤ cv := by omega
        have hm21 : m < n + 1 := by omega
        have hm1i : (m : Int) < ((n + 1 : Nat) : Int) := by omega
        clear hdone hpays hEm hXd hXs hcm hgo
        rcases htail with hz | ⟨hi1, m1, E, hm1, hm1n, hc, hKE⟩
        · go_wp2_with fail
          refine (C2.out _).mono ?_
          rintro e w2 ⟨p2, c2, rfl, i2, k2⟩
          have I2 := Lib.hid i2
          have K2 := Lib.hid k2
          have hc2 := cell_keeps k2 HCM.out
          clear i2 k2
          go_wp2_with fail
          refine (texts_same _ _ (P.take m) _ I2.out (HT.out _ K2.out)).mono ?_
          rintro e w3 ⟨rfl, k3⟩
          have K3 := Lib.hid k3
          have hc3 := cell_keeps k3 hc2
          clear k3 hc2
          go_wp2_with fail
          refine (recorded_any _).mono ?_
          rintro e w4 ⟨rfl, k4⟩
          go_wp2
          go_ret
          exact ⟨rfl, K1.out.trans (K2.out.trans (K3.out.trans k4))⟩
        · have hm1e : (m : Int) + 1 = (m1 : Int) := by omega
          have t1 : decide (E ≤ K) = false := decide_eq_false (by omega)
          have t2 : decide ((E : Int) ≤ (K : Int)) = false := decide_eq_false (by omega)
          clear hm1 hKE
          go_wp2_with fail
          refine (C2.out _).mono ?_
          rintro e w2 ⟨p2, c2, rfl, i2, k2⟩
          have I2 := Lib.hid i2
          have K2 := Lib.hid k2
          have hc2 := cell_keeps k2 HCM.out
          clear i2 k2
          go_wp2_with fail
          refine (texts_same _ _ (P.take m) _ I2.out (HT.out _ K2.out)).mono ?_
          rintro e w3 ⟨rfl, k3⟩
          have K3 := Lib.hid k3
          have hc3 := cell_keeps k3 hc2
          clear k3 hc2
          go_wp2_with fail
          refine (recorded_any _).mono ?_
          rintro e w4 ⟨rfl, k4⟩
          go_wp2
          go_ret
          exact ⟨rfl, K1.out.trans (K2.out.trans (K3.out.trans k4))⟩
  · have K1 := Lib.hid k1
    clear hok k1
    go_wp2_with fail
    refine (recorded_any _).mono ?_
    rintro e w2 ⟨rfl, k2⟩
    go_wp2
    go_ret
    exact ⟨rfl, K1.out.trans k2⟩
end Go.Proofs.Ytnjajndiljlocaa
