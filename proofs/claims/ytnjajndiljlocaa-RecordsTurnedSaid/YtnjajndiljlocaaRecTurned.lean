
/- The walk of RecordsTurned. -/
import Derived.Test.YtnjajndiljlocaaRecTell
import Derived.Deep.RegionWith
set_option linter.unusedVariables false
namespace Go.Proofs.Ytnjajndiljlocaa
open Go.ChangeShapes Go.WideShapes Go.ChangeAt Go.RowKit Bit Crc Rc Csv

theorem xor8 (c d : UInt8) : bits .xor .u8 (c.toNat : Int) (d.toNat : Int) = ((c ^^^ d).toNat : Int) := by
  rw [u8_xor_nat _ _ (u8_lt c) (u8_lt d), UInt8.toNat_xor]
theorem b8_zero (c : UInt8) : c ^^^ b8 0 = c := by
  have : b8 0 = 0 := rfl
  rw [this]; simp
/-- Some bytes from a place on, turned over. -/
def turnL (l : List UInt8) (k i N : Nat) : List UInt8 := l.mapIdx fun j c => if k ≤ j ∧ j < k + i then c ^^^ b8 (N / 256 ^ (j - k)) else c
theorem turn_len (l : List UInt8) (k i N : Nat) : (turnL l k i N).length = l.length := by simp [turnL]
theorem turn_get (l : List UInt8) (k i N j : Nat) : (turnL l k i N)[j]? = (l[j]?).map fun c => if k ≤ j ∧ j < k + i then c ^^^ b8 (N / 256 ^ (j - k)) else c := by
  unfold turnL; rw [List.getElem?_mapIdx]
theorem turn_zero (l : List UInt8) (k N : Nat) : turnL l k 0 N = l := by
  apply List.ext_getElem?
  intro j
  rw [turn_get]
  cases l[j]? with
  | none => rfl
  | some c => rw [Option.map_some, if_neg (by omega)]
theorem turn_step (l : List UInt8) (k i N : Nat) (c : UInt8) (h : l[k + i]? = some c) : (turnL l k i N).set (k + i) (c ^^^ b8 (N / 256 ^ i)) = turnL l k (i + 1) N := by
  have hl : k + i < l.length := (List.getElem?_eq_some_iff.1 h).1
  apply List.ext_getElem?
  intro j
  rw [List.getElem?_set, turn_get, turn_get, turn_len]
  by_cases e : k + i = j
  · subst e
    rw [if_pos rfl, if_pos hl, h, Option.map_some, if_pos (by omega), show k + i - k = i by omega]
  · rw [if_neg e]
    cases l[j]? with
    | none => rfl
    | some d =>
      simp only [Option.map_some]
      congr 1
      by_cases h1 : k ≤ j ∧ j < k + i
      · rw [if_pos h1, if_pos (by omega)]
      · rw [if_neg h1, if_neg (by omega)]
theorem turn_at (l : List UInt8) (k i N : Nat) (c : UInt8) (h : l[k + i]? = some c) : (turnL l k i N)[k + i]? = some c := by
  rw [turn_get, h, Option.map_some, if_neg (by omega)]
theorem bend_get : ∀ (l : List UInt8) (n j : Nat), (bend l n)[j]? = (l[j]?).map fun c => c ^^^ b8 (n / 256 ^ j)
  | [], n, j => by simp [bend]
  | c :: l, n, j => by
    rw [bend]
    by_cases h : n = 0
    · rw [if_pos h, h]
      cases (c :: l)[j]? with
      | none => rfl
      | some d => rw [Option.map_some, Nat.zero_div, b8_zero]
    · rw [if_neg h]
      cases j with
      | zero => simp
      | succ j => simp [bend_get l, Nat.div_div_eq_div_mul, Nat.pow_succ, Nat.mul_comm]
theorem small_div (N j : Nat) (hN : N < 4294967296) (hj : 4 ≤ j) : N / 256 ^ j = 0 := by
  refine Nat.div_eq_of_lt ?_
  have : (256 : Nat) ^ 4 ≤ 256 ^ j := Nat.pow_le_pow_right (by omega) hj
  have h4 : (256 : Nat) ^ 4 = 4294967296 := by decide
  omega
theorem turn_bent (l : List UInt8) (k N : Nat) (hN : N < 4294967296) : turnL l k 4 N = bentL l k N := by
  apply List.ext_getElem?
  intro j
  rw [turn_get, bentL]
  by_cases h : j < k
  · by_cases hl : j < (l.take k).length
    · rw [List.getElem?_append_left hl, List.getElem?_take, if_pos h]
      cases l[j]? with
      | none => rfl
      | some c => rw [Option.map_some, if_neg (by omega)]
    · have hlen : l.length ≤ j := by rw [List.length_take] at hl; omega
      rw [List.getElem?_eq_none (by omega), List.getElem?_eq_none (by rw [List.length_append, List.length_take, bend_len, List.length_drop]; omega)]
      rfl
  · by_cases hl : j < l.length
    · have ht : (l.take k).length = k := by rw [List.length_take]; omega
      rw [List.getElem?_append_right (by omega), ht, bend_get, List.getElem?_drop, show k + (j - k) = j by omega]
      cases l[j]? with
      | none => rfl
      | some c =>
        simp only [Option.map_some]
        congr 1
        by_cases h4 : j < k + 4
        · rw [if_pos (by omega)]
        · rw [if_neg (by omega), small_div N (j - k) hN (by omega), b8_zero]
    · rw [List.getElem?_eq_none (by omega), List.getElem?_eq_none (by rw [List.length_append, List.length_take, bend_len, List.length_drop]; omega)]
      rfl
theorem bend_ne : ∀ (m : Nat) (l : List UInt8) (n : Nat), n ≠ 0 → n < 256 ^ m → m ≤ l.length → bend l n ≠ l
  | 0, l, n, h0, hn, _ => by simp at hn; omega
  | m + 1, [], n, h0, hn, hl => by simp at hl
  | m + 1, c :: l, n, h0, hn, hl => by
    rw [bend, if_neg h0]
    intro e
    obtain ⟨e1, e2⟩ := List.cons.inj e
    by_cases hb : n % 256 = 0
    · exact bend_ne m l (n / 256) (by omega) (by rw [Nat.pow_succ] at hn; omega) (by simpa using hl) e2
    · have h1 : (c ^^^ b8 n).toNat = c.toNat := by rw [e1]
      have h2 : (c ^^^ (c ^^^ b8 n)).toNat = 0 := by rw [e1]; simp
      rw [← UInt8.xor_assoc, UInt8.xor_self, UInt8.zero_xor, b8_toNat] at h2
      exact hb h2
theorem bentL_ne {l : List UInt8} {k N : Nat} (h0 : N ≠ 0) (hN : N < 4294967296) (hk : k + 4 ≤ l.length) : bentL l k N ≠ l := by
  intro e
  have h := bend_ne 4 (l.drop k) N h0 (by have h4 : (256 : Nat) ^ 4 = 4294967296 := by decide
                                          omega) (by rw [List.length_drop]; omega)
  apply h
  have e2 : l.take k ++ bend (l.drop k) N = l.take k ++ l.drop k := by rw [List.take_append_drop]; exact e
  exact List.append_cancel_left e2
/-- What is turned over stands there no more. -/
theorem turn_none (p : List UInt8) (k N : Nat) (hp : p.length ≤ 65536) (h0 : N ≠ 0) (hN : N < 4294967296) (hk : 4 ≤ k) (hl : k + 4 ≤ p.length + 8) : gB (bentL (recL p) k N) = false := by
  have hlen : (bentL (recL p) k N).length = p.length + 8 := by rw [bentL_len, recL_len]
  have hn : gN (bentL (recL p) k N) = p.length := by
    have e : (bentL (recL p) k N).take 4 = (recL p).take 4 := by
      unfold bentL
      rw [List.take_append_of_le_length (by rw [List.length_take, recL_len]; omega), List.take_take, Nat.min_eq_left hk]
    unfold gN
    rw [e]
    have := gN_rec p [] hp
    rwa [List.append_nil] at this
  have ho := g_open (l := bentL (recL p) k N) (by omega) (by omega) (by omega)
  rw [hn, List.take_of_length_le (by omega)] at ho
  rw [← ho]
  have hne : bentL (recL p) k N ≠ recL p := bentL_ne h0 hN (by rw [recL_len]; omega)
  exact bent_seal (by unfold two32; exact hN) hne

theorem u16_of {n : Int} (h : (Lit.int .u16 n).wf = true) : ∃ N : Nat, n = N ∧ N < 65536 := by
  simp only [Lit.wf, IntKind.min, IntKind.max, IntKind.signed, IntKind.bits, Bool.and_eq_true] at h
  simp at h
  exact ⟨n.toNat, by omega, by omega⟩
theorem u32_at {n : Int} (h : (Lit.int .u32 n).wf = true) : ∃ N : Nat, n = N ∧ N < 4294967296 := by
  simp only [Lit.wf, IntKind.min, IntKind.max, IntKind.signed, IntKind.bits, Bool.and_eq_true] at h
  simp at h
  exact ⟨n.toNat, by omega, by omega⟩

set_option maxRecDepth 100000 in
set_option maxHeartbeats 2000000 in
theorem recordsTurned_stop (p : ByteArray) (A N : Nat) (w : World) (hp : p.size ≤ maxLen) (h : 1000 < p.size ∨ N = 0) :
    Calls Try.prog 8 #[.string p, .int .u16 (A : Int), .int .u32 (N : Int)] w fun e w' => e = .returned (.bool true) ∧ Keeps w w' := by
  by_cases h1 : 1000 < p.size
  · have t1 : decide ((1000 : Int) < (p.size : Int)) = true := decide_eq_true (by omega)
    clear h h1
    go_enter Try.func8, Try.ntmps8
    go_wp2_with (go_at_call 9; refine (recorded_any _).mono ?_; rintro e w' ⟨rfl, hk1⟩)
    go_ret
    exact ⟨rfl, hk1⟩
  · obtain rfl : N = 0 := by omega
    have t1 : decide ((1000 : Int) < (p.size : Int)) = false := decide_eq_false (by omega)
    clear h h1
    go_enter Try.func8, Try.ntmps8
    go_wp2_with (go_at_call 9; refine (recorded_any _).mono ?_; rintro e w' ⟨rfl, hk1⟩)
    go_ret
    exact ⟨rfl, hk1⟩

theorem turned_lies {wr : World} {g K i N : Nat} {l : List UInt8} {c : UInt8} {v : Int} (hl : Lies wr g (turnL l K i N)) (hlen : K + i < (turnL l K i N).length) (hst : (turnL l K i N).set (K + i) (c ^^^ b8 (N / 256 ^ i)) = turnL l K (i + 1) N)
    (hv : v = bits .xor .u8 (c.toNat : Int) (((N / 256 ^ i) % 256 : Nat) : Int)) : Lies (wr.setCell ⟨g, K + i, none⟩ (.int .u8 v)).drew g (turnL l K (i + 1) N) := by
  rw [← hst]
  exact hl.set (K + i) hlen v _ (by rw [hv, ← xor8, b8_toNat])
set_option maxRecDepth 100000 in
set_option maxHeartbeats 8000000 in
theorem recordsTurned_some (p : ByteArray) (A N : Nat) (w : World) (hp : p.size ≤ 1000) (hA : A < 65536) (hN : N < 4294967296) (h0 : N ≠ 0) :
    Calls Try.prog 8 #[.string p, .int .u16 (A : Int), .int .u32 (N : Int)] w fun e w' => e = .returned (.bool true) ∧ Keeps w w' := by
  have hR := recB_size p
  have hRd := recB_data p
  obtain ⟨R, hRe⟩ : ∃ R, recB p = R := ⟨_, rfl⟩
  have C1 := Lib.hid fun (W : World) => recPut_any p W (by omega)
  rw [hRe] at C1 hR hRd
  obtain ⟨D, hD⟩ : ∃ D : Nat, (R.size : Int) - 7 = (D : Int) := ⟨R.size - 7, by omega⟩
  obtain ⟨q, hq⟩ : ∃ q : Nat, (A : Int) % (D : Int) = (q : Int) := ⟨A % D, by omega⟩
  have hqD : q < D := by
    have : (A : Int) % (D : Int) < (D : Int) := Int.emod_lt_of_pos _ (by omega)
    omega
  obtain ⟨K, hK⟩ : ∃ K : Nat, (4 : Int) + (q : Int) = (K : Int) := ⟨4 + q, by omega⟩
  have hK4 : 4 ≤ K := by omega
  have hKR : K + 4 ≤ R.size := by omega
  have HN := Lib.hid hN
  have H0 := Lib.hid h0
  have HNONE := Lib.hid (turn_none p.data.toList K N (by rw [len_data]; omega) h0 hN hK4 (by rw [len_data]; omega))
  have HRD := Lib.hid hRd
  have HRS := Lib.hid hR
  have hD1 : 0 < (D : Int) := by omega
  have hD2 : (D : Int) ≤ 2000 := by omega
  have hA2 : (A : Int) ≤ 65535 := by omega
  have hq2 : (q : Int) ≤ 2000 := by omega
  have hRb : R.size ≤ 1008 := by omega
  have hR8 : 8 ≤ R.size := by omega
  have t1 : decide ((1000 : Int) < (p.size : Int)) = false := decide_eq_false (by omega)
  have t2 : ((N : Int) == 0) = false := beq_eq_false_iff_ne.2 (by omega)
  have t3 : decide ((R.size : Int) < 8) = false := decide_eq_false (by omega)
  have hN2 : (N : Int) ≤ 4294967295 := by omega
  clear hR hRd hRe hN h0 hp hA hqD
  go_enter Try.func8, Try.ntmps8
  go_wp2_with fail
  refine (C1.out _).mono ?_
  rintro e w1 ⟨rfl, k1⟩
  obtain ⟨cap, w2, hr, hcap, hk2, hl2, hlt2⟩ := bytes_lie w1 R
  have K2 := Lib.hid (Keeps.trans k1 hk2)
  have L2 := Lib.hid hl2
  have H1 := Lib.hid k1.size
  clear k1 hk2 hl2
  go_wp2
  clear hr
  go_loopw [11] (fun vi wr => ∃ i : Nat, i ≤ 4 ∧ vi = .int .i64 (i : Int) ∧ Lies wr w1.heap.size (turnL R.data.toList K i N) ∧ Keeps w wr) (fun vi _ => 4 - (intOf vi).toNat)
  case atStart => exact ⟨0, by omega, rfl, by rw [turn_zero]; exact L2.out, K2.out⟩
  case round =>
    obtain ⟨i, hi, rfl, hl, hkw⟩ := hrel
    have HLI := Lib.hid hl
    have HK := Lib.hid hkw
    clear hl hkw L2 K2
    by_cases hlt : i < 4
    · obtain ⟨c, hc⟩ : ∃ c, R.data.toList[K + i]? = some c := ⟨_, List.getElem?_eq_getElem (by rw [len_data]; omega)⟩
      have hct := turn_at R.data.toList K i N c hc
      have HST := Lib.hid (turn_step R.data.toList K i N c hc)
      have hlen : K + i < (turnL R.data.toList K i N).length := by rw [turn_len, len_data]; omega
      have hcell : wr.cell? ⟨w1.heap.size, K + i, none⟩ = some (.int .u8 (c.toNat : Int)) := by
        rw [HLI.out.at (K + i) hlen]
        congr 2
        have := (List.getElem?_eq_some_iff.1 hct).2
        rw [this]
      have hfz := HLI.out.loose (K + i) hlen
      have hb1 : K + i < R.size := by omega
      have hb2 : (K : Int) + (i : Int) < (R.size : Int) := by omega
      have hlt2 : (i : Int) < 4 := by omega
      have HLEN := Lib.hid hlen
      clear hc hct hlen
      rcases (show i = 0 ∨ i = 1 ∨ i = 2 ∨ i = 3 from by omega) with rfl | rfl | rfl | rfl
      · simp only [Nat.add_zero] at hcell hfz hb1
        go_wp2
        go_region
        go_wp2
        go_roundw
        case rel => exact ⟨1, by omega, rfl, turned_lies (i := 0) HLI.out HLEN.out HST.out (by first | (congr 1; done) | (congr 1; simp; done) | (congr 1; omega)), (HK.out.setCell (Nat.le_refl _ |> fun h => Nat.le_trans H1.out h) _).drew⟩
        case measure => simp [intOf]
      · go_wp2
        go_region
        go_wp2
        go_roundw
        case rel => exact ⟨2, by omega, rfl, turned_lies (i := 1) HLI.out HLEN.out HST.out (by first | (congr 1; done) | (congr 1; simp; done) | (congr 1; omega)), (HK.out.setCell (Nat.le_refl _ |> fun h => Nat.le_trans H1.out h) _).drew⟩
        case measure => simp [intOf]
      · go_wp2
        go_region
        go_wp2
        go_roundw
        case rel => exact ⟨3, by omega, rfl, turned_lies (i := 2) HLI.out HLEN.out HST.out (by first | (congr 1; done) | (congr 1; simp; done) | (congr 1; omega)), (HK.out.setCell (Nat.le_refl _ |> fun h => Nat.le_trans H1.out h) _).drew⟩
        case measure => simp [intOf]
      · go_wp2
        go_region
        go_wp2
        go_roundw
        case rel => exact ⟨4, by omega, rfl, turned_lies (i := 3) HLI.out HLEN.out HST.out (by first | (congr 1; done) | (congr 1; simp; done) | (congr 1; omega)), (HK.out.setCell (Nat.le_refl _ |> fun h => Nat.le_trans H1.out h) _).drew⟩
        case measure => simp [intOf]
    · obtain rfl : i = 4 := by omega
      have hz : ¬ ((4 : Int) < 4) := by omega
      have hlen : (turnL R.data.toList K 4 N).length = R.size := by rw [turn_len, len_data]
      have htx := HLI.out.text (P := Try.prog) 34 5 9 Try.underlying34 Try.underlying5 Try.underlying9 R.size cap hlen
      obtain ⟨S, hS⟩ : ∃ S : ByteArray, (⟨(turnL R.data.toList K 4 N).toArray⟩ : ByteArray) = S := ⟨_, rfl⟩
      rw [hS] at htx
      have hSd : S.data.toList = bentL (recL p.data.toList) K N := by rw [← hS, data_mk, turn_bent _ _ _ HN.out, HRD.out]
      have hSs : S.size = R.size := by rw [← hS, size_mk, hlen]
      have hno : gB S.data.toList = false := by rw [hSd]; exact HNONE.out
      have C2 := Lib.hid fun (W : World) => get_is S ⟨#[]⟩ 0 0 false W (by unfold maxLen; omega) (Or.inr ⟨by unfold I64 top; omega, Or.inr (Or.inr hno), rfl, rfl, rfl⟩)
      have C3 := Lib.hid fun (W : World) => whole_is S [] 0 0 [] W (by omega) ⟨Trail.nil, hno⟩ rfl rfl
      have HSEQ := Lib.hid hS
      clear hS hSd hSs hno hlen
      go_wp2_with fail
      refine (C2.out _).mono ?_
      rintro e w3 ⟨rfl, k3⟩
      have htx3 := ((HLI.out.keeps k3).text (P := Try.prog) 34 5 9 Try.underlying34 Try.underlying5 Try.underlying9 R.size cap (by rw [turn_len, len_data]))
      rw [HSEQ.out] at htx3
      have K3 := Lib.hid (HK.out.trans k3)
      clear k3 htx
      go_wp2_with fail
      refine (C3.out _).mono ?_
      rintro e w4 ⟨p4, c4, rfl, _, k4⟩
      have K4 := Lib.hid (K3.out.trans k4)
      clear k4 htx3
      go_wp2_with fail
      refine (recorded_any _).mono ?_
      rintro e w5 ⟨rfl, k5⟩
      go_wp2
      go_ret
      exact ⟨rfl, K4.out.trans k5⟩
theorem recordsTurned_go (p : ByteArray) (a n : Int) (w : World) (hp : p.size ≤ maxLen) (ha : (Lit.int .u16 a).wf = true) (hn : (Lit.int .u32 n).wf = true) :
    Calls Try.prog 8 #[.string p, .int .u16 a, .int .u32 n] w fun e w' => e = .returned (.bool true) ∧ Keeps w w' := by
  obtain ⟨A, rfl, hA⟩ := u16_of ha
  obtain ⟨N, rfl, hN⟩ := u32_at hn
  by_cases h : 1000 < p.size ∨ N = 0
  · exact recordsTurned_stop p A N w hp h
  · exact recordsTurned_some p A N w (by omega) hA hN (by omega)
end Go.Proofs.Ytnjajndiljlocaa
