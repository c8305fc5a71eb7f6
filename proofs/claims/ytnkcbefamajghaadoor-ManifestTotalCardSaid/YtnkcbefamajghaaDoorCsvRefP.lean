
/- The contracts of the document's has, Print; of the statements' Great. -/
import Derived.Test.YtnkcbefamajghaaDoorCsvPrintC
import Derived.Test.YtnkcbefamajghaaDoorCsvRefC
set_option linter.unusedVariables false
namespace Go.Proofs.YtnkcbefamajghaaDoor
open Go.ChangeShapes Go.WideShapes Go.ChangeAt Go.RowKit Go.Shelf Go.Proofs Csv

/-- Has a text a byte? -/
def hasB (l : Bs) (c : UInt8) : Bool := l.contains c

theorem has_step (s : ByteArray) (k : Nat) (h : k < s.size) (c : UInt8) : (s.data.toList.take (k + 1)).contains c = ((s.data.toList.take k).contains c || c == s[k]) := by
  rw [List.take_succ_eq_append_getElem (by simpa using h), List.contains_eq_any_beq, List.contains_eq_any_beq, List.any_append]
  simp; rfl

set_option maxHeartbeats 1000000 in
theorem has_any (s : ByteArray) (c : UInt8) (v : Int) (hv : v = (c.toNat : Int)) (w : World) (hs : s.size ≤ maxLen) :
    Calls Tryd.prog 35 #[.string s, .int .u8 v] w fun e w' => e = .returned (.bool (hasB s.data.toList c)) ∧ w = w' := by
  unfold maxLen at hs
  subst hv
  go_enter Tryd.func35, Tryd.ntmps35
  go_wp2
  go_loop [5] (fun i => ∃ k : Nat, k ≤ s.size ∧ i = .int .i64 k ∧ (s.data.toList.take k).contains c = false) (fun i => s.size - (intOf i).toNat)
  case atStart => exact ⟨0, by omega, rfl, by simp⟩
  case round =>
    obtain ⟨k, hk, rfl, hc⟩ := hrel
    have HC := Lib.hid hc
    clear hc
    by_cases hlt : k < s.size
    · obtain ⟨x, hx⟩ : ∃ x, s[k]'hlt = x := ⟨_, rfl⟩
      have hx2 : s[(k : Int).toNat]'(by simpa using hlt) = x := by simpa using hx
      have hst := has_step s k hlt c
      rw [hx, HC.out, Bool.false_or] at hst
      have HST := Lib.hid hst
      clear hst
      by_cases hxc : x = c
      · have t : ((x.toNat : Int) == (c.toNat : Int)) = true := by rw [hxc]; simp
        have HXC := Lib.hid hxc
        clear hxc
        go_wp2
        go_ret
        refine ⟨ret_bool ?_, rfl⟩
        have h1 : c ∈ s.data.toList.take (k + 1) := by
          have h := HST.out
          rw [HXC.out] at h
          simpa using h
        have h2 : c ∈ s.data.toList := List.mem_of_mem_take h1
        unfold hasB; simpa using h2
      · have t : ((x.toNat : Int) == (c.toNat : Int)) = false := by
          rw [beq_eq_false_iff_ne]; intro e
          exact hxc (UInt8.toNat_inj.1 (by omega))
        have HXC := Lib.hid hxc
        clear hxc
        go_wp2
        go_round
        case rel =>
          refine ⟨k + 1, by omega, by go_num, ?_⟩
          rw [HST.out, beq_eq_false_iff_ne]
          exact fun e => HXC.out e.symm
        case measure => simp [intOf]; omega
    · obtain rfl : k = s.size := by omega
      have hz : ¬ ((s.size : Int) < (s.size : Int)) := by omega
      have hf : hasB s.data.toList c = false := by
        unfold hasB
        have h := HC.out
        rw [List.take_of_length_le (by rw [len_data]; omega)] at h; exact h
      have HF := Lib.hid hf
      clear hf
      go_wp2
      go_ret
      exact ⟨ret_bool HF.out.symm, rfl⟩

theorem quotes_has (l : Bs) : quotes l = (hasB l 44 || hasB l 34 || hasB l 10 || hasB l 13) := by
  unfold quotes hasB
  induction l with
  | nil => rfl
  | cons c l ih =>
    rw [List.any_cons, ih, List.contains_cons, List.contains_cons, List.contains_cons, List.contains_cons]
    unfold isSp
    have e : ∀ n : UInt8, (n == c) = (c == n) := fun n => by rw [Bool.eq_iff_iff, beq_iff_eq, beq_iff_eq]; exact eq_comm
    rw [e 44, e 34, e 10, e 13]
    cases (c == 44) <;> cases (c == 34) <;> cases (c == 10) <;> cases (c == 13) <;> cases l.contains 44 <;> cases l.contains 34 <;> cases l.contains 10 <;> cases l.contains 13 <;> rfl

theorem cat_list (a b : ByteArray) : (a ++ b).data.toList = a.data.toList ++ b.data.toList := by simp
theorem dbl_take (l : Bs) (k : Nat) (c : UInt8) (h : l[k]? = some c) : dbl (l.take (k + 1)) = dbl (l.take k) ++ (if c = 34 then [34, 34] else [c]) := by
  rw [List.take_add_one, h]
  show dbl (l.take k ++ [c]) = _
  rw [dbl_append]; simp only [dbl]
theorem dbl_part (l : Bs) (k : Nat) : (dbl (l.take k)).length ≤ (dbl l).length := by
  have : dbl l = dbl (l.take k) ++ dbl (l.drop k) := by rw [← dbl_append, List.take_append_drop]
  rw [this, List.length_append]; omega
theorem size_of (s : ByteArray) : s.size = s.data.toList.length := by rw [len_data]

set_option maxRecDepth 100000 in
set_option maxHeartbeats 8000000 in
theorem rprint_any (v : Value) (L : List (List Bs)) (w : World) (hL : RowsAt w v L) (hf : Fits L) :
    Calls Tryd.prog 16 #[v] w fun e w' => e = .returned (.string ⟨(prRows L).toArray⟩) ∧ w = w' := by
  obtain ⟨pL, cL, rfl, lL, hL⟩ := hL
  have HL := Lib.hid hL
  have HF := Lib.hid hf
  clear hL hf
  unfold maxLen at lL
  go_enter Tryd.func16, Tryd.ntmps16
  go_wp2
  go_loop [3, 4] (fun o i => ∃ (k : Nat) (S : ByteArray), k ≤ L.length ∧ i = .int .i64 k ∧ o = .string S ∧ S.data.toList = prRows (L.take k)) (fun _ i => L.length - (intOf i).toNat)
  case atStart => exact ⟨0, _, by omega, rfl, rfl, rfl⟩
  case round =>
    obtain ⟨k, S, hk, rfl, rfl, hS⟩ := hrel
    have HS := Lib.hid hS
    clear hS
    by_cases hlt : k < L.length
    · obtain ⟨r, hr⟩ : ∃ r, L[k]? = some r := ⟨_, List.getElem?_eq_getElem hlt⟩
      obtain ⟨a, v', rfl, hca, hst⟩ := HL.out k r hr
      obtain ⟨pr, cr, rfl, lr, hst⟩ := hst
      have HR := Lib.hid hr
      have HST := Lib.hid hst
      have hFr := HF.out.field r (List.mem_of_getElem? hr)
      have HFR := Lib.hid hFr
      have hsum : (prRows (L.take k)).length + (prJoin r).length + 1 ≤ 900000 := by
        have h1 := prRows_part L (k + 1)
        rw [prRows_take L k r hr] at h1
        have h2 := HF.out.all
        simp only [List.length_append, List.length_cons, List.length_nil] at h1
        omega
      have hi1 : (k : Int) < (L.length : Int) := by omega
      unfold maxLen at lr
      clear hr hst hFr
      go_wp2
      go_loop [3, 5] (fun o i => ∃ (m : Nat) (S : ByteArray), m ≤ r.length ∧ i = .int .i64 m ∧ o = .string S ∧ S.data.toList = prRows (L.take k) ++ prJoin (r.take m)) (fun _ i => r.length - (intOf i).toNat)
      case atStart => exact ⟨0, _, by omega, rfl, rfl, by rw [HS.out]; simp [prJoin]⟩
      case round =>
        obtain ⟨m, S2, hm, rfl, rfl, hS2⟩ := hrel
        have hpart := prJoin_part r m
        have hs2 : S2.size ≤ 900000 := by rw [size_of, hS2, List.length_append]; omega
        have HS2 := Lib.hid hS2
        clear hS2
        by_cases hlm : m < r.length
        · obtain ⟨x, hx⟩ : ∃ x, r[m]? = some x := ⟨_, List.getElem?_eq_getElem hlm⟩
          obtain ⟨a2, rfl, hcx⟩ := HST.out m x hx
          obtain ⟨X, hX⟩ : ∃ X : ByteArray, (⟨x.toArray⟩ : ByteArray) = X := ⟨_, rfl⟩
          have hXl : X.data.toList = x := by rw [← hX]
          have hcx' : w.cell? (a2.add m) = some (.string X) := by rw [← hX]; exact hcx
          have hj1 : (m : Int) < (r.length : Int) := by omega
          have hxl : x.length ≤ 65536 := HFR.out x (List.mem_of_getElem? hx)
          have hXs : X.size ≤ 65536 := by rw [size_of, hXl]; exact hxl
          have hstep := prJoin_take r m x hx
          have hpl := prt_length x
          have HST2 := Lib.hid hstep
          have HXL := Lib.hid hXl
          have hq := quotes_has x
          have HQ := Lib.hid hq
          have c1 := has_any X 44 44 rfl w (by unfold maxLen; omega)
          have c2 := has_any X 34 34 rfl w (by unfold maxLen; omega)
          have c3 := has_any X 10 10 rfl w (by unfold maxLen; omega)
          have c4 := has_any X 13 13 rfl w (by unfold maxLen; omega)
          rw [hXl] at c1 c2 c3 c4
          have C := Lib.hid (And.intro c1 (And.intro c2 (And.intro c3 c4)))
          clear hx hcx hX hXl hstep hq c1 c2 c3 c4
          obtain ⟨b1, e1⟩ : ∃ b, hasB x 44 = b := ⟨_, rfl⟩
          obtain ⟨b2, e2⟩ : ∃ b, hasB x 34 = b := ⟨_, rfl⟩
          obtain ⟨b3, e3⟩ : ∃ b, hasB x 10 = b := ⟨_, rfl⟩
          obtain ⟨b4, e4⟩ : ∃ b, hasB x 13 = b := ⟨_, rfl⟩
          rw [e1, e2, e3, e4] at HQ
          rw [e1, e2, e3, e4] at C
          clear e1 e2 e3 e4
          by_cases hm0 : m = 0
          · subst hm0
            have hcx0 : w.cell? a2 = some (.string X) := by rw [← csAdd_nought a2]; exact hcx'
            obtain ⟨S1, hS1⟩ : ∃ S1, S1 = S2 := ⟨_, rfl⟩
            obtain ⟨A, hA⟩ : ∃ A, A = prRows (L.take k) ++ prJoin (r.take 0) := ⟨_, rfl⟩
            subst hS1
            have HS1 := Lib.hid (show S1.data.toList = A from by rw [HS2.out, hA])
            have HA := Lib.hid (show A.length ≤ 900000 from by rw [hA, List.length_append]; omega)
            have HJ := Lib.hid (show prRows (L.take k) ++ prJoin (r.take 1) = A ++ prt x from by rw [hA, HST2.out]; simp [prJoin])
            clear hA
            by_cases hq : quotes x = true
            · have HP := Lib.hid (show prt x = 34 :: (dbl x ++ [34]) from by unfold prt; rw [if_pos hq])
              have hdl : (dbl x).length ≤ 131072 := by have := (dbl_length x).2; omega
              obtain ⟨S4, hS4⟩ : ∃ S4, S1 ++ ⟨#[34]⟩ = S4 := ⟨_, rfl⟩
              have HS4 := Lib.hid (show S4.data.toList = A ++ [34] from by rw [← hS4, cat_list, HS1.out])
              have hb := HQ.out
              rw [hq] at hb
              clear hq
              have hways : (b1 = true) ∨ (b1 = false ∧ b2 = true) ∨ (b1 = false ∧ b2 = false ∧ b3 = true) ∨ (b1 = false ∧ b2 = false ∧ b3 = false ∧ b4 = true) := by
                revert hb; cases b1 <;> cases b2 <;> cases b3 <;> cases b4 <;> decide
              clear hb
              rcases hways with rfl | ⟨rfl, rfl⟩ | ⟨rfl, rfl, rfl⟩ | ⟨rfl, rfl, rfl, rfl⟩
              all_goals
                go_wp2_with (first
                  | (go_at_call 35; (with_reducible refine C.out.1.mono ?_); rintro e w' ⟨rfl, rfl⟩)
                  | (go_at_call 35; (with_reducible refine C.out.2.1.mono ?_); rintro e w' ⟨rfl, rfl⟩)
                  | (go_at_call 35; (with_reducible refine C.out.2.2.1.mono ?_); rintro e w' ⟨rfl, rfl⟩)
                  | (go_at_call 35; (with_reducible refine C.out.2.2.2.mono ?_); rintro e w' ⟨rfl, rfl⟩))
                clear hS4
                go_loop [3, 7] (fun o j => ∃ (q : Nat) (T : ByteArray), q ≤ X.size ∧ j = .int .i64 q ∧ o = .string T ∧ T.data.toList = A ++ 34 :: dbl (x.take q)) (fun _ j => X.size - (intOf j).toNat)
                case atStart => exact ⟨0, S4, by omega, rfl, rfl, by rw [HS4.out]; simp [dbl]⟩
                case round =>
                  obtain ⟨q, T, hqx, rfl, rfl, hT⟩ := hrel
                  have hts : T.size ≤ 1100000 := by
                    have h1 := dbl_part x q
                    have h2 := HA.out
                    rw [size_of, hT, List.length_append, List.length_cons]; omega
                  have HT := Lib.hid hT
                  clear hT
                  by_cases hlq : q < X.size
                  · obtain ⟨c, hc⟩ : ∃ c, X[q]'hlq = c := ⟨_, rfl⟩
                    have hc2 : X[(q : Int).toNat]'(by simpa using hlq) = c := by simpa using hc
                    have hxq : x[q]? = some c := by rw [← HXL.out, Lib.data_getElem? X q hlq, hc]
                    have hdt := dbl_take x q c hxq
                    have HDT := Lib.hid hdt
                    have hone := ext_one hlq
                    obtain ⟨q1, hq1⟩ : ∃ q1, q1 = q + 1 := ⟨_, rfl⟩
                    have hQ1 : (q : Int) + 1 = (q1 : Int) := by omega
                    have hq2 : q ≤ q1 := by omega
                    have hq3 : q1 ≤ X.size := by omega
                    have hlq2 : (q : Int) < (X.size : Int) := by omega
                    rw [← hq1, hc] at hone
                    have HQ1 := Lib.hid hq1
                    clear hxq hdt hq1
                    by_cases h34 : c = 34
                    · have t : ((c.toNat : Int) == 34) = true := by rw [h34]; rfl
                      have H34 := Lib.hid h34
                      obtain ⟨T1, hT1⟩ : ∃ T1, T ++ ⟨#[34]⟩ = T1 := ⟨_, rfl⟩
                      obtain ⟨T2, hT2⟩ : ∃ T2, T1 ++ ⟨#[c]⟩ = T2 := ⟨_, rfl⟩
                      have HT2 := Lib.hid (show T2.data.toList = A ++ 34 :: dbl (x.take (q + 1)) from by
                        rw [← hT2, cat_list, ← hT1, cat_list, HT.out, HDT.out, if_pos H34.out, H34.out]; simp)
                      have hts1 : T1.size ≤ 1100001 := by rw [← hT1, ByteArray.size_append]; show T.size + 1 ≤ _; omega
                      clear h34
                      go_wp2
                      go_round
                      case rel =>
                        obtain rfl := HQ1.out
                        exact ⟨q + 1, T2, by omega, rfl, rfl, HT2.out⟩
                      case measure => simp [intOf]; omega
                    · have t : ((c.toNat : Int) == 34) = false := u8_ne (n := 34) (by decide) h34
                      have H34 := Lib.hid h34
                      obtain ⟨T2, hT2⟩ : ∃ T2, T ++ ⟨#[c]⟩ = T2 := ⟨_, rfl⟩
                      have HT2 := Lib.hid (show T2.data.toList = A ++ 34 :: dbl (x.take (q + 1)) from by
                        rw [← hT2, cat_list, HT.out, HDT.out, if_neg H34.out]; simp)
                      clear h34
                      go_wp2
                      go_round
                      case rel =>
                        obtain rfl := HQ1.out
                        exact ⟨q + 1, T2, by omega, rfl, rfl, HT2.out⟩
                      case measure => simp [intOf]; omega
                  · obtain rfl : q = X.size := by omega
                    have hz : ¬ ((X.size : Int) < (X.size : Int)) := by omega
                    obtain ⟨T2, hT2⟩ : ∃ T2, T ++ ⟨#[34]⟩ = T2 := ⟨_, rfl⟩
                    have HT2 := Lib.hid (show T2.data.toList = prRows (L.take k) ++ prJoin (r.take (1)) from by
                      rw [← hT2, cat_list, HT.out, List.take_of_length_le (by rw [size_of, HXL.out]; exact Nat.le_refl _), HJ.out, HP.out]; simp)
                    go_wp2
                    go_round
                    case rel => exact ⟨1, T2, by omega, rfl, rfl, HT2.out⟩
                    case measure => simp [intOf]; omega
            · have HP := Lib.hid (show prt x = x from by unfold prt; rw [if_neg hq])
              have hb := HQ.out
              rw [Bool.eq_false_iff.2 hq] at hb
              clear hq
              have hways : b1 = false ∧ b2 = false ∧ b3 = false ∧ b4 = false := by
                revert hb; cases b1 <;> cases b2 <;> cases b3 <;> cases b4 <;> decide
              clear hb
              obtain ⟨rfl, rfl, rfl, rfl⟩ := hways
              obtain ⟨S5, hS5⟩ : ∃ S5, S1 ++ X = S5 := ⟨_, rfl⟩
              have HS5 := Lib.hid (show S5.data.toList = prRows (L.take k) ++ prJoin (r.take (1)) from by
                rw [← hS5, cat_list, HS1.out, HXL.out, HJ.out, HP.out])
              go_wp2_with (first
                  | (go_at_call 35; (with_reducible refine C.out.1.mono ?_); rintro e w' ⟨rfl, rfl⟩)
                  | (go_at_call 35; (with_reducible refine C.out.2.1.mono ?_); rintro e w' ⟨rfl, rfl⟩)
                  | (go_at_call 35; (with_reducible refine C.out.2.2.1.mono ?_); rintro e w' ⟨rfl, rfl⟩)
                  | (go_at_call 35; (with_reducible refine C.out.2.2.2.mono ?_); rintro e w' ⟨rfl, rfl⟩))
              go_round
              case rel => exact ⟨1, S5, by omega, rfl, rfl, HS5.out⟩
              case measure => simp [intOf]; omega
          · have hm1 : (0 : Int) < (m : Int) := by omega
            obtain ⟨S1, hS1⟩ : ∃ S1, S2 ++ ⟨#[44]⟩ = S1 := ⟨_, rfl⟩
            obtain ⟨A, hA⟩ : ∃ A, A = prRows (L.take k) ++ prJoin (r.take m) ++ [44] := ⟨_, rfl⟩
            have HS1 := Lib.hid (show S1.data.toList = A from by rw [← hS1, cat_list, HS2.out, hA])
            have HA := Lib.hid (show A.length ≤ 900000 from by rw [hA, List.length_append, List.length_append]; simp only [List.length_cons, List.length_nil]; omega)
            have hs1 : S1.size ≤ 900000 := by rw [size_of, HS1.out]; exact HA.out
            have HJ := Lib.hid (show prRows (L.take k) ++ prJoin (r.take (m + 1)) = A ++ prt x from by rw [hA, HST2.out, if_neg hm0]; simp)
            have HM0 := Lib.hid hm0
            clear hA hm0
            by_cases hq : quotes x = true
            · have HP := Lib.hid (show prt x = 34 :: (dbl x ++ [34]) from by unfold prt; rw [if_pos hq])
              have hdl : (dbl x).length ≤ 131072 := by have := (dbl_length x).2; omega
              obtain ⟨S4, hS4⟩ : ∃ S4, S1 ++ ⟨#[34]⟩ = S4 := ⟨_, rfl⟩
              have HS4 := Lib.hid (show S4.data.toList = A ++ [34] from by rw [← hS4, cat_list, HS1.out])
              have hb := HQ.out
              rw [hq] at hb
              clear hq
              have hways : (b1 = true) ∨ (b1 = false ∧ b2 = true) ∨ (b1 = false ∧ b2 = false ∧ b3 = true) ∨ (b1 = false ∧ b2 = false ∧ b3 = false ∧ b4 = true) := by
                revert hb; cases b1 <;> cases b2 <;> cases b3 <;> cases b4 <;> decide
              clear hb
              rcases hways with rfl | ⟨rfl, rfl⟩ | ⟨rfl, rfl, rfl⟩ | ⟨rfl, rfl, rfl, rfl⟩
              all_goals
                go_wp2_with (first
                  | (go_at_call 35; (with_reducible refine C.out.1.mono ?_); rintro e w' ⟨rfl, rfl⟩)
                  | (go_at_call 35; (with_reducible refine C.out.2.1.mono ?_); rintro e w' ⟨rfl, rfl⟩)
                  | (go_at_call 35; (with_reducible refine C.out.2.2.1.mono ?_); rintro e w' ⟨rfl, rfl⟩)
                  | (go_at_call 35; (with_reducible refine C.out.2.2.2.mono ?_); rintro e w' ⟨rfl, rfl⟩))
                clear hS4
                go_loop [3, 7] (fun o j => ∃ (q : Nat) (T : ByteArray), q ≤ X.size ∧ j = .int .i64 q ∧ o = .string T ∧ T.data.toList = A ++ 34 :: dbl (x.take q)) (fun _ j => X.size - (intOf j).toNat)
                case atStart => exact ⟨0, S4, by omega, rfl, rfl, by rw [HS4.out]; simp [dbl]⟩
                case round =>
                  obtain ⟨q, T, hqx, rfl, rfl, hT⟩ := hrel
                  have hts : T.size ≤ 1100000 := by
                    have h1 := dbl_part x q
                    have h2 := HA.out
                    rw [size_of, hT, List.length_append, List.length_cons]; omega
                  have HT := Lib.hid hT
                  clear hT
                  by_cases hlq : q < X.size
                  · obtain ⟨c, hc⟩ : ∃ c, X[q]'hlq = c := ⟨_, rfl⟩
                    have hc2 : X[(q : Int).toNat]'(by simpa using hlq) = c := by simpa using hc
                    have hxq : x[q]? = some c := by rw [← HXL.out, Lib.data_getElem? X q hlq, hc]
                    have hdt := dbl_take x q c hxq
                    have HDT := Lib.hid hdt
                    have hone := ext_one hlq
                    obtain ⟨q1, hq1⟩ : ∃ q1, q1 = q + 1 := ⟨_, rfl⟩
                    have hQ1 : (q : Int) + 1 = (q1 : Int) := by omega
                    have hq2 : q ≤ q1 := by omega
                    have hq3 : q1 ≤ X.size := by omega
                    have hlq2 : (q : Int) < (X.size : Int) := by omega
                    rw [← hq1, hc] at hone
                    have HQ1 := Lib.hid hq1
                    clear hxq hdt hq1
                    by_cases h34 : c = 34
                    · have t : ((c.toNat : Int) == 34) = true := by rw [h34]; rfl
                      have H34 := Lib.hid h34
                      obtain ⟨T1, hT1⟩ : ∃ T1, T ++ ⟨#[34]⟩ = T1 := ⟨_, rfl⟩
                      obtain ⟨T2, hT2⟩ : ∃ T2, T1 ++ ⟨#[c]⟩ = T2 := ⟨_, rfl⟩
                      have HT2 := Lib.hid (show T2.data.toList = A ++ 34 :: dbl (x.take (q + 1)) from by
                        rw [← hT2, cat_list, ← hT1, cat_list, HT.out, HDT.out, if_pos H34.out, H34.out]; simp)
                      have hts1 : T1.size ≤ 1100001 := by rw [← hT1, ByteArray.size_append]; show T.size + 1 ≤ _; omega
                      clear h34
                      go_wp2
                      go_round
                      case rel =>
                        obtain rfl := HQ1.out
                        exact ⟨q + 1, T2, by omega, rfl, rfl, HT2.out⟩
                      case measure => simp [intOf]; omega
                    · have t : ((c.toNat : Int) == 34) = false := u8_ne (n := 34) (by decide) h34
                      have H34 := Lib.hid h34
                      obtain ⟨T2, hT2⟩ : ∃ T2, T ++ ⟨#[c]⟩ = T2 := ⟨_, rfl⟩
                      have HT2 := Lib.hid (show T2.data.toList = A ++ 34 :: dbl (x.take (q + 1)) from by
                        rw [← hT2, cat_list, HT.out, HDT.out, if_neg H34.out]; simp)
                      clear h34
                      go_wp2
                      go_round
                      case rel =>
                        obtain rfl := HQ1.out
                        exact ⟨q + 1, T2, by omega, rfl, rfl, HT2.out⟩
                      case measure => simp [intOf]; omega
                  · obtain rfl : q = X.size := by omega
                    have hz : ¬ ((X.size : Int) < (X.size : Int)) := by omega
                    obtain ⟨T2, hT2⟩ : ∃ T2, T ++ ⟨#[34]⟩ = T2 := ⟨_, rfl⟩
                    have HT2 := Lib.hid (show T2.data.toList = prRows (L.take k) ++ prJoin (r.take (m + 1)) from by
                      rw [← hT2, cat_list, HT.out, List.take_of_length_le (by rw [size_of, HXL.out]; exact Nat.le_refl _), HJ.out, HP.out]; simp)
                    go_wp2
                    go_round
                    case rel => exact ⟨m + 1, T2, by omega, by go_num, rfl, HT2.out⟩
                    case measure => simp [intOf]; omega
            · have HP := Lib.hid (show prt x = x from by unfold prt; rw [if_neg hq])
              have hb := HQ.out
              rw [Bool.eq_false_iff.2 hq] at hb
              clear hq
              have hways : b1 = false ∧ b2 = false ∧ b3 = false ∧ b4 = false := by
                revert hb; cases b1 <;> cases b2 <;> cases b3 <;> cases b4 <;> decide
              clear hb
              obtain ⟨rfl, rfl, rfl, rfl⟩ := hways
              obtain ⟨S5, hS5⟩ : ∃ S5, S1 ++ X = S5 := ⟨_, rfl⟩
              have HS5 := Lib.hid (show S5.data.toList = prRows (L.take k) ++ prJoin (r.take (m + 1)) from by
                rw [← hS5, cat_list, HS1.out, HXL.out, HJ.out, HP.out])
              go_wp2_with (first
                  | (go_at_call 35; (with_reducible refine C.out.1.mono ?_); rintro e w' ⟨rfl, rfl⟩)
                  | (go_at_call 35; (with_reducible refine C.out.2.1.mono ?_); rintro e w' ⟨rfl, rfl⟩)
                  | (go_at_call 35; (with_reducible refine C.out.2.2.1.mono ?_); rintro e w' ⟨rfl, rfl⟩)
                  | (go_at_call 35; (with_reducible refine C.out.2.2.2.mono ?_); rintro e w' ⟨rfl, rfl⟩))
              go_round
              case rel => exact ⟨m + 1, S5, by omega, by go_num, rfl, HS5.out⟩
              case measure => simp [intOf]; omega
        · obtain rfl : m = r.length := by omega
          have hz : ¬ ((r.length : Int) < (r.length : Int)) := by omega
          have hfull : r.take r.length = r := List.take_of_length_le (Nat.le_refl _)
          have HFU := Lib.hid hfull
          obtain ⟨S3, hS3⟩ : ∃ S3, S2 ++ ⟨#[10]⟩ = S3 := ⟨_, rfl⟩
          have HS3 := Lib.hid (show S3.data.toList = prRows (L.take (k + 1)) from by
            rw [← hS3, cat_list, HS2.out, HFU.out, prRows_take L k r HR.out]; simp)
          clear hfull
          go_wp2
          go_round
          case rel => exact ⟨k + 1, S3, by omega, by go_num, rfl, HS3.out⟩
          case measure => simp [intOf]; omega
    · obtain rfl : k = L.length := by omega
      have hz : ¬ ((L.length : Int) < (L.length : Int)) := by omega
      have hd : S = ⟨(prRows L).toArray⟩ := by
        rw [← mk_data S, HS.out, List.take_of_length_le (Nat.le_refl _)]
      have HD := Lib.hid hd
      clear hd
      go_wp2
      go_ret
      exact ⟨ret_str HD.out, rfl⟩
end Go.Proofs.YtnkcbefamajghaaDoor
