
/- The document's files of the payment: Print. -/
import Derived.Test.YtomonhghioamfaaGreatDoorStRefT
import Derived.Test.YtomonhghioamfaaGreatDoorRwRefV
import Derived.Test.YtomonhghioamfaaGreatDoorStMath3
import Derived.Test.YtomonhghioamfaaGreatDoorRwRefC
import Derived.Test.YtomonhghioamfaaGreatDoorFixedRefP
import Derived.Test.YtomonhghioamfaaGreatDoorRowsLaid
import Derived.Test.YtomonhghioamfaaGreatDoorHeldSteps
import Derived.Deep.DeepCutAuto
set_option linter.unusedVariables false
namespace Go.Proofs.YtomonhghioamfaaGreatDoor
open Go.ChangeShapes Go.WideShapes Go.ChangeAt Go.RowKit Ky Rw Stl

def prtS (p s : Int) (L : List R) : ByteArray := ⟨(prt p s L).toArray⟩
theorem ret_si {S T : ByteArray} {a b : Int} (h : S = T) (g : a = b) : Ending.returned (.tuple #[.string S, .int .i64 a]) = .returned (.tuple #[.string T, .int .i64 b]) := by rw [h, g]
theorem pad_short (n w : Int) : (Mon.pad n w).length ≤ 18 := by
  by_cases h : Mon.padB n w = true
  · rw [pad_len h]
    unfold Mon.padB at h
    simp only [Bool.and_eq_true, decide_eq_true_eq] at h
    omega
  · unfold Mon.pad
    rw [if_neg h]
    simp
theorem short_head (s : Int) : ∀ f ∈ [[72], sPay, Mon.pad s 10], f.length ≤ 1100 := by
  intro f hf
  have := pad_short s 10
  simp only [List.mem_cons, List.not_mem_nil, or_false] at hf
  rcases hf with rfl | rfl | rfl
  · decide
  · decide
  · omega
theorem short_trail (n t : Int) : ∀ f ∈ [[84], Mon.pad n 6, Mon.pad t 16], f.length ≤ 1100 := by
  intro f hf
  have := pad_short n 6
  have := pad_short t 16
  simp only [List.mem_cons, List.not_mem_nil, or_false] at hf
  rcases hf with rfl | rfl | rfl
  · decide
  · omega
  · omega
theorem word_short (d : Int) : (wordB d).length ≤ 7 := by
  unfold wordB
  split
  · rename_i h
    rcases six h.1 h.2 with e | e | e | e | e | e <;> rw [e] <;> decide
  · simp
theorem short_row (x : R) : ∀ f ∈ fieldsD x, f.length ≤ 1100 := by
  intro f hf
  have := pad_short x.o 4
  have := pad_short x.a 14
  have := word_short x.d
  have : (letter x.c).length = 1 := by unfold letter; split <;> rfl
  unfold fieldsD at hf
  simp only [List.mem_cons, List.not_mem_nil, or_false] at hf
  rcases hf with rfl | rfl | rfl | rfl | rfl
  · decide
  all_goals omega
set_option maxHeartbeats 16000000 in
set_option maxRecDepth 100000 in
theorem sr_print (p s : Int) (v : Value) (L : List R) (w : World) (h : RowsIn w v L) :
    Calls Tryz.prog 6 #[stV p s v] w fun e w' => e = .returned (.tuple #[.string (prtS p s L), .int .i64 (prtC p s L)]) ∧ Keeps w w' := by
  have KB := Lib.hid (ky_box w (stBox p s v))
  have HR := Lib.hid (h.keeps KB.out)
  have CX := Lib.hid (st_cells w p s v)
  obtain ⟨b, hb⟩ : ∃ b, validB p s L = b := ⟨_, rfl⟩
  have HB := Lib.hid hb
  have C1 := Lib.hid (hb ▸ rr_valid p s v L _ HR.out)
  obtain ⟨pp, cp, rfl, hmx, _, _⟩ := h
  obtain ⟨N, hN⟩ : ∃ N, L.length = N := ⟨_, rfl⟩
  have HN := Lib.hid hN
  rw [hN] at hmx KB HR C1 CX ⊢
  clear hN hb
  unfold maxLen at hmx
  unfold stBox at KB HR C1 CX
  unfold stV at C1 ⊢
  obtain ⟨x0, x1, x2⟩ := CX.out _ (Keeps.refl _)
  by_cases hp : p = 0
  rotate_left
  · have E : Hid (prtS p s L = ⟨#[]⟩ ∧ prtC p s L = 2) := Lib.hid (by unfold prtS prt prtC; rw [if_neg (fun e => hp e.1), if_neg (fun e => hp e.1)]; exact ⟨rfl, rfl⟩)
    have t : (p == 0) = false := by rw [beq_eq_false_iff_ne]; exact hp
    have t2 : (p != 0) = true := by rw [bne, t]; rfl
    clear hp
    go_enter Tryz.func6, Tryz.ntmps6
    go_wp2
    go_ret2
    exact ⟨ret_si E.out.1.symm E.out.2.symm, KB.out⟩
  subst hp
  go_enter Tryz.func6, Tryz.ntmps6
  go_wp2_with fail
  refine C1.out.mono ?_
  rintro e w1 ⟨rfl, k1⟩
  have K1 := Lib.hid k1
  clear k1 C1 x0 x1 x2
  cases b with
  | false =>
    have E : Hid (prtS 0 s L = ⟨#[]⟩ ∧ prtC 0 s L = 2) := Lib.hid (by unfold prtS prt prtC; rw [HB.out, if_neg (by simp), if_neg (by simp)]; exact ⟨rfl, rfl⟩)
    go_wp2
    go_ret2
    exact ⟨ret_si E.out.1.symm E.out.2.symm, KB.out.trans K1.out⟩
  | true =>
    have VA := Lib.hid (valid_iff.1 HB.out)
    obtain ⟨x0, x1, x2⟩ := CX.out _ K1.out
    have hlt : w.heap.size < w1.heap.size := by have := K1.out.size; simp at this; omega
    have hne : w.heap.size ≠ w1.heap.size := Nat.ne_of_lt hlt
    obtain ⟨P1, hP1⟩ : ∃ P : ByteArray, ⟨(Mon.pad s 10).toArray⟩ = P := ⟨_, rfl⟩
    have HP1 := Lib.hid hP1
    have C1 : Hid (∀ W, Calls Tryz.prog 20 #[.int .i64 s, .int .i64 10] W fun e w' => e = .returned (.string P1) ∧ Keeps W w') := Lib.hid fun W => hP1 ▸ rpad_any s 10 W (by have := VA.out.s0; have := VA.out.s1; unfold I64 top; omega)
    have HI := Lib.hid (lay_ints (w' := w1) (cs := #[.int .i64 1, .int .i64 8, .int .i64 10]) (r := wH) 3 rfl rfl rfl (by simp [maxLen, wH]))
    have KI := Lib.hid (kept_alloc (Keeps.refl w1) (.cells #[.int .i64 1, .int .i64 8, .int .i64 10] 3))
    clear hP1
    go_wp2_with fail
    refine (C1.out _).mono ?_
    rintro e w2 ⟨rfl, k2⟩
    have K2 := Lib.hid (KI.out.trans k2)
    have HI2 := Lib.hid (HI.out.keeps k2)
    clear k2 C1 HI KI hlt hne x0 x1 x2
    obtain ⟨X, hX⟩ : ∃ X : ByteArray, ⟨(Fix.pr wH [[72], sPay, Mon.pad s 10]).toArray⟩ = X := ⟨_, rfl⟩
    have HX := Lib.hid hX
    have HXS : Hid (X.size = 19) := Lib.hid (by
      obtain ⟨b, hb⟩ := head_is VA.out.s0 VA.out.s1
      have e := head_len VA.out.s0 VA.out.s1
      rw [← hX, size_mk]
      unfold headF at e
      rw [List.length_append] at e
      simpa using e)
    clear hX
    go_wp2_with fail
    refine ((fiRprint_any _ _ wH [[72], sPay, Mon.pad s 10] _ (HI2.out.keeps (kept_alloc (Keeps.refl _) _)) (lay_row (r := [[72], sPay, Mon.pad s 10]) _ rfl (by rw [← HP1.out]; rfl) rfl (by simp [maxLen])) (short_head s))).mono ?_
    rintro e w3 ⟨rfl, k3⟩
    rw [HX.out]
    have K3 := Lib.hid (K1.out.trans (K2.out.trans ((kept_alloc (Keeps.refl w2) _).trans k3)))
    obtain ⟨S0, hS0⟩ : ∃ S, X ++ ⟨#[10]⟩ = S := ⟨_, rfl⟩
    have HS0 : Hid (S0.data.toList = headF s) := Lib.hid (by rw [← hS0, ← HX.out]; unfold headF; simp)
    have n1 : ¬ (9223372036854775807 < X.size + 1) := by have := HXS.out; omega
    clear k3 HI2 K2
    go_wp2_with fail
    clear n1
    go_loopw [4, 5, 6] (fun v4 v5 v6 W => ∃ (k : Nat) (S : ByteArray) (t : Int), k ≤ N ∧ v4 = .string S ∧ v5 = .int .i64 t ∧ v6 = .int .i64 (k : Int) ∧ S.data.toList = headF s ++ (L.take k).flatMap rowF ∧ t = totA (L.take k) ∧ Keeps (w.alloc (.cells #[.int .i64 0, .int .i64 s, .slice pp N cp] tSt)) W) (fun _ _ v6 _ => N - (intOf v6).toNat)
    case atStart => exact ⟨0, S0, 0, by omega, rfl, rfl, rfl, by rw [HS0.out]; simp, rfl, K3.out⟩
    case round =>
      obtain ⟨k, S, t, hk, rfl, rfl, rfl, hS, ht, hw⟩ := hrel
      have HS := Lib.hid hS
      have HT := Lib.hid ht
      have HW := Lib.hid hw
      have N4 : N ≤ 400 := by have := VA.out.good.len; rw [HN.out] at this; exact this
      have HN4 := Lib.hid N4
      obtain ⟨b1, b2⟩ := tot_part VA.out.good.each VA.out.good.len k
      rw [← ht] at b1 b2
      have SS : Hid (S.size ≤ 11620) := Lib.hid (by
        rw [← len_data, hS, List.length_append, head_len VA.out.s0 VA.out.s1, rows_len fun x hx => VA.out.good.each x (List.mem_of_mem_take hx)]
        have := List.length_take_le k L
        omega)
      obtain ⟨x0, x1, x2⟩ := CX.out _ hw
      clear hS ht hw hS0 HS0
      by_cases hlt : k < N
      · have HK := Lib.hid hlt
        obtain ⟨x, hx⟩ : ∃ x, L[k]? = some x := ⟨_, List.getElem?_eq_getElem (by have := HN.out; omega)⟩
        obtain ⟨p1, c1, e1, _, _, hc1⟩ := HR.out.keeps HW.out
        rw [HN.out] at e1
        simp only [Value.slice.injEq] at e1
        obtain ⟨rfl, _, rfl⟩ := e1
        obtain ⟨ad, rfl, q0, q1, q2, q3, q4⟩ := hc1 k x hx
        have RX := Lib.hid (VA.out.good.each x (List.mem_of_getElem? hx))
        have TK := Lib.hid (tot_take hx)
        have FK : Hid ((L.take (k + 1)).flatMap rowF = (L.take k).flatMap rowF ++ rowF x) := Lib.hid (by rw [List.take_add_one, hx, List.flatMap_append]; simp)
        have hi1 : (k : Int) < (N : Int) := by omega
        have hi0 : (0 : Int) ≤ (k : Int) := by omega
        clear hc1 hx
        obtain ⟨P1, hP1'⟩ : ∃ P : ByteArray, ⟨(Mon.pad x.o 4).toArray⟩ = P := ⟨_, rfl⟩
        obtain ⟨P2, hP2⟩ : ∃ P : ByteArray, ⟨(Mon.pad x.a 14).toArray⟩ = P := ⟨_, rfl⟩
        obtain ⟨WD, hWD⟩ : ∃ P : ByteArray, wordS x.d = P := ⟨_, rfl⟩
        have HP1 := Lib.hid hP1'
        have HP2 := Lib.hid hP2
        have HWD : Hid (⟨(wordB x.d).toArray⟩ = WD) := Lib.hid hWD
        have CP1 : Hid (∀ W, Calls Tryz.prog 20 #[.int .i64 x.o, .int .i64 4] W fun e w' => e = .returned (.string P1) ∧ Keeps W w') := Lib.hid fun W => hP1' ▸ rpad_any x.o 4 W (by have := RX.out.key.o0; have := RX.out.key.o1; unfold I64 top; omega)
        have CP2 : Hid (∀ W, Calls Tryz.prog 20 #[.int .i64 x.a, .int .i64 14] W fun e w' => e = .returned (.string P2) ∧ Keeps W w') := Lib.hid fun W => hP2 ▸ rpad_any x.a 14 W (by have := RX.out.a0; have := RX.out.a1; unfold I64 top; omega)
        have CW : Hid (∀ W, Calls Tryz.prog 21 #[.int .i64 x.d] W fun e w' => e = .returned (.string WD) ∧ Keeps W w') := Lib.hid fun W => hWD ▸ kr_word x.d W
        have CY := Lib.hid (rw_cells wr x)
        have AX := Lib.hid (ky_box wr (.cells #[.int .i64 x.o, .int .i64 x.d, .int .i64 x.c, .int .i64 x.a, .int .i64 x.q] tRw))
        obtain ⟨X, hX⟩ : ∃ X : ByteArray, ⟨(Fix.pr wD (fieldsD x)).toArray⟩ = X := ⟨_, rfl⟩
        have HX := Lib.hid hX
        have HXS : Hid (X.size = 28) := Lib.hid (by
          have e := row_len RX.out
          rw [← hX, size_mk]
          unfold rowF at e
          rw [List.length_append] at e
          simpa [fieldsD] using e)
        obtain ⟨T1, hT1⟩ : ∃ T, S ++ X = T := ⟨_, rfl⟩
        obtain ⟨T2, hT2⟩ : ∃ T, T1 ++ ⟨#[10]⟩ = T := ⟨_, rfl⟩
        have HT2 : Hid (T2.data.toList = headF s ++ (L.take (k + 1)).flatMap rowF) := Lib.hid (by
          have e : rowF x = Fix.pr wD (fieldsD x) ++ [10] := rfl
          rw [← hT2, ← hT1, ← hX, FK.out, e]
          simp [HS.out])
        have n1 : ¬ (9223372036854775807 < S.size + X.size) := by have := HXS.out; have := SS.out; omega
        have n2 : ¬ (9223372036854775807 < T1.size + 1) := by rw [← hT1, ByteArray.size_append]; have := HXS.out; have := SS.out; omega
        have a0 := RX.out.a0
        have a1 := RX.out.a1
        clear hP1' hP2 hWD hX
        obtain ⟨LT, hLT⟩ : ∃ T : ByteArray, (if x.c = 2 then (⟨#[82]⟩ : ByteArray) else ⟨#[68]⟩) = T := ⟨_, rfl⟩
        have HLT : Hid (⟨(letter x.c).toArray⟩ = LT) := Lib.hid (by rw [← hLT]; unfold letter; split <;> rfl)
        go_upto_if 38 with (fail)
        go_cut [8] (fun v8 W => v8 = .string LT ∧ W = (wr.alloc (.cells #[.int .i64 x.o, .int .i64 x.d, .int .i64 x.c, .int .i64 x.a, .int .i64 x.q] tRw)))
        case first =>
          by_cases hc : x.c = 2
          · have tc : (x.c == 2) = true := by rw [hc]; rfl
            rw [if_pos hc] at hLT
            subst hLT
            clear hc
            go_wp2
            go_meet
            case rel => exact ⟨rfl, rfl⟩
          · have tc : (x.c == 2) = false := by rw [beq_eq_false_iff_ne]; exact hc
            rw [if_neg hc] at hLT
            subst hLT
            clear hc
            go_wp2
            go_meet
            case rel => exact ⟨rfl, rfl⟩
        case rest =>
          obtain ⟨rfl, rfl⟩ := hcut
          clear hLT
          go_upto_region 12 with (fail)
          go_cut [4] (fun v4 W => v4 = .string T2 ∧ Keeps (wr.alloc (.cells #[.int .i64 x.o, .int .i64 x.d, .int .i64 x.c, .int .i64 x.a, .int .i64 x.q] tRw)) W)
          case first =>
            clear q0 q1 q2 q3 q4 x0 x1 x2
            refine wp_region_held_drew (S := fun W => Keeps (wr.alloc (.cells #[.int .i64 x.o, .int .i64 x.d, .int .i64 x.c, .int .i64 x.a, .int .i64 x.q] tRw)) W) (by kernel_rfl) (ky_drew _) (fun hHeld => ?_)
            refine takeH (i := 0) (d := some 39) (v := ?q1v) rfl rfl (by kernel_rfl) (by kernel_rfl) (by kernel_rfl) (fun _ _ _ h => h) (Or.inl ⟨by rfl, ?q1y⟩) (by assumption) ?q1r
            case q1y => (intro W hSw; obtain ⟨z0, z1, z2, z3, z4⟩ := CY.out W hSw; go_simp; try with_reducible rfl)
            try simp only [Act.put, List.setIfInBounds_toArray, List.set_cons_zero, List.set_cons_succ]
            refine takeH (i := 2) (d := some 41) (v := ?q2v) rfl rfl (by kernel_rfl) (by kernel_rfl) (by kernel_rfl) (fun _ _ _ h => h) (Or.inl ⟨by rfl, ?q2y⟩) (by assumption) ?q2r
            case q2y => (intro W hSw; obtain ⟨z0, z1, z2, z3, z4⟩ := CY.out W hSw; go_simp; try with_reducible rfl)
            try simp only [Act.put, List.setIfInBounds_toArray, List.set_cons_zero, List.set_cons_succ]
            refine takeH (i := 3) (d := some 42) (v := ?q3v) rfl rfl (by kernel_rfl) (by kernel_rfl) (by kernel_rfl) (fun _ _ _ h => h) (Or.inl ⟨by rfl, ?q3y⟩) (by assumption) ?q3r
            case q3y => (intro W hSw; obtain ⟨z0, z1, z2, z3, z4⟩ := CY.out W hSw; go_simp; try with_reducible rfl)
            try simp only [Act.put, List.setIfInBounds_toArray, List.set_cons_zero, List.set_cons_succ]
            refine takeH (i := 4) (d := some 43) (v := ?q4v) rfl rfl (by kernel_rfl) (by kernel_rfl) (by kernel_rfl) (fun _ _ _ h => h) (Or.inl ⟨by rfl, ?q4y⟩) (by assumption) ?q4r
            case q4y => (intro W hSw; obtain ⟨z0, z1, z2, z3, z4⟩ := CY.out W hSw; go_simp; try with_reducible rfl)
            try simp only [Act.put, List.setIfInBounds_toArray, List.set_cons_zero, List.set_cons_succ]
            refine takeH (i := 6) (d := some 45) (v := ?q5v) rfl rfl (by kernel_rfl) (by kernel_rfl) (by kernel_rfl) (fun _ _ _ h => h) (Or.inl ⟨by rfl, ?q5y⟩) (by assumption) ?q5r
            case q5y => (intro W hSw; obtain ⟨z0, z1, z2, z3, z4⟩ := CY.out W hSw; go_simp; try with_reducible rfl)
            try simp only [Act.put, List.setIfInBounds_toArray, List.set_cons_zero, List.set_cons_succ]
            refine takeH (i := 7) (d := some 46) (v := ?q6v) rfl rfl (by kernel_rfl) (by kernel_rfl) (by kernel_rfl) (fun _ _ _ h => h) (Or.inl ⟨by rfl, ?q6y⟩) (by assumption) ?q6r
            case q6y => (intro W hSw; obtain ⟨z0, z1, z2, z3, z4⟩ := CY.out W hSw; go_simp; try with_reducible rfl)
            try simp only [Act.put, List.setIfInBounds_toArray, List.set_cons_zero, List.set_cons_succ]
            refine takeH (i := 8) (d := some 47) (v := ?q7v) rfl rfl (by kernel_rfl) (by kernel_rfl) (by kernel_rfl) (fun _ _ _ h => h) (Or.inl ⟨by rfl, ?q7y⟩) (by assumption) ?q7r
            case q7y => (intro W hSw; obtain ⟨z0, z1, z2, z3, z4⟩ := CY.out W hSw; go_simp; try with_reducible rfl)
            try simp only [Act.put, List.setIfInBounds_toArray, List.set_cons_zero, List.set_cons_succ]
            refine takeH (i := 10) (d := some 49) (v := ?q8v) rfl rfl (by kernel_rfl) (by kernel_rfl) (by kernel_rfl) (fun _ _ _ h => h) (Or.inl ⟨by rfl, ?q8y⟩) (by assumption) ?q8r
            case q8y => (intro W hSw; obtain ⟨z0, z1, z2, z3, z4⟩ := CY.out W hSw; go_simp; try with_reducible rfl)
            try simp only [Act.put, List.setIfInBounds_toArray, List.set_cons_zero, List.set_cons_succ]
            refine takeH (i := 11) (d := some 50) (v := ?q9v) rfl rfl (by kernel_rfl) (by kernel_rfl) (by kernel_rfl) (fun _ _ _ h => h) (Or.inl ⟨by rfl, ?q9y⟩) (by assumption) ?q9r
            case q9y => (intro W hSw; obtain ⟨z0, z1, z2, z3, z4⟩ := CY.out W hSw; go_simp; try with_reducible rfl)
            try simp only [Act.put, List.setIfInBounds_toArray, List.set_cons_zero, List.set_cons_succ]
            refine takeH (i := 12) (d := some 51) (v := ?q10v) rfl rfl (by kernel_rfl) (by kernel_rfl) (by kernel_rfl) (fun _ _ _ h => h) (Or.inl ⟨by rfl, ?q10y⟩) (by assumption) ?q10r
            case q10y => (intro W hSw; obtain ⟨z0, z1, z2, z3, z4⟩ := CY.out W hSw; go_simp; try with_reducible rfl)
            try simp only [Act.put, List.setIfInBounds_toArray, List.set_cons_zero, List.set_cons_succ]
            refine wpAnyH_ready (rs := [1, 5]) (by kernel_rfl) (by simp) ?_
            refine AllReadyH.cons rfl (fun K hK => ?_) (AllReadyH.cons rfl (fun K hK => ?_) AllReadyH.nil)
            · skip
              have IA := Lib.hid (lay_ints (w' := (wr.alloc (.cells #[.int .i64 x.o, .int .i64 x.d, .int .i64 x.c, .int .i64 x.a, .int .i64 x.q] tRw)).drew) (cs := #[.int .i64 1, .int .i64 4, .int .i64 8, .int .i64 1, .int .i64 14]) (r := wD) 3 (b := wr.heap.size + 1) (n := 5) (by simp) rfl rfl (by simp [maxLen, wD]))
              go_simp
              refine hK.out _ _ (kept_alloc hHeld _) (fun hHeld => ?_)
              clear hK K
              try simp only [Act.put, List.setIfInBounds_toArray, List.set_cons_zero, List.set_cons_succ]
              refine wpAnyH_ready (rs := [5]) (by kernel_rfl) (by simp) ?_
              refine AllReadyH.cons rfl (fun K hK => ?_) AllReadyH.nil
              go_simp
              refine (CP1.out ((wr.alloc (.cells #[.int .i64 x.o, .int .i64 x.d, .int .i64 x.c, .int .i64 x.a, .int .i64 x.q] tRw)).drew.alloc (.cells #[.int .i64 1, .int .i64 4, .int .i64 8, .int .i64 1, .int .i64 14] 3))).mono ?_
              rintro e wq11 ⟨rfl, kv⟩
              have IA := Lib.hid (IA.out.keeps kv)
              refine hK.out _ _ (hHeld.trans kv) (fun hHeld => ?_)
              clear hK K kv
              try simp only [Act.put, List.setIfInBounds_toArray, List.set_cons_zero, List.set_cons_succ]
              refine wpAnyH_ready (rs := [9]) (by kernel_rfl) (by simp) ?_
              refine AllReadyH.cons rfl (fun K hK => ?_) AllReadyH.nil
              go_simp
              refine (CW.out wq11).mono ?_
              rintro e wq12 ⟨rfl, kv⟩
              have IA := Lib.hid (IA.out.keeps kv)
              refine hK.out _ _ (hHeld.trans kv) (fun hHeld => ?_)
              clear hK K kv
              try simp only [Act.put, List.setIfInBounds_toArray, List.set_cons_zero, List.set_cons_succ]
              refine wpAnyH_ready (rs := [13]) (by kernel_rfl) (by simp) ?_
              refine AllReadyH.cons rfl (fun K hK => ?_) AllReadyH.nil
              go_simp
              refine (CP2.out wq12).mono ?_
              rintro e wq13 ⟨rfl, kv⟩
              have IA := Lib.hid (IA.out.keeps kv)
              refine hK.out _ _ (hHeld.trans kv) (fun hHeld => ?_)
              clear hK K kv
              try simp only [Act.put, List.setIfInBounds_toArray, List.set_cons_zero, List.set_cons_succ]
              refine wpAnyH_ready (rs := [14]) (by kernel_rfl) (by simp) ?_
              refine AllReadyH.cons rfl (fun K hK => ?_) AllReadyH.nil
              have SA := Lib.hid (lay_row (w' := wq13) (cs := #[.string ⟨#[68]⟩, .string P1, .string WD, .string LT, .string P2]) (r := fieldsD x) tS (b := wq13.heap.size) (n := 5) (by simp) (by unfold fieldsD; rw [← HP1.out, ← HWD.out, ← HP2.out, ← HLT.out]; rfl) rfl (by simp [maxLen, fieldsD]))
              have IA := Lib.hid (IA.out.keeps (kept_alloc (Keeps.refl wq13) (.cells #[.string ⟨#[68]⟩, .string P1, .string WD, .string LT, .string P2] tS)))
              go_simp
              refine hK.out _ _ (kept_alloc hHeld _) (fun hHeld => ?_)
              clear hK K
              try simp only [Act.put, List.setIfInBounds_toArray, List.set_cons_zero, List.set_cons_succ]
              refine wpAnyH_ready (rs := [15]) (by kernel_rfl) (by simp) ?_
              refine AllReadyH.cons rfl (fun K hK => ?_) AllReadyH.nil
              go_simp
              refine ((fiRprint_any _ _ wD (fieldsD x) _ IA.out SA.out (short_row x))).mono ?_
              rintro e wq14 ⟨rfl, kv⟩
              rw [HX.out]
              refine hK.out _ _ (hHeld.trans kv) (fun hHeld => ?_)
              clear hK K kv IA SA
              try simp only [Act.put, List.setIfInBounds_toArray, List.set_cons_zero, List.set_cons_succ]
              refine takeH (i := 16) (d := some 55) (v := ?q15v) rfl rfl (by kernel_rfl) (by kernel_rfl) (by kernel_rfl) (fun _ _ _ h => h) (Or.inl ⟨by rfl, ?q15y⟩) (by assumption) ?q15r
              case q15y => (intro W hSw; obtain ⟨z0, z1, z2, z3, z4⟩ := CY.out W hSw; go_simp; try with_reducible rfl)
              try simp only [Act.put, List.setIfInBounds_toArray, List.set_cons_zero, List.set_cons_succ]
              refine takeH (i := 17) (d := some 56) (v := ?q16v) rfl rfl (by kernel_rfl) (by kernel_rfl) (by kernel_rfl) (fun _ _ _ h => h) (Or.inl ⟨by rfl, ?q16y⟩) (by assumption) ?q16r
              case q16y => (intro W hSw; obtain ⟨z0, z1, z2, z3, z4⟩ := CY.out W hSw; go_simp; try with_reducible rfl)
              try simp only [Act.put, List.setIfInBounds_toArray, List.set_cons_zero, List.set_cons_succ]
              refine takeH (i := 18) (d := some 4) (v := ?q17v) rfl rfl (by kernel_rfl) (by kernel_rfl) (by kernel_rfl) (fun _ _ _ h => h) (Or.inl ⟨by rfl, ?q17y⟩) (by assumption) ?q17r
              case q17y => (intro W hSw; obtain ⟨z0, z1, z2, z3, z4⟩ := CY.out W hSw; go_simp; try with_reducible rfl)
              try simp only [Act.put, List.setIfInBounds_toArray, List.set_cons_zero, List.set_cons_succ]
              refine wpAnyH_done (by kernel_rfl) ?_ _
              clear n1 n2
              go_wp2
              go_meet
              case rel => exact ⟨rfl, hHeld⟩
            · skip
              go_simp
              refine (CP1.out (wr.alloc (.cells #[.int .i64 x.o, .int .i64 x.d, .int .i64 x.c, .int .i64 x.a, .int .i64 x.q] tRw)).drew).mono ?_
              rintro e wq18 ⟨rfl, kv⟩
              refine hK.out _ _ (hHeld.trans kv) (fun hHeld => ?_)
              clear hK K kv
              try simp only [Act.put, List.setIfInBounds_toArray, List.set_cons_zero, List.set_cons_succ]
              refine wpAnyH_ready (rs := [1, 9]) (by kernel_rfl) (by simp) ?_
              refine AllReadyH.cons rfl (fun K hK => ?_) (AllReadyH.cons rfl (fun K hK => ?_) AllReadyH.nil)
              · skip
                have IA := Lib.hid (lay_ints (w' := wq18) (cs := #[.int .i64 1, .int .i64 4, .int .i64 8, .int .i64 1, .int .i64 14]) (r := wD) 3 (b := wq18.heap.size) (n := 5) (by simp) rfl rfl (by simp [maxLen, wD]))
                go_simp
                refine hK.out _ _ (kept_alloc hHeld _) (fun hHeld => ?_)
                clear hK K
                try simp only [Act.put, List.setIfInBounds_toArray, List.set_cons_zero, List.set_cons_succ]
                refine wpAnyH_ready (rs := [9]) (by kernel_rfl) (by simp) ?_
                refine AllReadyH.cons rfl (fun K hK => ?_) AllReadyH.nil
                go_simp
                refine (CW.out (wq18.alloc (.cells #[.int .i64 1, .int .i64 4, .int .i64 8, .int .i64 1, .int .i64 14] 3))).mono ?_
                rintro e wq19 ⟨rfl, kv⟩
                have IA := Lib.hid (IA.out.keeps kv)
                refine hK.out _ _ (hHeld.trans kv) (fun hHeld => ?_)
                clear hK K kv
                try simp only [Act.put, List.setIfInBounds_toArray, List.set_cons_zero, List.set_cons_succ]
                refine wpAnyH_ready (rs := [13]) (by kernel_rfl) (by simp) ?_
                refine AllReadyH.cons rfl (fun K hK => ?_) AllReadyH.nil
                go_simp
                refine (CP2.out wq19).mono ?_
                rintro e wq20 ⟨rfl, kv⟩
                have IA := Lib.hid (IA.out.keeps kv)
                refine hK.out _ _ (hHeld.trans kv) (fun hHeld => ?_)
                clear hK K kv
                try simp only [Act.put, List.setIfInBounds_toArray, List.set_cons_zero, List.set_cons_succ]
                refine wpAnyH_ready (rs := [14]) (by kernel_rfl) (by simp) ?_
                refine AllReadyH.cons rfl (fun K hK => ?_) AllReadyH.nil
                have SA := Lib.hid (lay_row (w' := wq20) (cs := #[.string ⟨#[68]⟩, .string P1, .string WD, .string LT, .string P2]) (r := fieldsD x) tS (b := wq20.heap.size) (n := 5) (by simp) (by unfold fieldsD; rw [← HP1.out, ← HWD.out, ← HP2.out, ← HLT.out]; rfl) rfl (by simp [maxLen, fieldsD]))
                have IA := Lib.hid (IA.out.keeps (kept_alloc (Keeps.refl wq20) (.cells #[.string ⟨#[68]⟩, .string P1, .string WD, .string LT, .string P2] tS)))
                go_simp
                refine hK.out _ _ (kept_alloc hHeld _) (fun hHeld => ?_)
                clear hK K
                try simp only [Act.put, List.setIfInBounds_toArray, List.set_cons_zero, List.set_cons_succ]
                refine wpAnyH_ready (rs := [15]) (by kernel_rfl) (by simp) ?_
                refine AllReadyH.cons rfl (fun K hK => ?_) AllReadyH.nil
                go_simp
                refine ((fiRprint_any _ _ wD (fieldsD x) _ IA.out SA.out (short_row x))).mono ?_
                rintro e wq21 ⟨rfl, kv⟩
                rw [HX.out]
                refine hK.out _ _ (hHeld.trans kv) (fun hHeld => ?_)
                clear hK K kv IA SA
                try simp only [Act.put, List.setIfInBounds_toArray, List.set_cons_zero, List.set_cons_succ]
                refine takeH (i := 16) (d := some 55) (v := ?q22v) rfl rfl (by kernel_rfl) (by kernel_rfl) (by kernel_rfl) (fun _ _ _ h => h) (Or.inl ⟨by rfl, ?q22y⟩) (by assumption) ?q22r
                case q22y => (intro W hSw; obtain ⟨z0, z1, z2, z3, z4⟩ := CY.out W hSw; go_simp; try with_reducible rfl)
                try simp only [Act.put, List.setIfInBounds_toArray, List.set_cons_zero, List.set_cons_succ]
                refine takeH (i := 17) (d := some 56) (v := ?q23v) rfl rfl (by kernel_rfl) (by kernel_rfl) (by kernel_rfl) (fun _ _ _ h => h) (Or.inl ⟨by rfl, ?q23y⟩) (by assumption) ?q23r
                case q23y => (intro W hSw; obtain ⟨z0, z1, z2, z3, z4⟩ := CY.out W hSw; go_simp; try with_reducible rfl)
                try simp only [Act.put, List.setIfInBounds_toArray, List.set_cons_zero, List.set_cons_succ]
                refine takeH (i := 18) (d := some 4) (v := ?q24v) rfl rfl (by kernel_rfl) (by kernel_rfl) (by kernel_rfl) (fun _ _ _ h => h) (Or.inl ⟨by rfl, ?q24y⟩) (by assumption) ?q24r
                case q24y => (intro W hSw; obtain ⟨z0, z1, z2, z3, z4⟩ := CY.out W hSw; go_simp; try with_reducible rfl)
                try simp only [Act.put, List.setIfInBounds_toArray, List.set_cons_zero, List.set_cons_succ]
                refine wpAnyH_done (by kernel_rfl) ?_ _
                clear n1 n2
                go_wp2
                go_meet
                case rel => exact ⟨rfl, hHeld⟩
              · skip
                go_simp
                refine (CW.out wq18).mono ?_
                rintro e wq25 ⟨rfl, kv⟩
                refine hK.out _ _ (hHeld.trans kv) (fun hHeld => ?_)
                clear hK K kv
                try simp only [Act.put, List.setIfInBounds_toArray, List.set_cons_zero, List.set_cons_succ]
                refine wpAnyH_ready (rs := [1, 13]) (by kernel_rfl) (by simp) ?_
                refine AllReadyH.cons rfl (fun K hK => ?_) (AllReadyH.cons rfl (fun K hK => ?_) AllReadyH.nil)
                · skip
                  have IA := Lib.hid (lay_ints (w' := wq25) (cs := #[.int .i64 1, .int .i64 4, .int .i64 8, .int .i64 1, .int .i64 14]) (r := wD) 3 (b := wq25.heap.size) (n := 5) (by simp) rfl rfl (by simp [maxLen, wD]))
                  go_simp
                  refine hK.out _ _ (kept_alloc hHeld _) (fun hHeld => ?_)
                  clear hK K
                  try simp only [Act.put, List.setIfInBounds_toArray, List.set_cons_zero, List.set_cons_succ]
                  refine wpAnyH_ready (rs := [13]) (by kernel_rfl) (by simp) ?_
                  refine AllReadyH.cons rfl (fun K hK => ?_) AllReadyH.nil
                  go_simp
                  refine (CP2.out (wq25.alloc (.cells #[.int .i64 1, .int .i64 4, .int .i64 8, .int .i64 1, .int .i64 14] 3))).mono ?_
                  rintro e wq26 ⟨rfl, kv⟩
                  have IA := Lib.hid (IA.out.keeps kv)
                  refine hK.out _ _ (hHeld.trans kv) (fun hHeld => ?_)
                  clear hK K kv
                  try simp only [Act.put, List.setIfInBounds_toArray, List.set_cons_zero, List.set_cons_succ]
                  refine wpAnyH_ready (rs := [14]) (by kernel_rfl) (by simp) ?_
                  refine AllReadyH.cons rfl (fun K hK => ?_) AllReadyH.nil
                  have SA := Lib.hid (lay_row (w' := wq26) (cs := #[.string ⟨#[68]⟩, .string P1, .string WD, .string LT, .string P2]) (r := fieldsD x) tS (b := wq26.heap.size) (n := 5) (by simp) (by unfold fieldsD; rw [← HP1.out, ← HWD.out, ← HP2.out, ← HLT.out]; rfl) rfl (by simp [maxLen, fieldsD]))
                  have IA := Lib.hid (IA.out.keeps (kept_alloc (Keeps.refl wq26) (.cells #[.string ⟨#[68]⟩, .string P1, .string WD, .string LT, .string P2] tS)))
                  go_simp
                  refine hK.out _ _ (kept_alloc hHeld _) (fun hHeld => ?_)
                  clear hK K
                  try simp only [Act.put, List.setIfInBounds_toArray, List.set_cons_zero, List.set_cons_succ]
                  refine wpAnyH_ready (rs := [15]) (by kernel_rfl) (by simp) ?_
                  refine AllReadyH.cons rfl (fun K hK => ?_) AllReadyH.nil
                  go_simp
                  refine ((fiRprint_any _ _ wD (fieldsD x) _ IA.out SA.out (short_row x))).mono ?_
                  rintro e wq27 ⟨rfl, kv⟩
                  rw [HX.out]
                  refine hK.out _ _ (hHeld.trans kv) (fun hHeld => ?_)
                  clear hK K kv IA SA
                  try simp only [Act.put, List.setIfInBounds_toArray, List.set_cons_zero, List.set_cons_succ]
                  refine takeH (i := 16) (d := some 55) (v := ?q28v) rfl rfl (by kernel_rfl) (by kernel_rfl) (by kernel_rfl) (fun _ _ _ h => h) (Or.inl ⟨by rfl, ?q28y⟩) (by assumption) ?q28r
                  case q28y => (intro W hSw; obtain ⟨z0, z1, z2, z3, z4⟩ := CY.out W hSw; go_simp; try with_reducible rfl)
                  try simp only [Act.put, List.setIfInBounds_toArray, List.set_cons_zero, List.set_cons_succ]
                  refine takeH (i := 17) (d := some 56) (v := ?q29v) rfl rfl (by kernel_rfl) (by kernel_rfl) (by kernel_rfl) (fun _ _ _ h => h) (Or.inl ⟨by rfl, ?q29y⟩) (by assumption) ?q29r
                  case q29y => (intro W hSw; obtain ⟨z0, z1, z2, z3, z4⟩ := CY.out W hSw; go_simp; try with_reducible rfl)
                  try simp only [Act.put, List.setIfInBounds_toArray, List.set_cons_zero, List.set_cons_succ]
                  refine takeH (i := 18) (d := some 4) (v := ?q30v) rfl rfl (by kernel_rfl) (by kernel_rfl) (by kernel_rfl) (fun _ _ _ h => h) (Or.inl ⟨by rfl, ?q30y⟩) (by assumption) ?q30r
                  case q30y => (intro W hSw; obtain ⟨z0, z1, z2, z3, z4⟩ := CY.out W hSw; go_simp; try with_reducible rfl)
                  try simp only [Act.put, List.setIfInBounds_toArray, List.set_cons_zero, List.set_cons_succ]
                  refine wpAnyH_done (by kernel_rfl) ?_ _
                  clear n1 n2
                  go_wp2
                  go_meet
                  case rel => exact ⟨rfl, hHeld⟩
                · skip
                  go_simp
                  refine (CP2.out wq25).mono ?_
                  rintro e wq31 ⟨rfl, kv⟩
                  refine hK.out _ _ (hHeld.trans kv) (fun hHeld => ?_)
                  clear hK K kv
                  try simp only [Act.put, List.setIfInBounds_toArray, List.set_cons_zero, List.set_cons_succ]
                  refine wpAnyH_ready (rs := [1, 14]) (by kernel_rfl) (by simp) ?_
                  refine AllReadyH.cons rfl (fun K hK => ?_) (AllReadyH.cons rfl (fun K hK => ?_) AllReadyH.nil)
                  · skip
                    have IA := Lib.hid (lay_ints (w' := wq31) (cs := #[.int .i64 1, .int .i64 4, .int .i64 8, .int .i64 1, .int .i64 14]) (r := wD) 3 (b := wq31.heap.size) (n := 5) (by simp) rfl rfl (by simp [maxLen, wD]))
                    go_simp
                    refine hK.out _ _ (kept_alloc hHeld _) (fun hHeld => ?_)
                    clear hK K
                    try simp only [Act.put, List.setIfInBounds_toArray, List.set_cons_zero, List.set_cons_succ]
                    refine wpAnyH_ready (rs := [14]) (by kernel_rfl) (by simp) ?_
                    refine AllReadyH.cons rfl (fun K hK => ?_) AllReadyH.nil
                    have SA := Lib.hid (lay_row (w' := (wq31.alloc (.cells #[.int .i64 1, .int .i64 4, .int .i64 8, .int .i64 1, .int .i64 14] 3))) (cs := #[.string ⟨#[68]⟩, .string P1, .string WD, .string LT, .string P2]) (r := fieldsD x) tS (b := wq31.heap.size + 1) (n := 5) (by simp) (by unfold fieldsD; rw [← HP1.out, ← HWD.out, ← HP2.out, ← HLT.out]; rfl) rfl (by simp [maxLen, fieldsD]))
                    have IA := Lib.hid (IA.out.keeps (kept_alloc (Keeps.refl (wq31.alloc (.cells #[.int .i64 1, .int .i64 4, .int .i64 8, .int .i64 1, .int .i64 14] 3))) (.cells #[.string ⟨#[68]⟩, .string P1, .string WD, .string LT, .string P2] tS)))
                    go_simp
                    refine hK.out _ _ (kept_alloc hHeld _) (fun hHeld => ?_)
                    clear hK K
                    try simp only [Act.put, List.setIfInBounds_toArray, List.set_cons_zero, List.set_cons_succ]
                    refine wpAnyH_ready (rs := [15]) (by kernel_rfl) (by simp) ?_
                    refine AllReadyH.cons rfl (fun K hK => ?_) AllReadyH.nil
                    go_simp
                    refine ((fiRprint_any _ _ wD (fieldsD x) _ IA.out SA.out (short_row x))).mono ?_
                    rintro e wq32 ⟨rfl, kv⟩
                    rw [HX.out]
                    refine hK.out _ _ (hHeld.trans kv) (fun hHeld => ?_)
                    clear hK K kv IA SA
                    try simp only [Act.put, List.setIfInBounds_toArray, List.set_cons_zero, List.set_cons_succ]
                    refine takeH (i := 16) (d := some 55) (v := ?q33v) rfl rfl (by kernel_rfl) (by kernel_rfl) (by kernel_rfl) (fun _ _ _ h => h) (Or.inl ⟨by rfl, ?q33y⟩) (by assumption) ?q33r
                    case q33y => (intro W hSw; obtain ⟨z0, z1, z2, z3, z4⟩ := CY.out W hSw; go_simp; try with_reducible rfl)
                    try simp only [Act.put, List.setIfInBounds_toArray, List.set_cons_zero, List.set_cons_succ]
                    refine takeH (i := 17) (d := some 56) (v := ?q34v) rfl rfl (by kernel_rfl) (by kernel_rfl) (by kernel_rfl) (fun _ _ _ h => h) (Or.inl ⟨by rfl, ?q34y⟩) (by assumption) ?q34r
                    case q34y => (intro W hSw; obtain ⟨z0, z1, z2, z3, z4⟩ := CY.out W hSw; go_simp; try with_reducible rfl)
                    try simp only [Act.put, List.setIfInBounds_toArray, List.set_cons_zero, List.set_cons_succ]
                    refine takeH (i := 18) (d := some 4) (v := ?q35v) rfl rfl (by kernel_rfl) (by kernel_rfl) (by kernel_rfl) (fun _ _ _ h => h) (Or.inl ⟨by rfl, ?q35y⟩) (by assumption) ?q35r
                    case q35y => (intro W hSw; obtain ⟨z0, z1, z2, z3, z4⟩ := CY.out W hSw; go_simp; try with_reducible rfl)
                    try simp only [Act.put, List.setIfInBounds_toArray, List.set_cons_zero, List.set_cons_succ]
                    refine wpAnyH_done (by kernel_rfl) ?_ _
                    clear n1 n2
                    go_wp2
                    go_meet
                    case rel => exact ⟨rfl, hHeld⟩
                  · skip
                    have SA := Lib.hid (lay_row (w' := wq31) (cs := #[.string ⟨#[68]⟩, .string P1, .string WD, .string LT, .string P2]) (r := fieldsD x) tS (b := wq31.heap.size) (n := 5) (by simp) (by unfold fieldsD; rw [← HP1.out, ← HWD.out, ← HP2.out, ← HLT.out]; rfl) rfl (by simp [maxLen, fieldsD]))
                    go_simp
                    refine hK.out _ _ (kept_alloc hHeld _) (fun hHeld => ?_)
                    clear hK K
                    try simp only [Act.put, List.setIfInBounds_toArray, List.set_cons_zero, List.set_cons_succ]
                    refine wpAnyH_ready (rs := [1]) (by kernel_rfl) (by simp) ?_
                    refine AllReadyH.cons rfl (fun K hK => ?_) AllReadyH.nil
                    have IA := Lib.hid (lay_ints (w' := (wq31.alloc (.cells #[.string ⟨#[68]⟩, .string P1, .string WD, .string LT, .string P2] tS))) (cs := #[.int .i64 1, .int .i64 4, .int .i64 8, .int .i64 1, .int .i64 14]) (r := wD) 3 (b := wq31.heap.size + 1) (n := 5) (by simp) rfl rfl (by simp [maxLen, wD]))
                    have SA := Lib.hid (SA.out.keeps (kept_alloc (Keeps.refl (wq31.alloc (.cells #[.string ⟨#[68]⟩, .string P1, .string WD, .string LT, .string P2] tS))) (.cells #[.int .i64 1, .int .i64 4, .int .i64 8, .int .i64 1, .int .i64 14] 3)))
                    go_simp
                    refine hK.out _ _ (kept_alloc hHeld _) (fun hHeld => ?_)
                    clear hK K
                    try simp only [Act.put, List.setIfInBounds_toArray, List.set_cons_zero, List.set_cons_succ]
                    refine wpAnyH_ready (rs := [15]) (by kernel_rfl) (by simp) ?_
                    refine AllReadyH.cons rfl (fun K hK => ?_) AllReadyH.nil
                    go_simp
                    refine ((fiRprint_any _ _ wD (fieldsD x) _ IA.out SA.out (short_row x))).mono ?_
                    rintro e wq36 ⟨rfl, kv⟩
                    rw [HX.out]
                    refine hK.out _ _ (hHeld.trans kv) (fun hHeld => ?_)
                    clear hK K kv IA SA
                    try simp only [Act.put, List.setIfInBounds_toArray, List.set_cons_zero, List.set_cons_succ]
                    refine takeH (i := 16) (d := some 55) (v := ?q37v) rfl rfl (by kernel_rfl) (by kernel_rfl) (by kernel_rfl) (fun _ _ _ h => h) (Or.inl ⟨by rfl, ?q37y⟩) (by assumption) ?q37r
                    case q37y => (intro W hSw; obtain ⟨z0, z1, z2, z3, z4⟩ := CY.out W hSw; go_simp; try with_reducible rfl)
                    try simp only [Act.put, List.setIfInBounds_toArray, List.set_cons_zero, List.set_cons_succ]
                    refine takeH (i := 17) (d := some 56) (v := ?q38v) rfl rfl (by kernel_rfl) (by kernel_rfl) (by kernel_rfl) (fun _ _ _ h => h) (Or.inl ⟨by rfl, ?q38y⟩) (by assumption) ?q38r
                    case q38y => (intro W hSw; obtain ⟨z0, z1, z2, z3, z4⟩ := CY.out W hSw; go_simp; try with_reducible rfl)
                    try simp only [Act.put, List.setIfInBounds_toArray, List.set_cons_zero, List.set_cons_succ]
                    refine takeH (i := 18) (d := some 4) (v := ?q39v) rfl rfl (by kernel_rfl) (by kernel_rfl) (by kernel_rfl) (fun _ _ _ h => h) (Or.inl ⟨by rfl, ?q39y⟩) (by assumption) ?q39r
                    case q39y => (intro W hSw; obtain ⟨z0, z1, z2, z3, z4⟩ := CY.out W hSw; go_simp; try with_reducible rfl)
                    try simp only [Act.put, List.setIfInBounds_toArray, List.set_cons_zero, List.set_cons_succ]
                    refine wpAnyH_done (by kernel_rfl) ?_ _
                    clear n1 n2
                    go_wp2
                    go_meet
                    case rel => exact ⟨rfl, hHeld⟩
          case rest =>
            obtain ⟨rfl, hHeld⟩ := hcut
            have KF := Lib.hid (HW.out.trans (AX.out.trans hHeld))
            obtain ⟨z0, z1, z2, z3, z4⟩ := CY.out _ hHeld
            clear hHeld n1 n2
            go_wp2_with fail
            exact ⟨⟨k + 1, T2, t + x.a, by have := HK.out; omega, rfl, rfl, by go_num, HT2.out, by rw [HT.out]; exact TK.out.symm, KF.out⟩, by have := HK.out; simp [intOf]; omega⟩
      · obtain rfl : k = N := by omega
        have TT : Hid (t = totA L) := Lib.hid (by rw [HT.out, List.take_of_length_le (by rw [HN.out]; exact Nat.le_refl _)])
        have hl2 : w.heap.size < wr.heap.size := by have := HW.out.size; simp at this; omega
        have hn2 : w.heap.size ≠ wr.heap.size := Nat.ne_of_lt hl2
        obtain ⟨P3, hP3⟩ : ∃ P : ByteArray, ⟨(Mon.pad (k : Int) 6).toArray⟩ = P := ⟨_, rfl⟩
        obtain ⟨P4, hP4⟩ : ∃ P : ByteArray, ⟨(Mon.pad t 16).toArray⟩ = P := ⟨_, rfl⟩
        have HP3 := Lib.hid hP3
        have HP4 := Lib.hid hP4
        have C3 : Hid (∀ W, Calls Tryz.prog 20 #[.int .i64 (k : Int), .int .i64 6] W fun e w' => e = .returned (.string P3) ∧ Keeps W w') := Lib.hid fun W => hP3 ▸ rpad_any (k : Int) 6 W (by unfold I64 top; omega)
        have C4 : Hid (∀ W, Calls Tryz.prog 20 #[.int .i64 t, .int .i64 16] W fun e w' => e = .returned (.string P4) ∧ Keeps W w') := Lib.hid fun W => hP4 ▸ rpad_any t 16 W (by unfold I64 top; omega)
        have HI := Lib.hid (lay_ints (w' := wr) (cs := #[.int .i64 1, .int .i64 6, .int .i64 16]) (r := wT) 3 rfl rfl rfl (by simp [maxLen, wT]))
        have KI := Lib.hid (kept_alloc (Keeps.refl wr) (.cells #[.int .i64 1, .int .i64 6, .int .i64 16] 3))
        obtain ⟨Y, hY⟩ : ∃ X : ByteArray, ⟨(Fix.pr wT [[84], Mon.pad (k : Int) 6, Mon.pad t 16]).toArray⟩ = X := ⟨_, rfl⟩
        have HY := Lib.hid hY
        have HYS : Hid (Y.size = 23) := Lib.hid (by
          have e := trail_len VA.out.good.each VA.out.good.len
          rw [← hY, size_mk]
          unfold trailF at e
          rw [List.length_append, HN.out, ← TT.out] at e
          simpa using e)
        obtain ⟨T1, hT1⟩ : ∃ T, S ++ Y = T := ⟨_, rfl⟩
        obtain ⟨T2, hT2⟩ : ∃ T, T1 ++ ⟨#[10]⟩ = T := ⟨_, rfl⟩
        have E : Hid (prtS 0 s L = T2 ∧ prtC 0 s L = 0) := Lib.hid (by
          refine ⟨?_, by unfold prtC; rw [if_pos ⟨rfl, HB.out⟩]⟩
          apply bytes_inj
          unfold prtS prt
          rw [data_mk, if_pos ⟨rfl, HB.out⟩, ← hT2, ← hT1, ← hY]
          unfold fileL trailF
          have e := HS.out
          rw [List.take_of_length_le (by rw [HN.out]; exact Nat.le_refl _)] at e
          rw [HN.out, ← TT.out]
          simp [e])
        have n1 : ¬ (9223372036854775807 < S.size + Y.size) := by have := HYS.out; have := SS.out; omega
        have n2 : ¬ (9223372036854775807 < T1.size + 1) := by rw [← hT1, ByteArray.size_append]; have := HYS.out; have := SS.out; omega
        clear hP3 hP4 hY TT HT
        go_wp2_with fail
        refine (C3.out _).mono ?_
        rintro e w5 ⟨rfl, k5⟩
        have K5 := Lib.hid (KI.out.trans k5)
        have HI5 := Lib.hid (HI.out.keeps k5)
        clear k5 C3 HI KI x0 x1 x2
        go_wp2_with fail
        refine (C4.out _).mono ?_
        rintro e w6 ⟨rfl, k6⟩
        have K6 := Lib.hid (K5.out.trans k6)
        have HI6 := Lib.hid (HI5.out.keeps k6)
        clear k6 C4 HI5 K5 hl2 hn2
        go_wp2_with fail
        refine ((fiRprint_any _ _ wT [[84], Mon.pad (k : Int) 6, Mon.pad t 16] _ (HI6.out.keeps (kept_alloc (Keeps.refl _) _)) (lay_row (r := [[84], Mon.pad (k : Int) 6, Mon.pad t 16]) _ rfl (by rw [← HP3.out, ← HP4.out]; rfl) rfl (by simp [maxLen])) (short_trail _ _))).mono ?_
        rintro e w7 ⟨rfl, k7⟩
        rw [HY.out]
        have K7 := Lib.hid (KB.out.trans (HW.out.trans (K6.out.trans ((kept_alloc (Keeps.refl w6) _).trans k7))))
        clear k7 HI6 K6
        go_wp2
        go_ret2
        exact ⟨ret_si E.out.1.symm E.out.2.symm, K7.out⟩
end Go.Proofs.YtomonhghioamfaaGreatDoor
