
/- The walk of JournalRoom. -/
import Derived.Test.YtlaepdpgegoopaaJnKept
import Derived.Test.YtlaepdpgegoopaaOpenArgs
set_option linter.unusedVariables false
namespace Go.Proofs.Ytlaepdpgegoopaa
open Go.ChangeShapes Go.WideShapes Go.ChangeAt Go.RowKit Csv Dk Jn Go.Deep

/-- What is read of a slice of small numbers. -/
def U16sAt (w : World) (v : Value) (l : List Nat) : Prop := ∃ p c, v = .slice p l.length c ∧ l.length ≤ maxLen ∧ ∀ (j x : Nat), l[j]? = some x → x < 65536 ∧ ∃ a : Addr, p = some a ∧ w.cell? (a.add j) = some (.int .u16 (x : Int))
theorem cells_u16 : Try.prog.cellsOf 55 = 1 := by kernel_rfl
theorem open_u16s_arg {H : Type} {enc : TypeId × Value → H} {w : World} {base : Nat} {held : Bool} {p : Option Addr} {n c : Nat} {v : Value} {d : DataW H} {ps : List MemPlace} (e : v = .slice p n c) (h : DataW.Trod enc Try.prog w base (fun _ => true) held 54 v d ps) : ∃ l : List Nat, U16sAt w v l := by
  obtain ⟨fuel, h⟩ := h
  subst e
  rcases open_ints Try.underlying54 Try.underlying55 cells_u16 h with ⟨hcs, _⟩ | ⟨a, len, cap, zs, hcs, _, hl, hm, hz, _, hcell, hwf⟩
  · rw [(List.cons.inj hcs).1]
    exact ⟨[], none, 0, rfl, by simp [maxLen], fun j c hc => by simp at hc⟩
  · rw [(List.cons.inj hcs).1]
    simp only [if_true] at hz
    refine ⟨(zs.take len).map Int.toNat, some a, cap, ?_, ?_, fun j x hx => ?_⟩
    · simp [hz]; omega
    · simp [hz]; omega
    · have hj : j < len := by
        have := (List.getElem?_eq_some_iff.1 hx).1
        simp at this; omega
      rw [List.getElem?_map, List.getElem?_take, if_pos hj] at hx
      obtain ⟨n, hn, rfl⟩ := Option.map_eq_some_iff.1 hx
      have hw := hwf n (List.mem_of_getElem? hn)
      simp [Lit.wf, IntKind.min, IntKind.max, IntKind.signed, IntKind.bits] at hw
      refine ⟨by omega, a, rfl, ?_⟩
      rw [hcell j (by omega)]
      simp [List.getD, hn]
      omega
theorem u32_at {n : Int} (h : (Lit.int .u32 n).wf = true) : ∃ k : Nat, n = (k : Int) ∧ k < 4294967296 := by
  simp [Lit.wf, IntKind.min, IntKind.max, IntKind.signed, IntKind.bits] at h
  exact ⟨n.toNat, by omega, by omega⟩
theorem u16_at' {n : Int} (h : (Lit.int .u16 n).wf = true) : ∃ k : Nat, n = (k : Int) ∧ k < 65536 := by
  simp [Lit.wf, IntKind.min, IntKind.max, IntKind.signed, IntKind.bits] at h
  exact ⟨n.toNat, by omega, by omega⟩

set_option maxRecDepth 100000 in
set_option maxHeartbeats 4000000 in
theorem journalRoom_go (cp : Int) (v : Value) (l : List Nat) (lg : Int) (w : World) (hcp : (Lit.int .u32 cp).wf = true) (hv : U16sAt w v l) (hlg : (Lit.int .u16 lg).wf = true) :
    Calls Try.prog 5 #[.int .u32 cp, v, .int .u16 lg] w fun e w' => e = .returned (.bool true) ∧ Keeps w w' := by
  obtain ⟨A, rfl, hA⟩ := u32_at hcp
  obtain ⟨L, rfl, hL⟩ := u16_at' hlg
  obtain ⟨p, c, rfl, lm, hl⟩ := hv
  obtain ⟨N, hN⟩ : ∃ N, l.length = N := ⟨_, rfl⟩
  rw [hN] at lm ⊢
  unfold maxLen at lm
  have HL := Lib.hid hl
  have HN := Lib.hid hN
  clear hl hN hcp hlg
  by_cases h200 : 200 < N
  · have t1 : decide ((200 : Int) < (N : Int)) = true := decide_eq_true (by omega)
    clear h200
    go_enter Try.func5, Try.ntmps5
    go_wp2_with fail
    refine (kept_any _).mono ?_
    rintro e w1 ⟨rfl, k1⟩
    go_wp2
    go_ret
    exact ⟨rfl, k1⟩
  have t1 : decide ((200 : Int) < (N : Int)) = false := decide_eq_false (by omega)
  obtain ⟨K, hK⟩ : ∃ K : Nat, A % 200000 = K := ⟨_, rfl⟩
  have hK2 : K < 200000 := by omega
  have eK : (A : Int) % 200000 = (K : Int) := by omega
  obtain ⟨C, hC⟩ : ∃ C : Nat, C = 70008 + K := ⟨_, rfl⟩
  have eC : (70008 : Int) + (K : Int) = (C : Int) := by omega
  have hC1 : 70008 ≤ C := by omega
  have hC2 : C ≤ 300000 := by omega
  obtain ⟨X, hXs, hXd, hmX, hcX⟩ := noughts L (by omega)
  have HXS := Lib.hid hXs
  have HXM := Lib.hid (show X.size ≤ maxLen by unfold maxLen; omega)
  clear hK hC hXs hXd
  go_enter Try.func5, Try.ntmps5
  go_wp2_with fail
  refine (new_own C w w (Keeps.refl _) (by omega)).mono ?_
  rintro e w0 ⟨d, rfl, h0⟩
  have H0 := Lib.hid h0
  clear h0
  unfold ptrV
  go_wp2_with fail
  refine (jopen_new H0.out (by omega) (by omega)).mono ?_
  rintro e w1 ⟨b, vb, rfl, h1, _⟩
  have H1 := Lib.hid (h1.less (rows' := []) fun p hp => by cases hp)
  clear h1 H0
  unfold ptrV
  go_wp2
  go_loopw [13, 14, 15, 16] (fun vm vi vf vg wr => ∃ (k m : Nat) (R : List Bs), k ≤ N ∧ vi = .int .i64 (k : Int) ∧ vm = .int .i64 (m : Int) ∧ m ≤ k ∧ OwnJ w C 0 d b R [] true wr ∧ R.length = m + 1 ∧ 70000 ≤ (C : Int) - ((Rc.rowL R).length : Int)) (fun _ vi _ _ _ => N - (intOf vi).toNat)
  case atStart => exact ⟨0, 0, [[]], by omega, rfl, rfl, by omega, H1.out, rfl, by simp [Rc.rowL, Rc.recL_len]; omega⟩
  case round =>
    obtain ⟨k, m, R, hk, rfl, rfl, hmk, ho, hRl, hfree⟩ := hrel
    have HO := Lib.hid ho
    have HRL := Lib.hid hRl
    obtain ⟨F, hF⟩ : ∃ F : Nat, (C : Int) - ((Rc.rowL R).length : Int) = (F : Int) := ⟨((C : Int) - ((Rc.rowL R).length : Int)).toNat, by omega⟩
    have HF := Lib.hid hF
    have hF7 : 70000 ≤ F := by omega
    have hF9 : F ≤ 300000 := by omega
    clear ho hRl hfree hF H1
    by_cases hlt : k < N
    · obtain ⟨x, hx⟩ : ∃ x, l[k]? = some x := ⟨_, List.getElem?_eq_getElem (by have := HN.out; omega)⟩
      obtain ⟨hx6, a, rfl, q0⟩ := HL.out k x hx
      have hi1 : (k : Int) < (N : Int) := by omega
      obtain ⟨Q, hQ⟩ : ∃ Q : Nat, x % 5000 = Q := ⟨_, rfl⟩
      have hQ5 : Q < 5000 := by omega
      have eQ : (x : Int) % 5000 = (Q : Int) := by omega
      obtain ⟨Y, hYs, _, hmY, hcY⟩ := noughts Q (by omega)
      have HYS := Lib.hid hYs
      have HYM := Lib.hid (show Y.size ≤ maxLen by unfold maxLen; omega)
      have C0 : Hid (Calls Try.prog 20 #[.pointer (some ⟨d, 0, none⟩)] wr fun e w' => e = .returned (.int .i64 (F : Int)) ∧ OwnJ w C 0 d b R [] true w') := Lib.hid (by
        have := free_ownJ HO.out
        rw [HF.out] at this
        exact this)
      clear hx hQ hYs
      go_wp2_with fail
      refine C0.out.mono ?_
      rintro e w2 ⟨rfl, h2⟩
      have q0' := cell_keeps (a := a.add k) (w := w) h2.kept q0
      have H2 := Lib.hid (h2.keeps (keeps_lit w2 (zrow Q)))
      clear h2 HO C0
      go_wp2_with fail
      refine (japp_own H2.out (by omega) (by omega) Y HYM.out).mono ?_
      rintro e w3 ⟨ho, _⟩
      rcases ho with ⟨rfl, _, hnf, h3⟩ | ⟨_, h3, _⟩ | ⟨rfl, hfull, h3⟩ | ⟨_, h3, _⟩
      · have hlen : (Rc.rowL (R ++ [Y.data.toList])).length = (Rc.rowL R).length + (Q + 8) := by rw [Rc.rowL_snoc, List.length_append, Rc.recL_len, len_data, HYS.out]
        obtain ⟨F2, hF2⟩ : ∃ F2 : Nat, (C : Int) - ((Rc.rowL (R ++ [Y.data.toList])).length : Int) = (F2 : Int) := by
          refine ⟨((C : Int) - ((Rc.rowL (R ++ [Y.data.toList])).length : Int)).toNat, ?_⟩
          rw [HYS.out] at hnf
          rw [hlen]
          have := HF.out
          omega
        have hF27 : 70000 ≤ F2 := by
          rw [HYS.out] at hnf
          rw [hlen] at hF2
          have := HF.out
          omega
        obtain ⟨m1, hm1⟩ : ∃ m1, m1 = m + 1 := ⟨_, rfl⟩
        have em : (m : Int) + 1 = (m1 : Int) := by omega
        have HR2 := Lib.hid (show (R ++ [Y.data.toList]).length = m1 + 1 by rw [List.length_append, HRL.out, hm1]; rfl)
        have HM1 := Lib.hid hm1
        have H3 := Lib.hid h3
        have C1 : Hid (Calls Try.prog 20 #[.pointer (some ⟨d, 0, none⟩)] w3 fun e w' => e = .returned (.int .i64 (F2 : Int)) ∧ OwnJ w C 0 d b (R ++ [Y.data.toList]) [] true w') := Lib.hid (by
          have := free_ownJ H3.out
          rw [hF2] at this
          exact this)
        have HF2 := Lib.hid hF2
        have hF29 : F2 ≤ 300000 := by omega
        have t5 : decide ((F2 : Int) < 70000) = false := decide_eq_false (by omega)
        clear h3 H2 hlen hF2 hm1 hnf
        go_wp2_with fail
        refine C1.out.mono ?_
        rintro e w4 ⟨rfl, h4⟩
        have H4 := Lib.hid h4
        clear h4 H3 C1
        go_wp2_with fail
        refine (ents_own H4.out HR2.out).mono ?_
        rintro e w' ⟨rfl, rfl⟩
        have t6 : ((m1 : Int) != (m1 : Int)) = false := by simp
        go_wp2
        go_roundw
        case rel => exact ⟨k + 1, m1, _, by omega, by go_num, rfl, by have := HM1.out; omega, H4.out, HR2.out, by rw [HF2.out]; omega⟩
        case measure => simp [intOf]; omega
      · exact absurd h3 (by rw [HYS.out]; omega)
      · have H3 := Lib.hid h3
        have C1 : Hid (∀ W, OwnJ w C 0 d b R [] true W → Calls Try.prog 20 #[.pointer (some ⟨d, 0, none⟩)] W fun e w' => e = .returned (.int .i64 (F : Int)) ∧ OwnJ w C 0 d b R [] true w') := Lib.hid fun W h => by
          have := free_ownJ h
          rw [HF.out] at this
          exact this
        have t5 : decide ((F : Int) < 70000) = false := decide_eq_false (by omega)
        have t6 : ((F : Int) != (F : Int)) = false := by simp
        have t7 : ((m : Int) != (m : Int)) = false := by simp
        clear h3 H2 hfull
        go_wp2_with fail
        refine (C1.out _ H3.out).mono ?_
        rintro e w4 ⟨rfl, h4⟩
        have H4 := Lib.hid h4
        clear h4 H3
        go_wp2_with fail
        refine (C1.out _ H4.out).mono ?_
        rintro e w5 ⟨rfl, h5⟩
        have H5 := Lib.hid h5
        clear h5 H4
        go_wp2_with fail
        refine (ents_own H5.out HRL.out).mono ?_
        rintro e w' ⟨rfl, rfl⟩
        go_wp2
        go_roundw
        case rel => exact ⟨k + 1, m, R, by omega, by go_num, rfl, by omega, H5.out, HRL.out, by rw [HF.out]; omega⟩
        case measure => simp [intOf]; omega
      · cases h3
    · obtain rfl : k = N := by omega
      have hz : ¬ ((k : Int) < (k : Int)) := by omega
      have HO2 := Lib.hid (HO.out.keeps (keeps_lit wr (zrow L)))
      have eL : ((Rc.rowL [X.data.toList]).length : Int) = (L : Int) + 8 := by
        have : (Rc.rowL [X.data.toList]).length = L + 8 := by simp [Rc.rowL, Rc.recL_len, HXS.out]
        omega
      have EL := Lib.hid eL
      clear eL
      go_wp2_with fail
      refine (jcom_own HO2.out (by omega) (by omega) X HXM.out).mono ?_
      rintro e w3 ⟨ho, _⟩
      obtain ⟨rfl, h3⟩ := ho.ok (by rw [HXS.out]; omega) (by rw [HXS.out, HF.out]; omega)
      have H3 := Lib.hid h3
      clear h3 HO2 HO ho
      go_wp2_with fail
      refine (ents_own H3.out (n := 0) rfl).mono ?_
      rintro e w' ⟨rfl, rfl⟩
      rw [show ((0 : Nat) : Int) = 0 from rfl]
      go_wp2_with fail
      refine (jsize_own H3.out).mono ?_
      rintro e w' ⟨rfl, rfl⟩
      rw [EL.out]
      have t8 : ((L : Int) + 8 == (L : Int) + 8) = true := by simp
      go_wp2_with fail
      refine (kept_any _).mono ?_
      rintro e w4 ⟨rfl, k4⟩
      go_wp2
      go_ret
      exact ⟨rfl, H3.out.kept.trans k4⟩
end Go.Proofs.Ytlaepdpgegoopaa
