/- SettleParse: the walk. The statement of the law SettleParse, its card: for whatever input it returns true, and its arguments read behind it as before. Its condition: the variables that its row lists hold what the program's text lays. -/
import Derived.Test.YtjmaldikpdlngaaDoorSeL1
import Derived.Test.YtjmaldikpdlngaaDoorSeL2
import Derived.Test.YtjmaldikpdlngaaDoorStRefQ
import Derived.Test.YtjmaldikpdlngaaDoorRows
import Derived.Test.YtjmaldikpdlngaaDoorCards
import Derived.Test.YtjmaldikpdlngaaDoorTie
import Derived.Test.YtjmaldikpdlngaaDoorOpenSt
import Derived.WalkKit
import Derived.ProofKit
import Derived.OpenShut
import Derived.LaidMore
import Derived.Lay
import Derived.SevenTiedAt
import Derived.Stop.Joined
set_option linter.unusedVariables false
namespace Go.Proofs.YtjmaldikpdlngaaDoor
open Go.ChangeShapes Go.WideShapes Go.ChangeAt Go.RowKit Ky Rw Stl

theorem rl_no (S : ByteArray) (a b : Nat) (c : Int) (w : World) (hs : S.size ≤ maxLen) (h : parseM S.data.toList = .error (a, b, c)) :
    Calls Tryd.prog 13 #[.string S] w fun e w' => e = .returned (.tuple #[stV 0 0 (.slice none 0 0), .agg #[.int .i64 (a : Int), .int .i64 (b : Int), .int .i64 c]]) ∧ Keeps w w' := by
  refine (sr_parse S w hs).mono fun e w' ho => ?_
  rcases ho with ⟨s, L, v, h1, _⟩ | ⟨a', b', c', h1, h2, k⟩
  · rw [h] at h1; cases h1
  · rw [h] at h1
    cases h1
    exact ⟨h2, k⟩
theorem rl_yes (S : ByteArray) (s : Int) (L : List R) (w : World) (hs : S.size ≤ maxLen) (h : parseM S.data.toList = .ok (s, L)) :
    Calls Tryd.prog 13 #[.string S] w fun e w' => ∃ v, e = .returned (.tuple #[stV 0 s v, .agg #[.int .i64 0, .int .i64 0, .int .i64 0]]) ∧ RowsIn w' v L ∧ Keeps w w' := by
  refine (sr_parse S w hs).mono fun e w' ho => ?_
  rcases ho with ⟨s', L', v, h1, h2, h3, k⟩ | ⟨a', b', c', h1, _⟩
  · rw [h] at h1
    cases h1
    exact ⟨v, h2, h3, k⟩
  · rw [h] at h1; cases h1
set_option maxHeartbeats 16000000 in
set_option maxRecDepth 100000 in
theorem settleParse_go (s : ByteArray) (w : World) (hp : HasP w) (hs : s.size ≤ maxLen) :
    Calls Tryd.prog 4 #[.string s] w fun e w' => e = .returned (.bool true) ∧ Keeps w w' := by
  have HS : Hid (∀ W, Keeps w W → Calls Tryd.prog 8 #[] W fun e w' => e = .returned (.bool true) ∧ Keeps W w') := Lib.hid fun W k => sl_settled W (hp.keeps k)
  have HP := Lib.hid hp
  have HZ := Lib.hid hs
  unfold maxLen at hs
  clear hp
  go_enter Tryd.func4, Tryd.ntmps4
  by_cases hbig : s.size ≤ 3000
  rotate_left
  · have hd : (3000 : Int) < (s.size : Int) := by omega
    have hd2 : decide ((3000 : Int) < (s.size : Int)) = true := decide_eq_true hd
    go_wp2_with fail
    refine (HS.out _ (Keeps.refl _)).mono ?_
    rintro e w1 ⟨rfl, k1⟩
    go_wp2
    go_ret
    exact ⟨rfl, k1⟩
  have hd2 : decide ((3000 : Int) < (s.size : Int)) = false := decide_eq_false (by omega)
  cases hP : parseM s.data.toList with
  | ok r =>
    obtain ⟨q, L⟩ := r
    have C1 := Lib.hid (sl_yes s q L w HP.out HZ.out hP)
    have C2 : Hid (∀ W, Calls Tryd.prog 13 #[.string s] W fun e w' => ∃ v, e = .returned (.tuple #[stV 0 q v, .agg #[.int .i64 0, .int .i64 0, .int .i64 0]]) ∧ RowsIn w' v L ∧ Keeps W w') := Lib.hid fun W => rl_yes s q L W HZ.out hP
    unfold stV at C1 C2
    obtain ⟨N, hN⟩ : ∃ N, L.length = N := ⟨_, rfl⟩
    have HN := Lib.hid hN
    clear hP hN
    go_wp2_with fail
    refine C1.out.mono ?_
    rintro e w1 ⟨v1, rfl, i1, k1⟩
    have I1 : Hid (∀ W, Keeps w1 W → RowsIn W v1 L) := Lib.hid fun W k => i1.keeps k
    obtain ⟨p1, c1, e1, _⟩ := i1
    rw [HN.out] at e1
    subst e1
    have K1 := Lib.hid k1
    clear k1 C1
    go_upto_region 4 with (fail)
    have T1 := Lib.hid (two_rj w1 (.int .i64 0) (.int .i64 q) (.slice p1 N c1) (.int .i64 0) (.int .i64 0) (.int .i64 0))
    obtain ⟨U1, hU⟩ : ∃ U, (w1.alloc (.cells #[.int .i64 0, .int .i64 q, .slice p1 N c1] tSt)).alloc (.cells #[.int .i64 0, .int .i64 0, .int .i64 0] tRj) = U := ⟨_, rfl⟩
    rw [hU] at T1 ⊢
    clear hU
    go_wp2_with fail
    refine (C2.out _).mono ?_
    rintro e w2 ⟨v2, rfl, i2, k2⟩
    have I2 : Hid (∀ W, Keeps w2 W → RowsIn W v2 L) := Lib.hid fun W k => i2.keeps k
    obtain ⟨p2, c2, e2, _⟩ := i2
    rw [HN.out] at e2
    subst e2
    have K2 := Lib.hid k2
    clear k2 C2
    go_upto_region 5 with (fail)
    have T2 := Lib.hid (two_rj w2 (.int .i64 0) (.int .i64 q) (.slice p2 N c2) (.int .i64 0) (.int .i64 0) (.int .i64 0))
    obtain ⟨U2, hU⟩ : ∃ U, (w2.alloc (.cells #[.int .i64 0, .int .i64 q, .slice p2 N c2] tSt)).alloc (.cells #[.int .i64 0, .int .i64 0, .int .i64 0] tRj) = U := ⟨_, rfl⟩
    rw [hU] at T2 ⊢
    clear hU
    obtain ⟨⟨⟨b0, b1, b2⟩, y0, y1, y2⟩, ku2⟩ := T2.out U2 (Keeps.refl _)
    obtain ⟨⟨⟨a0, a1, a2⟩, x0, x1, x2⟩, ku1⟩ := T1.out U2 (Keeps.trans K2.out ku2)
    have CM : Hid (Calls Tryd.prog 11 #[stV 0 q (.slice p1 N c1), stV 0 q (.slice p2 N c2)] U2 fun e w' => e = .returned (.bool true) ∧ Keeps U2 w') := Lib.hid (by
      have := rr_same 0 q 0 q (.slice p1 N c1) (.slice p2 N c2) L L U2 (I1.out U2 ku1) (I2.out U2 ku2)
      rwa [same_self] at this)
    unfold stV at CM
    have KU2 := Lib.hid ku2
    clear ku1 ku2
    go_wp2_with fail
    refine CM.out.mono ?_
    rintro e w3 ⟨rfl, k3⟩
    have K3 := Lib.hid k3
    clear k3 CM a0 a1 a2 b0 b1 b2 x0 x1 x2 y0 y1 y2
    obtain ⟨⟨_, y0, y1, y2⟩, ku2⟩ := T2.out w3 K3.out
    obtain ⟨⟨_, x0, x1, x2⟩, ku1⟩ := T1.out w3 (Keeps.trans K2.out ku2)
    have K4 := Lib.hid (Keeps.trans K1.out ku1)
    clear ku1 ku2
    go_wp2_with fail
    refine (HS.out _ K4.out).mono ?_
    rintro e w5 ⟨rfl, k5⟩
    go_wp2
    go_ret
    exact ⟨rfl, Keeps.trans K4.out k5⟩
  | error r =>
    obtain ⟨a, b, c⟩ := r
    have C1 := Lib.hid (sl_no s a b c w HP.out HZ.out hP)
    have C2 : Hid (∀ W, Calls Tryd.prog 13 #[.string s] W fun e w' => e = .returned (.tuple #[stV 0 0 (.slice none 0 0), .agg #[.int .i64 (a : Int), .int .i64 (b : Int), .int .i64 c]]) ∧ Keeps W w') := Lib.hid fun W => rl_no s a b c W HZ.out hP
    have CM : Hid (∀ W, Calls Tryd.prog 11 #[stV 0 0 (.slice none 0 0), stV 0 0 (.slice none 0 0)] W fun e w' => e = .returned (.bool true) ∧ Keeps W w') := Lib.hid fun W => same_zero ▸ rr_same 0 0 0 0 _ _ [] [] W (rows_nil W) (rows_nil W)
    unfold stV at C1 C2 CM
    clear hP
    go_wp2_with fail
    refine C1.out.mono ?_
    rintro e w1 ⟨rfl, k1⟩
    have K1 := Lib.hid k1
    clear k1 C1
    go_upto_region 4 with (fail)
    have T1 := Lib.hid (two_rj w1 (.int .i64 0) (.int .i64 0) (.slice none 0 0) (.int .i64 (a : Int)) (.int .i64 (b : Int)) (.int .i64 c))
    obtain ⟨U1, hU⟩ : ∃ U, (w1.alloc (.cells #[.int .i64 0, .int .i64 0, .slice none 0 0] tSt)).alloc (.cells #[.int .i64 (a : Int), .int .i64 (b : Int), .int .i64 c] tRj) = U := ⟨_, rfl⟩
    rw [hU] at T1 ⊢
    clear hU
    go_wp2_with fail
    refine (C2.out _).mono ?_
    rintro e w2 ⟨rfl, k2⟩
    have K2 := Lib.hid k2
    clear k2 C2
    go_upto_region 5 with (fail)
    have T2 := Lib.hid (two_rj w2 (.int .i64 0) (.int .i64 0) (.slice none 0 0) (.int .i64 (a : Int)) (.int .i64 (b : Int)) (.int .i64 c))
    obtain ⟨U2, hU⟩ : ∃ U, (w2.alloc (.cells #[.int .i64 0, .int .i64 0, .slice none 0 0] tSt)).alloc (.cells #[.int .i64 (a : Int), .int .i64 (b : Int), .int .i64 c] tRj) = U := ⟨_, rfl⟩
    rw [hU] at T2 ⊢
    clear hU
    obtain ⟨⟨⟨b0, b1, b2⟩, y0, y1, y2⟩, ku2⟩ := T2.out U2 (Keeps.refl _)
    obtain ⟨⟨⟨a0, a1, a2⟩, x0, x1, x2⟩, ku1⟩ := T1.out U2 (Keeps.trans K2.out ku2)
    clear ku1 ku2
    go_wp2_with fail
    refine (CM.out _).mono ?_
    rintro e w3 ⟨rfl, k3⟩
    have K3 := Lib.hid k3
    clear k3 CM a0 a1 a2 b0 b1 b2 x0 x1 x2 y0 y1 y2
    obtain ⟨⟨_, y0, y1, y2⟩, ku2⟩ := T2.out w3 K3.out
    obtain ⟨⟨_, x0, x1, x2⟩, ku1⟩ := T1.out w3 (Keeps.trans K2.out ku2)
    have K4 := Lib.hid (Keeps.trans K1.out ku1)
    clear ku1 ku2
    go_wp2_with fail
    refine (HS.out _ K4.out).mono ?_
    rintro e w5 ⟨rfl, k5⟩
    go_wp2
    go_ret
    exact ⟨rfl, Keeps.trans K4.out k5⟩
end Go.Proofs.YtjmaldikpdlngaaDoor
namespace Go.Proofs.YtjmaldikpdlngaaDoor.settleParse
open Go.ChangeShapes Go.WideShapes Go.ChangeAt Go.RowKit

theorem own : ownKnob Tryd.prog.godebug = none := by kernel_rfl
theorem laidOut : laidOutB Tryd.prog = true := by kernel_rfl

set_option maxRecDepth 100000 in
theorem lifted (os : Os) (started : os.Started) (H : Type) (enc : TypeId × Value → H) :
    ReturnsInHanded {} Tryd.checked os 4 .any (fun w args => (Rows.settleParseSpec.pre enc Tryd.prog Tryd.f4 Rows.settleParseRow.domain false w args ∧ laidMetH Tryd.prog Rows.settleParseRow.laid w) ∧ sizedMet enc Tryd.prog Tryd.f4 (OpenSpec.ofChange Rows.settleParseSpec) false w args)
      (Rows.settleParseSpec.post enc Tryd.prog Tryd.f4 false true false false) := by
  refine lift_held (C := Tryd.checked) (X := fun w _ => laidMetH Tryd.prog Rows.settleParseRow.laid w) own started (by kernel_rfl) Tryd.func4
    (ChangeSpec.witness_shaped (enc := enc) (C := Tryd.checked) (os := os) (X := fun w _ => laidMetH Tryd.prog Rows.settleParseRow.laid w) false (World.laidAll Tryd.prog os Rows.settleParseRow.laid) #[.string ByteArray.empty] 8 (World.laidAll_os _ _ _)
      (World.shaped_of_ZipB (by kernel_rfl) (by kernel_rfl)) (by kernel_rfl) (by kernel_rfl) (by kernel_rfl)
      (by rw [MakeChecks.laidMetH_plain _ _ _ (by kernel_rfl)]; exact laidMet_laidAll _ (by kernel_rfl) (by kernel_rfl))) ?_
  intro W base args ds gs before hval0 hW hsz0 hsh hx
  have hkk : HasP W := hasPW_of hx (by rfl)
  have hval : ∀ (j : Nat) t v, Tryd.f4.params[j]? = some t → args[j]? = some v → Value.okWide Tryd.prog W .any base t v := hval0
  have hW' := hW
  obtain ⟨p, q, hA0, hV, rfl, hfz, hnd⟩ := hW
  have hA : DataW.TrodAll enc Tryd.prog W 0 (fun _ => true) true Tryd.f4.params.toList args.toList ds p := hA0
  rw [Tryd.params4] at hA hval
  obtain ⟨v0, vs0, d0, ds0, p0, q0, hargs, rfl, rfl, h0, r0⟩ := trodAll_cons hA
  obtain ⟨rfl, rfl, rfl⟩ := trodAll_nil r0
  obtain rfl : args = #[v0] := by cases args; simp_all
  obtain ⟨rfl, rfl⟩ := trodVars_none hV
  have hlt := hW'.lt
  clear hA0 hval0
  have k0 := h0
  obtain ⟨a0, rfl, rfl, rfl, w0⟩ := Go.ChangeMaps.open_string Tryd.underlying9 (hval 0 9 v0 rfl rfl) h0
  refine (settleParse_go a0 W hkk w0).mono fun e W' ⟨he, hb⟩ => ?_
  subst he
  exact ⟨_, rfl, _, _, _, [] ++ [], _, [], hW', (trodAll_cons_mk (shut_bool Tryd.underlying4 _) trodAll_mk0), (trodAll_cons_mk (Below.trod laidOut (by kernel_rfl) (of_decide_eq_true (by kernel_rfl)) k0 hb (by simp)) trodAll_mk0), rfl, hb.frame _, fun h => by cases h⟩

theorem over : Rows.settleParseRow.holds Tryd.pinned (OpenSpec.ofChange Rows.settleParseSpec) :=
  OpenClaim.holds_of_wide 4 Tryd.f4 rfl rfl rfl rfl rfl rfl rfl ⟨rfl, rfl, rfl, rfl, rfl⟩ rfl rfl rfl rfl rfl (by kernel_rfl) Tryd.func4 (by kernel_rfl)
    (of_decide_eq_true (by kernel_rfl)) (by unfold Func.isWrapper; first | (rw [if_pos (by decide +kernel)]; kernel_rfl) | (rw [if_neg (by decide +kernel)]; exact ⟨rfl, rfl⟩))
    (fun os started H enc _ => lifted os started H enc)

/-- The statement. -/
theorem proved : Rows.SettleParseCardSaid :=
  Claim7.holds_tied_plain_at .later [] [.data, .data, .pinned] true Rows.settleParseCard.stood.harness false over (fun _ h => by cases h) (by kernel_rfl) (fun _ h => by cases h) settleParse_row_tie rfl ⟨rfl, rfl⟩ (by kernel_rfl) rfl
    (fun f fn hf hfn => by
      obtain rfl : f = 4 := Option.some.inj ((show Tryd.prog.funcNamed Rows.settleParseRow.func = some 4 by kernel_rfl).symm.trans hf) |>.symm
      obtain rfl : fn = Tryd.f4 := (Option.some.inj (Tryd.func4.symm.trans hfn)).symm
      exact ⟨by kernel_rfl, fun j t ht => by
        rw [Tryd.params4] at ht
        have hm : t ∈ [9] := by simpa using Array.mem_of_getElem? ht
        have hall : ([9].all fun u => !Tryd.prog.wantsStandIn u) = true := by kernel_rfl
        exact (show Tryd.prog.wantsStandIn t = false by simpa using List.all_eq_true.1 hall t hm)⟩)
    (by kernel_rfl)
end Go.Proofs.YtjmaldikpdlngaaDoor.settleParse
