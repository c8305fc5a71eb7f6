
/- The laws FixedPrint and FixedParse, walked. -/
import Derived.Test.YthhpbnpenkndfaaDoorFixedLaws
import Derived.Test.YthhpbnpenkndfaaDoorFixedRefP
import Derived.Test.YthhpbnpenkndfaaDoorFixedRefQ
set_option linter.unusedVariables false
namespace Go.Proofs.YthhpbnpenkndfaaDoor
open Go.ChangeShapes Go.WideShapes Go.ChangeAt Go.RowKit Csv Fix

theorem all_at {F : List Bs} {n : Nat} (h : ∀ j f, j < F.length → F[j]? = some f → f.length ≤ n) : ∀ f ∈ F, f.length ≤ n := by
  intro f hf
  obtain ⟨j, hj⟩ := List.getElem?_of_mem hf
  exact h j f (List.getElem?_eq_some_iff.1 hj).1 hj

set_option maxRecDepth 100000 in
set_option maxHeartbeats 4000000 in
theorem fixedPrint_go (vW : Value) (W : List Int) (vF : Value) (F : List Bs) (w : World) (hW : IntsAt w vW W) (hF : StrsAt w vF F) (hbig : ∀ f ∈ F, f.length ≤ maxLen) :
    Calls Tryd.prog 3 #[vW, vF] w fun e w' => e = .returned (.bool true) ∧ Keeps w w' := by
  have HIW := Lib.hid hW
  have HIF := Lib.hid hF
  have HB := Lib.hid hbig
  have cl := lined_yes w
  obtain ⟨pW, cW, rfl, lW, hW⟩ := hW
  obtain ⟨pF, cF, rfl, lF, hF⟩ := hF
  have HF := Lib.hid hF
  clear hW hF hbig
  unfold maxLen at lW lF
  by_cases h1 : 120 < W.length
  · have t1 : decide ((120 : Int) < (W.length : Int)) = true := decide_eq_true (by omega)
    clear h1
    go_enter Tryd.func3, Tryd.ntmps3
    go_wp2_with (go_at_call 7; refine cl.mono ?_; rintro e w' ⟨rfl, hk⟩)
    go_ret
    exact ⟨rfl, hk⟩
  have t1 : decide ((120 : Int) < (W.length : Int)) = false := decide_eq_false (by omega)
  by_cases h2 : 120 < F.length
  · have t2 : decide ((120 : Int) < (F.length : Int)) = true := decide_eq_true (by omega)
    clear h1 h2
    go_enter Tryd.func3, Tryd.ntmps3
    go_wp2_with (go_at_call 7; refine cl.mono ?_; rintro e w' ⟨rfl, hk⟩)
    go_ret
    exact ⟨rfl, hk⟩
  have t2 : decide ((120 : Int) < (F.length : Int)) = false := decide_eq_false (by omega)
  have HCL := Lib.hid cl
  clear h1 h2 cl
  go_enter Tryd.func3, Tryd.ntmps3
  go_wp2
  clear t1 t2
  go_loop [5] (fun i => ∃ k : Nat, k ≤ F.length ∧ i = .int .i64 k ∧ ∀ j f, j < k → F[j]? = some f → f.length ≤ 1100) (fun i => F.length - (intOf i).toNat)
  case atStart => exact ⟨0, by omega, rfl, fun j f hj _ => by omega⟩
  case round =>
    obtain ⟨k, hk, rfl, hall⟩ := hrel
    have HA := Lib.hid hall
    clear hall
    by_cases hlt : k < F.length
    · obtain ⟨f, hf⟩ : ∃ f, F[k]? = some f := ⟨_, List.getElem?_eq_getElem hlt⟩
      obtain ⟨a, rfl, hc⟩ := HF.out k f hf
      obtain ⟨X, hX⟩ : ∃ X : ByteArray, (⟨f.toArray⟩ : ByteArray) = X := ⟨_, rfl⟩
      have hXs : X.size = f.length := by rw [← hX, size_mk]
      have hc' : w.cell? (a.add k) = some (.string X) := by rw [← hX]; exact hc
      have hi1 : (k : Int) < (F.length : Int) := by omega
      have hfb : f.length ≤ maxLen := HB.out f (List.mem_of_getElem? hf)
      have HK := Lib.hid hf
      unfold maxLen at hfb
      clear hf hc hX
      by_cases h11 : 1100 < f.length
      · have t3 : decide ((1100 : Int) < (X.size : Int)) = true := decide_eq_true (by omega)
        clear h11 hXs
        go_wp2_with (go_at_call 7; refine HCL.out.mono ?_; rintro e w' ⟨rfl, hk⟩)
        go_ret
        exact ⟨rfl, hk⟩
      · have t3 : decide ((1100 : Int) < (X.size : Int)) = false := decide_eq_false (by omega)
        have hle : f.length ≤ 1100 := by omega
        clear h11 hXs
        go_wp2
        go_round
        case rel =>
          refine ⟨k + 1, by omega, by go_num, fun j g hj hg => ?_⟩
          by_cases hjk : j < k
          · exact HA.out j g hjk hg
          · obtain rfl : j = k := by omega
            have h := HK.out
            rw [hg] at h
            cases h; exact hle
        case measure => simp [intOf]; omega
    · obtain rfl : k = F.length := by omega
      have hz : ¬ ((F.length : Int) < (F.length : Int)) := by omega
      have HS := Lib.hid (all_at HA.out)
      go_wp2_with fail
      refine (print_any _ _ W F w HIW.out HIF.out HS.out).mono ?_
      rintro e w1 ⟨rfl, hk1⟩
      have HK1 := Lib.hid hk1
      clear hk1
      go_wp2_with fail
      refine (rprint_any _ _ W F w1 (HIW.out.keeps HK1.out) (HIF.out.keeps HK1.out) HS.out).mono ?_
      rintro e w2 ⟨rfl, hk2⟩
      have HK2 := Lib.hid (Keeps.trans HK1.out hk2)
      clear hk2
      have cl2 := lined_yes w2
      go_wp2_with (go_at_call 7; refine cl2.mono ?_; rintro e w' ⟨rfl, hk⟩)
      go_ret
      exact ⟨rfl, Keeps.trans HK2.out hk⟩

set_option maxRecDepth 100000 in
set_option maxHeartbeats 4000000 in
theorem fixedParse_go (vW : Value) (W : List Int) (s : ByteArray) (w : World) (hW : IntsAt w vW W) (hs : s.size ≤ maxLen) :
    Calls Tryd.prog 4 #[vW, .string s] w fun e w' => e = .returned (.bool true) ∧ Keeps w w' := by
  have HIW := Lib.hid hW
  have HS := Lib.hid hs
  have cl := lined_yes w
  obtain ⟨pW, cW, rfl, lW, hW⟩ := hW
  clear hW
  unfold maxLen at lW hs
  by_cases h1 : 120 < W.length
  · have t1 : decide ((120 : Int) < (W.length : Int)) = true := decide_eq_true (by omega)
    clear h1
    go_enter Tryd.func4, Tryd.ntmps4
    go_wp2_with (go_at_call 7; refine cl.mono ?_; rintro e w' ⟨rfl, hk⟩)
    go_ret
    exact ⟨rfl, hk⟩
  have t1 : decide ((120 : Int) < (W.length : Int)) = false := decide_eq_false (by omega)
  by_cases h2 : 5000 < s.size
  · have t2 : decide ((5000 : Int) < (s.size : Int)) = true := decide_eq_true (by omega)
    clear h1 h2
    go_enter Tryd.func4, Tryd.ntmps4
    go_wp2_with (go_at_call 7; refine cl.mono ?_; rintro e w' ⟨rfl, hk⟩)
    go_ret
    exact ⟨rfl, hk⟩
  have t2 : decide ((5000 : Int) < (s.size : Int)) = false := decide_eq_false (by omega)
  clear h1 h2 cl
  obtain ⟨D, hD⟩ : ∃ D, (pa W s.data.toList) = D := ⟨_, rfl⟩
  obtain ⟨FL, c⟩ := D
  have HD := Lib.hid hD
  clear hD
  go_enter Tryd.func4, Tryd.ntmps4
  go_wp2_with fail
  refine (fparse_is HIW.out HS.out HD.out).mono ?_
  rintro e w1 ⟨v1, rfl, hs1, hk1⟩
  have HS1 := Lib.hid hs1
  have HK1 := Lib.hid hk1
  obtain ⟨p1, c1, rfl, _⟩ := hs1
  clear hk1
  go_wp2_with fail
  refine (rfparse_any _ W s w1 (HIW.out.keeps HK1.out) HS.out).mono ?_
  intro e w2 hout
  obtain ⟨v2, rfl, hs2, hk2⟩ := out_is hout HD.out
  have HS2 := Lib.hid hs2
  have HK2 := Lib.hid (Keeps.trans HK1.out hk2)
  have HA := Lib.hid (HS1.out.keeps hk2)
  obtain ⟨p2, c2, rfl, _⟩ := hs2
  clear hk2 hout
  go_wp2_with fail
  refine (fsame_any _ _ FL FL _ HA.out HS2.out).mono ?_
  rw [sameF_self]
  rintro e w3 ⟨rfl, hk3⟩
  have HK3 := Lib.hid (Keeps.trans HK2.out hk3)
  clear hk3
  have cl3 := lined_yes w3
  go_wp2_with (go_at_call 7; refine cl3.mono ?_; rintro e w' ⟨rfl, hk⟩)
  go_ret
  exact ⟨rfl, Keeps.trans HK3.out hk⟩
end Go.Proofs.YthhpbnpenkndfaaDoor
