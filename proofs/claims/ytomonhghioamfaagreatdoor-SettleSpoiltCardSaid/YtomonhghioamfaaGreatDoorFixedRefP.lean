
/- The document's own answer for fixed: Print. -/
import Derived.Test.YtomonhghioamfaaGreatDoorFixedRefC
import Derived.Test.YtomonhghioamfaaGreatDoorFixedPrintC
import Derived.Deep.RegionWith
import Derived.Deep.QuietTactic
import Derived.BigQuiet
set_option linter.unusedVariables false
namespace Go.Proofs.YtomonhghioamfaaGreatDoor
open Go.ChangeShapes Go.WideShapes Go.ChangeAt Go.RowKit Csv Fix

theorem fiSize_of (s : ByteArray) : s.size = s.data.toList.length := by rw [len_data]
theorem cat_of (a b : ByteArray) : (a ++ b).data.toList = a.data.toList ++ b.data.toList := by simp
theorem drewN_keeps (w : World) (n : Nat) : Keeps w (w.drewN n) := ⟨rfl, rfl, rfl, Nat.le_refl _, fun _ _ => rfl⟩
theorem quiet_same {P : Program} {f : FuncId} {args : Array Value} {w : World} {n : Nat} {v : Value}
    (h : Calls P f args (w.drewN n) fun e w' => e = .returned v ∧ w.drewN n = w') : Calls P f args (w.drewN n) fun e w'' => e = .returned v ∧ ∃ m, w'' = w.drewN m :=
  h.mono fun _ _ ⟨he, hm⟩ => ⟨he, n, hm.symm⟩

theorem blank_more {m n : Nat} (h : m ≤ n) : List.replicate (n + 1 - m) (32 : UInt8) = List.replicate (n - m) 32 ++ [32] := by
  rw [Nat.succ_sub h, List.replicate_succ']
/-- A line under way, and blanks behind the last field. -/
def LineTo (W : List Int) (F : List Bs) (k : Nat) (f : Bs) (q : Nat) (S : ByteArray) : Prop := S.data.toList = lineS (W.take k) (F.take k) ++ (f ++ List.replicate (q - f.length) 32)

set_option maxHeartbeats 4000000 in
theorem fiRprint_any (vW vF : Value) (W : List Int) (F : List Bs) (w : World) (hW : IntsAt w vW W) (hF : StrsAt w vF F) (hf : ∀ f ∈ F, f.length ≤ 1100) :
    Calls Tryz.prog 19 #[vW, vF] w fun e w' => e = .returned (.string ⟨(pr W F).toArray⟩) ∧ Keeps w w' := by
  have ctg := all_any vW W w hW
  obtain ⟨pW, cW, rfl, lW, hW⟩ := hW
  obtain ⟨pF, cF, rfl, lF, hF⟩ := hF
  have HW := Lib.hid hW
  have HF := Lib.hid hF
  have HL := Lib.hid hf
  clear hW hF hf
  unfold maxLen at lW lF
  cases hok : okW W with
  | false =>
    rw [allI_no hok] at ctg
    have H := Lib.hid (show pr W F = [] from pr_no (by simp [hok]))
    clear hok
    go_enter Tryz.func19, Tryz.ntmps19
    go_wp2_with (go_at_call 49; refine ctg.mono ?_; rintro e w' ⟨rfl, rfl⟩)
    go_ret
    exact ⟨ret_str (by rw [H.out]), Keeps.refl _⟩
  | true =>
    rw [allI_yes hok] at ctg
    have HOK := Lib.hid hok
    have t0 : decide ((sumW W : Int) < 0) = false := decide_eq_false (by omega)
    clear hok
    by_cases hlen : W.length = F.length
    · have t1 : ((W.length : Int) != (F.length : Int)) = false := by simp [bne, hlen]
      have HE := Lib.hid hlen
      clear hlen
      go_enter Tryz.func19, Tryz.ntmps19
      go_wp2_with (go_at_call 49; refine ctg.mono ?_; rintro e w' ⟨rfl, rfl⟩)
      clear t1 t0 ctg
      go_loopw [5, 6] (fun o i wx => ∃ (k : Nat) (S : ByteArray), k ≤ F.length ∧ i = .int .i64 k ∧ o = .string S ∧ S.data.toList = lineS (W.take k) (F.take k) ∧ fitsTo (W.take k) (F.take k) = true ∧ Keeps w wx) (fun _ i _ => F.length - (intOf i).toNat)
      case atStart => exact ⟨0, _, by omega, rfl, rfl, rfl, rfl, Keeps.refl _⟩
      case round =>
        obtain ⟨k, S, hk, rfl, rfl, hS, hft, hkp⟩ := hrel
        have HK := Lib.hid hkp
        have HS := Lib.hid hS
        have HFT := Lib.hid hft
        clear hS hft hkp
        by_cases hlt : k < F.length
        · have hltW : k < W.length := by rw [HE.out]; exact hlt
          obtain ⟨n, hn⟩ : ∃ n, W[k]? = some n := ⟨_, List.getElem?_eq_getElem hltW⟩
          obtain ⟨f, hfk⟩ : ∃ f, F[k]? = some f := ⟨_, List.getElem?_eq_getElem hlt⟩
          obtain ⟨a, rfl, hca⟩ := HW.out k n hn
          obtain ⟨b, rfl, hcb⟩ := HF.out k f hfk
          obtain ⟨X, hX⟩ : ∃ X : ByteArray, (⟨f.toArray⟩ : ByteArray) = X := ⟨_, rfl⟩
          have hca2 := cell_keeps HK.out hca
          have hcb2 : wr.cell? (b.add k) = some (.string X) := by rw [← hX]; exact cell_keeps HK.out hcb
          have hXd : X.data.toList = f := by rw [← hX]
          have hXs : X.size = f.length := by rw [fiSize_of, hXd]
          have hwn := okW_at HOK.out hn
          have hfl : f.length ≤ 1100 := HL.out f (List.mem_of_getElem? hfk)
          have hi1 : (k : Int) < (W.length : Int) := by omega
          have hi2 : (k : Int) < (F.length : Int) := by omega
          have HN := Lib.hid hn
          have HFK := Lib.hid hfk
          have HXD := Lib.hid hXd
          have hpart := lineS_part k HOK.out HE.out HFT.out
          have hSs : S.size ≤ 100000 := by rw [fiSize_of, HS.out]; exact hpart
          have cf : ∀ W', Calls Tryz.prog 50 #[.string X, .int .i64 n] W' fun e w' => e = .returned (.bool (fitB f n)) ∧ W' = w' := fun W' => by
            have h := rfits_any X n W' (by rw [hXs]; unfold maxLen; omega)
            rw [hXd] at h; exact h
          clear hca hcb hn hfk hX hXd
          cases hfit : fitB f n with
          | false =>
            rw [hfit] at cf
            have H := Lib.hid (show pr W F = [] from pr_no (by rw [fitsTo_no HN.out HFK.out hfit]; simp))
            clear hfit hXs
            go_wp2
            go_quiet ((go_at_call 50; exact quiet_same (cf _)))
            go_wp2
            go_ret
            exact ⟨ret_str (by rw [H.out]), Keeps.trans HK.out (drewN_keeps _ _)⟩
          | true =>
            rw [hfit] at cf
            have hle := fitB_le hfit
            obtain ⟨m, hm⟩ : ∃ m : Nat, n = (m : Int) := ⟨n.toNat, by omega⟩
            subst hm
            have H1 := Lib.hid (show fitsTo (W.take (k + 1)) (F.take (k + 1)) = true from by rw [fitsTo_take HE.out HN.out HFK.out, HFT.out, hfit]; rfl)
            have H2 := Lib.hid (lineS_take HE.out HN.out HFK.out)
            obtain ⟨S1, hS1⟩ : ∃ S1, S ++ X = S1 := ⟨_, rfl⟩
            have HS1 := Lib.hid (show LineTo W F k f f.length S1 from by unfold LineTo; rw [← hS1, cat_of, HS.out, HXD.out]; simp)
            obtain ⟨x, hx⟩ : ∃ x, f.length = x := ⟨_, rfl⟩
            have HX := Lib.hid hx
            rw [hx] at hXs hle hfl HS1
            have hsum : S.size + X.size ≤ 200000 := by omega
            clear hfit hx
            go_wp2
            go_quiet ((go_at_call 50; exact quiet_same (cf _)))
            rw [← hXs] at HS1
            have hxm : X.size ≤ m := by omega
            have HXS := Lib.hid (show X.size = f.length from by rw [hXs, HX.out])
            clear hXs
            go_wp2
            clear hS1
            have HK2 := Lib.hid (Keeps.trans HK.out (drewN_keeps wr nq))
            go_loop [5, 7] (fun o q => ∃ (j : Nat) (T : ByteArray), X.size ≤ j ∧ j ≤ m ∧ q = .int .i64 j ∧ o = .string T ∧ LineTo W F k f j T) (fun _ q => m - (intOf q).toNat)
            case atStart => exact ⟨X.size, S1, Nat.le_refl _, hxm, rfl, rfl, HS1.out⟩
            case round =>
              obtain ⟨j, T, hj1, hj2, rfl, rfl, hT⟩ := hrel
              have HT := Lib.hid hT
              clear hT
              by_cases hjm : j < m
              · have hjI : (j : Int) < (m : Int) := by omega
                have hTs : T.size + 1 ≤ 200000 := by
                  have h := HT.out
                  unfold LineTo at h
                  rw [fiSize_of, h]
                  simp only [List.length_append, List.length_replicate]
                  have := HX.out
                  omega
                obtain ⟨T1, hT1⟩ : ∃ T1, T ++ ⟨#[32]⟩ = T1 := ⟨_, rfl⟩
                have HT1 := Lib.hid (show LineTo W F k f (j + 1) T1 from by
                  unfold LineTo
                  have h := HT.out
                  unfold LineTo at h
                  rw [← hT1, cat_of, h, blank_more (by have := HXS.out; omega)]
                  simp)
                go_wp2
                clear hT1
                go_round
                case rel => exact ⟨j + 1, T1, by omega, by omega, by go_num, rfl, HT1.out⟩
                case measure => simp [intOf]; omega
              · obtain rfl : j = m := by omega
                have hz : ¬ ((j : Int) < (j : Int)) := by omega
                go_wp2
                go_roundw
                case rel =>
                  refine ⟨k + 1, T, by omega, by go_num, rfl, ?_, H1.out, HK2.out⟩
                  rw [H2.out]
                  exact HT.out
                case measure => simp [intOf]; omega
        · obtain rfl : k = F.length := by omega
          have hz : ¬ ((F.length : Int) < (F.length : Int)) := by omega
          have HP := Lib.hid (show S = ⟨(pr W F).toArray⟩ from by
            have h1 : W.take F.length = W := List.take_of_length_le (by rw [HE.out]; exact Nat.le_refl _)
            have h2 : F.take F.length = F := List.take_of_length_le (Nat.le_refl _)
            have h3 := HFT.out
            have h4 := HS.out
            rw [h1, h2] at h3 h4
            rw [pr_yes HOK.out HE.out h3, ← h4, mk_data])
          go_wp2
          go_ret
          exact ⟨ret_str HP.out, HK.out⟩
    · have t1 : ((W.length : Int) != (F.length : Int)) = true := by simp [bne]; omega
      have H := Lib.hid (show pr W F = [] from pr_no (by simp [hlen]))
      clear hlen
      go_enter Tryz.func19, Tryz.ntmps19
      go_wp2_with (go_at_call 49; refine ctg.mono ?_; rintro e w' ⟨rfl, rfl⟩)
      go_ret
      exact ⟨ret_str (by rw [H.out]), Keeps.refl _⟩
end Go.Proofs.YtomonhghioamfaaGreatDoor
