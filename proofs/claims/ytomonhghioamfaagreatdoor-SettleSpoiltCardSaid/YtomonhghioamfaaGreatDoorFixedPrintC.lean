
/- The contract of fixed.Print. -/
import Derived.Test.YtomonhghioamfaaGreatDoorFixedC
import Derived.Test.YtomonhghioamfaaGreatDoorText
set_option linter.unusedVariables false
namespace Go.Proofs.YtomonhghioamfaaGreatDoor
open Go.ChangeShapes Go.WideShapes Go.ChangeAt Go.RowKit Go.Shelf Go.Proofs Csv Fix

theorem lineS_part {W : List Int} {F : List Bs} (k : Nat) (h1 : okW W = true) (h2 : W.length = F.length) (h3 : fitsTo (W.take k) (F.take k) = true) : (lineS (W.take k) (F.take k)).length ≤ 100000 := by
  rw [lineS_len _ _ (len_takes h2 k) h3]
  have := sumW_part W k
  have := okW_sum h1
  omega
theorem blanks_of {f : Bs} {n : Int} {m : Nat} (h : m = n.toNat - f.length) : f ++ List.replicate m 32 = padded f n := by rw [h]; rfl
theorem fitB_le {f : Bs} {n : Int} (h : fitB f n = true) : (f.length : Int) ≤ n := by
  simp only [fitB, Bool.and_eq_true, decide_eq_true_eq] at h
  exact h.1.1

set_option maxHeartbeats 4000000 in
theorem print_any (vW vF : Value) (W : List Int) (F : List Bs) (w : World) (hW : IntsAt w vW W) (hF : StrsAt w vF F) (hf : ∀ f ∈ F, f.length ≤ 1100) :
    Calls Tryz.prog 78 #[vW, vF] w fun e w' => e = .returned (.string ⟨(pr W F).toArray⟩) ∧ Keeps w w' := by
  have ctg := together_any vW W w hW
  obtain ⟨pW, cW, rfl, lW, hW⟩ := hW
  obtain ⟨pF, cF, rfl, lF, hF⟩ := hF
  have HW := Lib.hid hW
  have HF := Lib.hid hF
  have HL := Lib.hid hf
  clear hW hF hf
  unfold maxLen at lW lF
  cases hok : okW W with
  | false =>
    rw [hok] at ctg
    have H := Lib.hid (show pr W F = [] from pr_no (by simp [hok]))
    clear hok
    go_enter Tryz.func78, Tryz.ntmps78
    go_wp2_with (go_at_call 87; refine ctg.mono ?_; rintro e w' ⟨rfl, rfl⟩)
    go_ret
    exact ⟨ret_str (by rw [H.out]), Keeps.refl _⟩
  | true =>
    rw [hok] at ctg
    have HOK := Lib.hid hok
    clear hok
    by_cases hlen : W.length = F.length
    · have t1 : ((F.length : Int) != (W.length : Int)) = false := by simp [bne, hlen]
      have HE := Lib.hid hlen
      clear hlen
      go_enter Tryz.func78, Tryz.ntmps78
      go_wp2_with (go_at_call 87; refine ctg.mono ?_; rintro e w' ⟨rfl, rfl⟩)
      clear t1
      go_loopw [26] (fun i wx => ∃ k : Nat, k ≤ W.length ∧ i = .int .i64 k ∧ fitsTo (W.take k) (F.take k) = true ∧ Text w w.heap.size (lineS (W.take k) (F.take k)) wx) (fun i _ => W.length - (intOf i).toNat)
      case atStart => exact ⟨0, by omega, rfl, rfl, text_new w⟩
      case round =>
        obtain ⟨k, hk, rfl, hft, htx⟩ := hrel
        have HT := Lib.hid htx
        have HFT := Lib.hid hft
        clear htx hft
        by_cases hlt : k < W.length
        · have hltF : k < F.length := by rw [← HE.out]; exact hlt
          obtain ⟨n, hn⟩ : ∃ n, W[k]? = some n := ⟨_, List.getElem?_eq_getElem hlt⟩
          obtain ⟨f, hfk⟩ : ∃ f, F[k]? = some f := ⟨_, List.getElem?_eq_getElem hltF⟩
          obtain ⟨a, rfl, hca⟩ := HW.out k n hn
          obtain ⟨b, rfl, hcb⟩ := HF.out k f hfk
          have hca2 := cell_keeps HT.out.keeps hca
          have hcb2 := cell_keeps HT.out.keeps hcb
          have hwn := okW_at HOK.out hn
          have hfl : f.length ≤ 1100 := HL.out f (List.mem_of_getElem? hfk)
          have hi1 : (k : Int) < (W.length : Int) := by omega
          have hi2 : (k : Int) < (F.length : Int) := by omega
          have HN := Lib.hid hn
          have HFK := Lib.hid hfk
          have hpart := lineS_part k HOK.out HE.out HFT.out
          have cf : ∀ W', Calls Tryz.prog 110 #[.string ⟨f.toArray⟩, .int .i64 n] W' fun e w' => e = .returned (.bool (fitB f n)) ∧ W' = w' := fun W' => by
            have h := fits_any ⟨f.toArray⟩ n W' (by rw [size_mk]; unfold maxLen; omega)
            rw [data_mk] at h; exact h
          have HC := Lib.hid hcb
          clear hca hcb hn hfk
          cases hfit : fitB f n with
          | false =>
            rw [hfit] at cf
            have H := Lib.hid (show pr W F = [] from pr_no (by rw [fitsTo_no HN.out HFK.out hfit]; simp))
            clear hfit
            go_wp2_with (go_at_call 110; refine (cf _).mono ?_; rintro e w' ⟨rfl, rfl⟩)
            go_ret
            exact ⟨ret_str (by rw [H.out]), HT.out.keeps⟩
          | true =>
            rw [hfit] at cf
            have hle := fitB_le hfit
            obtain ⟨m, hm⟩ : ∃ m : Nat, n = (m : Int) := ⟨n.toNat, by omega⟩
            subst hm
            have H1 := Lib.hid (show fitsTo (W.take (k + 1)) (F.take (k + 1)) = true from by rw [fitsTo_take HE.out HN.out HFK.out, HFT.out, hfit]; rfl)
            have H2 := Lib.hid (lineS_take HE.out HN.out HFK.out)
            obtain ⟨d, hd⟩ : ∃ d, m - f.length = d := ⟨_, rfl⟩
            have hdI : (m : Int) - (f.length : Int) = (d : Int) := by omega
            have HD := Lib.hid hd
            obtain ⟨X, hX⟩ : ∃ X : ByteArray, (⟨f.toArray⟩ : ByteArray) = X := ⟨_, rfl⟩
            have hXs : X.size = f.length := by rw [← hX, size_mk]
            clear hfit hd
            have ct := text_string w wr w.heap.size (lineS (W.take k) (F.take k)) f HT.out (by omega) (by omega)
            go_wp2_with (go_at_call 110; refine (cf _).mono ?_; rintro e w' ⟨rfl, rfl⟩)
            refine ct.mono ?_
            rintro e w1 ⟨⟨n1, rfl⟩, ht1⟩
            have hcb1 : w1.cell? (b.add k) = some (.string X) := by rw [cell_keeps ht1.keeps HC.out, ← hX]
            have hdX : (m : Int) - (X.size : Int) = (d : Int) := by omega
            have HT1 := Lib.hid ht1
            have hdl : d ≤ 1000 := by omega
            clear hca2 hcb2 ct cf hX hXs hdI ht1
            have cr := sh_blanks d w1 (by omega)
            go_wp2_with fail
            refine cr.mono ?_
            rintro e w2 ⟨rfl, hk2⟩
            have ct := text_string w w2 w.heap.size (lineS (W.take k) (F.take k) ++ f) (List.replicate d 32) (HT1.out.on hk2) (by rw [List.length_append]; omega) (by rw [List.length_replicate]; omega)
            clear hk2 cr hcb1 hdX
            go_wp2_with fail
            refine ct.mono ?_
            rintro e w3 ⟨⟨n2, rfl⟩, ht3⟩
            have HT3 := Lib.hid ht3
            clear ht3 ct
            go_wp2
            go_roundw
            case rel =>
              refine ⟨k + 1, by omega, by go_num, H1.out, ?_⟩
              have h := HT3.out
              rw [List.append_assoc, blanks_of (n := (m : Int)) (by have := HD.out; omega), ← H2.out] at h
              exact h
            case measure => simp [intOf]; omega
        · obtain rfl : k = W.length := by omega
          have hz : ¬ ((W.length : Int) < (W.length : Int)) := by omega
          have HP := Lib.hid (show lineS (W.take W.length) (F.take W.length) = pr W F from by
            have h1 : W.take W.length = W := List.take_of_length_le (Nat.le_refl _)
            have h2 : F.take W.length = F := List.take_of_length_le (by rw [HE.out]; exact Nat.le_refl _)
            have h3 := HFT.out
            rw [h1, h2] at h3 ⊢
            exact (pr_yes HOK.out HE.out h3).symm)
          have ht := HT.out
          rw [HP.out] at ht
          have cd := text_done w wr w.heap.size (pr W F) ht
          clear ht
          go_wp2_with fail
          refine cd.mono ?_
          rintro e w1 ⟨rfl, hk1⟩
          go_wp2
          go_ret
          exact ⟨rfl, hk1⟩
    · have t1 : ((F.length : Int) != (W.length : Int)) = true := by simp [bne]; omega
      have H := Lib.hid (show pr W F = [] from pr_no (by simp [hlen]))
      clear hlen
      go_enter Tryz.func78, Tryz.ntmps78
      go_wp2_with (go_at_call 87; refine ctg.mono ?_; rintro e w' ⟨rfl, rfl⟩)
      go_ret
      exact ⟨ret_str (by rw [H.out]), Keeps.refl _⟩
end Go.Proofs.YtomonhghioamfaaGreatDoor
