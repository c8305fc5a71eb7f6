
/- The contracts of the statements' own helpers: same, lined. -/
import Derived.Test.YthhpbnpenkndfaaDoorCsvSameC
import Derived.Test.YthhpbnpenkndfaaDoorFixedParseC
import Derived.Test.YthhpbnpenkndfaaDoorFixedPrintC
import Derived.Test.YthhpbnpenkndfaaDoorRowsLaid
set_option linter.unusedVariables false
namespace Go.Proofs.YthhpbnpenkndfaaDoor
open Go.ChangeShapes Go.WideShapes Go.ChangeAt Go.RowKit Csv Fix

def sameF (A B : List Bs) : Bool := decide (A = B)
theorem sameF_of (A B : List Bs) : sameB [A] [B] = sameF A B := by
  unfold sameB sameF
  rw [Bool.eq_iff_iff]
  simp
theorem sameF_self (A : List Bs) : sameF A A = true := by simp [sameF]

set_option maxHeartbeats 1000000 in
theorem fsame_any (va vb : Value) (A B : List Bs) (w : World) (hA : StrsAt w va A) (hB : StrsAt w vb B) :
    Calls Tryd.prog 12 #[va, vb] w fun e w' => e = .returned (.bool (sameF A B)) ∧ Keeps w w' := by
  have HA := Lib.hid hA
  have HB := Lib.hid hB
  obtain ⟨pA, cA, rfl, _⟩ := hA
  obtain ⟨pB, cB, rfl, _⟩ := hB
  go_enter Tryd.func12, Tryd.ntmps12
  go_wp2_with fail
  refine (same_any _ _ [A] [B] _ ((lay_one HA.out (Keeps.refl _) _ rfl).keeps (kept_alloc (Keeps.refl _) _)) (lay_one HB.out (kept_alloc (Keeps.refl _) _) _ (by simp))).mono ?_
  rw [sameF_of]
  rintro e w2 ⟨rfl, hk2⟩
  go_wp2
  go_ret
  exact ⟨rfl, Keeps.trans (kept_alloc (kept_alloc (Keeps.refl _) _) _) hk2⟩

/-- A line of widths 2 and 3. -/
theorem out_is {W : List Int} {l : Bs} {w w' : World} {e : Ending} {F : List Bs} {c : Nat} (h : FixOut W l w e w') (hp : pa W l = (F, c)) : ∃ v : Value, e = .returned (.tuple #[v, .int .i64 (c : Int)]) ∧ StrsAt w' v F ∧ Keeps w w' := by
  obtain ⟨hk, v, c', rfl, hc, hs⟩ := h
  rw [hp] at hc hs
  simp only at hc hs
  subst hc
  exact ⟨v, rfl, hs, hk⟩
/-- What is told: fields, a column. -/
def Told (F : List Bs) (c : Nat) (w : World) (e : Ending) (w' : World) : Prop := ∃ v : Value, e = .returned (.tuple #[v, .int .i64 (c : Int)]) ∧ StrsAt w' v F ∧ Keeps w w'
theorem fparse_is {vW : Value} {W : List Int} {s : ByteArray} {w : World} {F : List Bs} {c : Nat} (hW : IntsAt w vW W) (hs : s.size ≤ maxLen) (hp : pa W s.data.toList = (F, c)) :
    Calls Tryd.prog 10 #[vW, .string s] w (Told F c w) := (fparse_any vW W s w hW hs).mono fun _ _ h => out_is h hp
theorem fprint_is {vW vF : Value} {W : List Int} {F : List Bs} {w : World} {x : ByteArray} (hW : IntsAt w vW W) (hF : StrsAt w vF F) (hf : ∀ f ∈ F, f.length ≤ 1100) (hp : pr W F = x.data.toList) :
    Calls Tryd.prog 8 #[vW, vF] w fun e w' => e = .returned (.string x) ∧ Keeps w w' := by
  have h := print_any vW vF W F w hW hF hf
  rw [hp, mk_data] at h
  exact h

set_option maxRecDepth 100000 in
set_option maxHeartbeats 4000000 in
theorem lined_yes (w : World) :
    Calls Tryd.prog 7 #[] w fun e w' => e = .returned (.bool true) ∧ Keeps w w' := by
  have hW0 := Lib.hid (lay_ints (w' := w) (cs := #[.int .i64 2, .int .i64 3]) (r := [2, 3]) 3 rfl rfl rfl (by simp [maxLen]))
  have hK0 : Hid (Keeps w (w.alloc (.cells #[.int .i64 2, .int .i64 3] 3))) := Lib.hid (kept_alloc (Keeps.refl _) _)
  go_enter Tryd.func7, Tryd.ntmps7
  go_wp2_with fail
  refine (fparse_is (F := [[97], [98, 99, 100]]) (c := 0) hW0.out (by simp [maxLen, ByteArray.size]) (by decide +kernel)).mono ?_
  rintro e w1 ⟨v1, rfl, hs1, hk1⟩
  have HS1 := Lib.hid hs1
  have HK1 := Lib.hid (Keeps.trans hK0.out hk1)
  have HW1 := Lib.hid (hW0.out.keeps hk1)
  obtain ⟨p1, c1, rfl, _⟩ := hs1
  clear hk1
  go_wp2_with fail
  refine (fparse_is (F := []) (c := 4) HW1.out (by simp [maxLen, ByteArray.size]) (by decide +kernel)).mono ?_
  rintro e w2 ⟨v2, rfl, hs2, hk2⟩
  have HS2 := Lib.hid hs2
  have HK2 := Lib.hid (Keeps.trans HK1.out hk2)
  have HW2 := Lib.hid (HW1.out.keeps hk2)
  have HA2 := Lib.hid (HS1.out.keeps hk2)
  obtain ⟨p2, c2, rfl, _⟩ := hs2
  clear hk2
  go_wp2_with fail
  refine (fparse_is (F := []) (c := 1) HW2.out (by simp [maxLen, ByteArray.size]) (by decide +kernel)).mono ?_
  rintro e w3 ⟨v3, rfl, hs3, hk3⟩
  have HS3 := Lib.hid hs3
  have HK3 := Lib.hid (Keeps.trans HK2.out hk3)
  have HW3 := Lib.hid (HW2.out.keeps hk3)
  have HA3 := Lib.hid (HA2.out.keeps hk3)
  obtain ⟨p3, c3, rfl, _⟩ := hs3
  clear hk3
  go_wp2_with fail
  refine (fprint_is (x := ⟨#[97, 32, 98, 99, 100]⟩) (HW3.out.keeps (kept_alloc (Keeps.refl _) _)) (lay_row (r := [[97], [98, 99, 100]]) _ rfl rfl rfl (by simp [maxLen])) (by decide) (by decide +kernel)).mono ?_
  rintro e w4 ⟨rfl, hk4⟩
  have HK4 := Lib.hid (Keeps.trans (kept_alloc HK3.out _) hk4)
  have HW4 := Lib.hid ((HW3.out.keeps (kept_alloc (Keeps.refl _) _)).keeps hk4)
  have HA4 := Lib.hid ((HA3.out.keeps (kept_alloc (Keeps.refl _) _)).keeps hk4)
  clear hk4
  go_wp2_with fail
  refine (fprint_is (x := ⟨#[]⟩) (HW4.out.keeps (kept_alloc (Keeps.refl _) _)) (lay_row (r := [[97, 98, 99], [98]]) _ rfl rfl rfl (by simp [maxLen])) (by decide) (by decide +kernel)).mono ?_
  rintro e w5 ⟨rfl, hk5⟩
  have HK5 := Lib.hid (Keeps.trans (kept_alloc HK4.out _) hk5)
  have HW5 := Lib.hid ((HW4.out.keeps (kept_alloc (Keeps.refl _) _)).keeps hk5)
  have HA5 := Lib.hid ((HA4.out.keeps (kept_alloc (Keeps.refl _) _)).keeps hk5)
  clear hk5
  go_wp2_with fail
  refine (fprint_is (x := ⟨#[]⟩) (HW5.out.keeps (kept_alloc (Keeps.refl _) _)) (lay_row (r := [[97]]) _ rfl rfl rfl (by simp [maxLen])) (by decide) (by decide +kernel)).mono ?_
  rintro e w6 ⟨rfl, hk6⟩
  have HK6 := Lib.hid (Keeps.trans (kept_alloc HK5.out _) hk6)
  have HA6 := Lib.hid ((HA5.out.keeps (kept_alloc (Keeps.refl _) _)).keeps hk6)
  clear hk6
  go_wp2_with fail
  refine (fsame_any _ _ [[97], [98, 99, 100]] [[97], [98, 99, 100]] _ (HA6.out.keeps (kept_alloc (Keeps.refl _) _)) (lay_row _ rfl rfl rfl (by simp [maxLen]))).mono ?_
  rw [sameF_self]
  rintro e w7 ⟨rfl, hk7⟩
  have HK7 := Lib.hid (Keeps.trans (kept_alloc HK6.out _) hk7)
  clear hk7
  go_wp2
  go_ret
  exact ⟨rfl, HK7.out⟩
end Go.Proofs.YthhpbnpenkndfaaDoor
