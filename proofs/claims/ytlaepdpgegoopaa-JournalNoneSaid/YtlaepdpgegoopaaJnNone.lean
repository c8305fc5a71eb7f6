
/- The walk of JournalNone. -/
import Derived.Test.YtlaepdpgegoopaaJnNoneC
import Derived.Test.YtlaepdpgegoopaaJnKept
set_option linter.unusedVariables false
namespace Go.Proofs.Ytlaepdpgegoopaa
open Go.ChangeShapes Go.WideShapes Go.ChangeAt Go.RowKit Go.Maps Csv Dk Jn

set_option maxRecDepth 100000 in
set_option maxHeartbeats 4000000 in
theorem journalNone_go (s : ByteArray) (w : World) (hs : s.size ≤ maxLen) :
    Calls Try.prog 3 #[.string s] w fun e w' => e = .returned (.bool true) ∧ Keeps w w' := by
  unfold maxLen at hs
  by_cases h3 : 3000 < s.size
  · have t1 : decide ((3000 : Int) < (s.size : Int)) = true := decide_eq_true (by omega)
    go_enter Try.func3, Try.ntmps3
    go_wp2_with fail
    refine (kept_any _).mono ?_
    rintro e w1 ⟨rfl, k1⟩
    go_wp2
    go_ret
    exact ⟨rfl, k1⟩
  have t1 : decide ((3000 : Int) < (s.size : Int)) = false := decide_eq_false (by omega)
  go_enter Try.func3, Try.ntmps3
  go_wp2
  go_loopw [3, 4] (fun vj vi wr => ∃ (t : Nat) (p : Option Addr), t ≤ 2 ∧ vi = .int .i64 (t : Int) ∧ vj = .pointer p ∧ NoJn wr p ∧ Keeps w wr) (fun _ vi _ => 2 - (intOf vi).toNat)
  case atStart => exact ⟨0, none, by omega, rfl, rfl, Or.inl rfl, Keeps.refl _⟩
  case round =>
    obtain ⟨t, p, ht, rfl, rfl, hno, hk⟩ := hrel
    have HN := Lib.hid hno
    have HK := Lib.hid hk
    clear hno hk
    by_cases hlt : t < 2
    · have hi : (t : Int) < 2 := by omega
      go_wp2_with fail
      refine (japp_none p s wr HN.out).mono ?_
      rintro e w1 ⟨rfl, k1⟩
      have N1 := Lib.hid (HN.out.keeps k1)
      have K1 := Lib.hid (HK.out.trans k1)
      clear k1 HN HK
      go_wp2_with fail
      refine (jcom_none p s w1 N1.out).mono ?_
      rintro e w2 ⟨rfl, k2⟩
      have N2 := Lib.hid (N1.out.keeps k2)
      have K2 := Lib.hid (K1.out.trans k2)
      clear k2 N1 K1
      go_wp2_with fail
      refine (jsize_none p w2 N2.out).mono ?_
      rintro e w3 ⟨rfl, k3⟩
      have N3 := Lib.hid (N2.out.keeps k3)
      have K3 := Lib.hid (K2.out.trans k3)
      clear k3 N2 K2
      go_wp2_with fail
      refine (jents_none p w3 N3.out).mono ?_
      rintro e w4 ⟨rfl, k4⟩
      have K4 := Lib.hid (K3.out.trans k4)
      clear k4 N3 K3
      go_wp2
      go_roundw
      case rel => exact ⟨t + 1, _, by omega, by go_num, rfl, Or.inr ⟨_, rfl, heap_alloc_new _ _⟩, K4.out.trans (keeps_lit _ _)⟩
      case measure => simp [intOf]; omega
    · have hz : ¬ ((t : Int) < 2) := by omega
      go_wp2_with fail
      refine (new_own 100 w wr HK.out (by omega)).mono ?_
      rintro e w1 ⟨d, rfl, h1⟩
      have H1 := Lib.hid h1
      clear h1 HN HK
      unfold ptrV
      go_wp2_with fail
      refine (jopen_none none w1 (Or.inl rfl)).mono ?_
      rintro e w2 ⟨rfl, k2⟩
      have H2 := Lib.hid (H1.out.keeps k2)
      clear k2 H1
      go_wp2_with fail
      refine (jopen_none (some ⟨w2.heap.size, 0, none⟩) _ (Or.inr ⟨_, rfl, Joins.cell_of_block (heap_alloc_new w2 _) 1⟩)).mono ?_
      rintro e w3 ⟨rfl, k3⟩
      have H3 := Lib.hid ((H2.out.keeps (keeps_lit _ _)).keeps k3)
      clear k3 H2
      go_wp2_with fail
      refine (crash_nil H3.out (r := 0) (D' := (newD 100).down []) (by rfl)).mono ?_
      rintro e w4 ⟨rfl, h4⟩
      have H4 := Lib.hid h4
      clear h4 H3
      have C5 : Hid (Calls Try.prog 12 #[.pointer (some ⟨d, 0, none⟩)] w4 fun e w' => e = .returned (.tuple #[.pointer none, .string ⟨#[]⟩, .slice none 0 0, .int .i64 61]) ∧ Keeps w w') := Lib.hid (by
        obtain ⟨G, g1, g2, _⟩ := H4.out
        exact (jopen_down d _ G w4 g1 rfl).mono fun e w' ⟨h1, h2⟩ => ⟨h1, g2.trans h2⟩)
      clear H4
      go_wp2_with fail
      refine C5.out.mono ?_
      rintro e w5 ⟨rfl, k5⟩
      have K5 := Lib.hid k5
      clear k5 C5
      go_wp2_with fail
      refine (kept_any _).mono ?_
      rintro e w6 ⟨rfl, k6⟩
      go_wp2
      go_ret
      exact ⟨rfl, K5.out.trans k6⟩
end Go.Proofs.Ytlaepdpgegoopaa
