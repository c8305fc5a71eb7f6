
/- PartyNone: the walk. -/
import Derived.Test.YtkffpmeocfhcpaaDoorPaTwo
import Derived.Test.YtkffpmeocfhcpaaDoorRwRefV
set_option linter.unusedVariables false
namespace Go.Proofs.YtkffpmeocfhcpaaDoor
open Go.ChangeShapes Go.WideShapes Go.ChangeAt Go.RowKit Ky Rw Od
namespace Pa
open Pp
theorem pa_same_zero : sameB 0 0 0 0 [] [] = true := by decide
set_option maxHeartbeats 8000000 in
set_option maxRecDepth 100000 in
theorem partyNone_go (m : Pt.M) (kind : Int) (w : World) (hp : HasP w) (hs : m.s.size ≤ maxLen) (hk : I64 kind) :
    Calls Tryd.prog 4 #[pmV m, .int .i64 kind] w fun e w' => e = .returned (.bool true) ∧ Keeps w w' := by
  have HK := Lib.hid (ky_box w (pmBox m))
  have HX := Lib.hid (pm_cells w m)
  have AS := Lib.hid fun X (k : Keeps w X) => la_asked X (hp.keeps k)
  have C2 : Hid (∀ W, Calls Tryd.prog 17 #[stV 0 0 (.slice none 0 0), stV 0 0 (.slice none 0 0)] W fun e w' => e = .returned (.bool true) ∧ Keeps W w') := Lib.hid fun W => pa_same_zero ▸ rr_same 0 0 0 0 _ _ [] [] W (rows_nil W) (rows_nil W)
  have CA := Lib.hid fun W v (h : NoneAt W v) => pz_ask h m
  have CL := Lib.hid fun W v (h : NoneAt W v) => pz_left h m.s
  have CS := Lib.hid fun W v (h : NoneAt W v) => pz_stmt h
  obtain ⟨x0, x1, x2, x3, x4, x5, x6⟩ := (HX.out _ (Keeps.refl _)).1
  have HS := Lib.hid hs
  unfold maxLen at hs
  unfold ansV noSt at *
  unfold stV at C2
  unfold pmBox at *
  unfold pmV at *
  clear hp
  go_enter Tryd.func4, Tryd.ntmps4
  rcases Nat.lt_or_ge 50 m.s.size with hl | hl
  · go_wp2_with fail
    refine (AS.out _ HK.out).mono ?_
    rintro e w1 ⟨rfl, k1⟩
    have K1 := Lib.hid (HK.out.trans k1)
    clear k1
    go_wp2
    go_ret
    exact ⟨rfl, K1.out⟩
  · go_wp2
    go_loopw [5, 6] (fun v5 v6 wr => ∃ t : Nat, t ≤ 2 ∧ v6 = .int .i64 (t : Int) ∧ NoneAt wr v5 ∧ Keeps (w.alloc (.cells #[.int .i64 m.t, .int .i64 m.o, .int .i64 m.k, .string m.s, .int .i64 m.q, .int .i64 m.a, .int .i64 m.c] tPm)) wr) (fun _ v6 _ => 2 - (intOf v6).toNat)
    case atStart => exact ⟨0, by omega, rfl, Or.inl rfl, Keeps.refl _⟩
    case round =>
      obtain ⟨t, ht, rfl, hn, hk⟩ := hrel
      have HN := Lib.hid hn
      have HKR := Lib.hid hk
      clear x0 x1 x2 x3 x4 x5 x6
      obtain ⟨x0, x1, x2, x3, x4, x5, x6⟩ := (HX.out wr hk).1
      clear hn hk
      by_cases hlt : t < 2
      · have ht1 : (t : Int) < 2 := by omega
        go_wp2_with fail
        refine (CA.out _ _ HN.out).mono ?_
        rintro e w2 ⟨rfl, k2⟩
        have k3 := Keeps.trans HKR.out (Keeps.trans k2 (ky_box w2 (.cells #[.int .i64 0, .int .i64 0, .int .i64 0, .string ⟨#[]⟩, .int .i64 0, .int .i64 0, .int .i64 0] tPm)))
        have HN2 := Lib.hid (HN.out.keeps (Keeps.trans k2 (ky_box w2 (.cells #[.int .i64 0, .int .i64 0, .int .i64 0, .string ⟨#[]⟩, .int .i64 0, .int .i64 0, .int .i64 0] tPm))))
        have HK2 := Lib.hid k3
        clear k2 k3 x0 x1 x2 x3 x4 x5 x6
        go_wp2_with fail
        refine (pz_rows HN2.out).mono ?_
        rintro e w3 ⟨rfl, k3⟩
        have HN3 := Lib.hid (HN2.out.keeps k3)
        have HK3 := Lib.hid (HK2.out.trans k3)
        clear k3
        go_wp2_with fail
        refine (CS.out _ _ HN3.out).mono ?_
        rintro e w4 ⟨rfl, k4⟩
        have HN4 := Lib.hid (HN3.out.keeps k4)
        have HK4 := Lib.hid (HK3.out.trans k4)
        clear k4
        go_wp2_with fail
        refine (C2.out _).mono ?_
        rintro e w5 ⟨rfl, k5⟩
        have HN5 := Lib.hid (HN4.out.keeps k5)
        have HK5 := Lib.hid (HK4.out.trans k5)
        obtain ⟨x0, x1, x2, x3, x4, x5, x6⟩ := (HX.out w5 HK5.out).1
        clear k5
        go_wp2_with fail
        refine (CL.out _ _ HN5.out).mono ?_
        rintro e w6 ⟨rfl, rfl⟩
        go_wp2_with fail
        refine (pz_copy HN5.out).mono ?_
        rintro e w7 ⟨rfl, rfl⟩
        go_wp2
        exact ⟨⟨t + 1, by omega, by go_num, Or.inr ⟨_, rfl, by simp, by
          have e := heap_alloc_new w7 (.cells #[.int .i64 0, .int .i64 0, .int .i64 0, .map none, .map none, .map none, .int .i64 0] tPp)
          exact Joins.cell_of_block e 3⟩, HK5.out.trans (ky_box _ _)⟩, by simp [intOf]; omega⟩
      · obtain rfl : t = 2 := by omega
        by_cases hkd : 0 ≤ kind ∧ kind ≤ 2
        · have e1 : decide (kind < 0) = false := by simp; omega
          have e2 : decide (kind > 2) = false := by simp; omega
          go_wp2_with fail
          refine (pp_new kind 1 1 _ hkd).mono ?_
          rintro e w2 hn
          obtain ⟨b, br, bs, bh, rfl, _, k0⟩ := own_new hn hkd.1 hkd.2
          have K2 := Lib.hid (Keeps.trans HK.out (Keeps.trans HKR.out k0))
          clear hn k0
          go_wp2_with fail
          refine (AS.out _ K2.out).mono ?_
          rintro e w3 ⟨rfl, k3⟩
          have K3 := Lib.hid (K2.out.trans k3)
          clear k3
          go_wp2
          go_ret
          exact ⟨rfl, K3.out⟩
        · rcases (show kind < 0 ∨ (0 ≤ kind ∧ 2 < kind) from by omega) with e1 | ⟨e1, e2⟩
          · go_wp2_with fail
            refine (pp_new_no kind 1 1 _ hkd).mono ?_
            rintro e w2 ⟨rfl, rfl⟩
            have K2 := Lib.hid (Keeps.trans HK.out HKR.out)
            go_wp2_with fail
            refine (AS.out _ K2.out).mono ?_
            rintro e w3 ⟨rfl, k3⟩
            have K3 := Lib.hid (K2.out.trans k3)
            clear k3
            go_wp2
            go_ret
            exact ⟨rfl, K3.out⟩
          · go_wp2_with fail
            refine (pp_new_no kind 1 1 _ hkd).mono ?_
            rintro e w2 ⟨rfl, rfl⟩
            have K2 := Lib.hid (Keeps.trans HK.out HKR.out)
            go_wp2_with fail
            refine (AS.out _ K2.out).mono ?_
            rintro e w3 ⟨rfl, k3⟩
            have K3 := Lib.hid (K2.out.trans k3)
            clear k3
            go_wp2
            go_ret
            exact ⟨rfl, K3.out⟩
end Pa
end Go.Proofs.YtkffpmeocfhcpaaDoor
