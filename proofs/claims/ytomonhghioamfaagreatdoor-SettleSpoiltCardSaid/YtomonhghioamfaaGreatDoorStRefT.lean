
/- The document's files of the payment: trailer. -/
import Derived.Test.YtomonhghioamfaaGreatDoorStRefD
import Derived.Test.YtomonhghioamfaaGreatDoorStMath2
import Derived.Test.YtomonhghioamfaaGreatDoorKyRefG
set_option linter.unusedVariables false
namespace Go.Proofs.YtomonhghioamfaaGreatDoor
open Go.ChangeShapes Go.WideShapes Go.ChangeAt Go.RowKit Ky Rw Csv Stl

theorem tot_take {A : List R} {k : Nat} {x : R} (hx : A[k]? = some x) : totA (A.take (k + 1)) = totA (A.take k) + x.a := by
  rw [List.take_add_one, hx]
  exact tot_snoc _ _
theorem tot_part {A : List R} (h : ∀ x ∈ A, Row1 0 x) (hl : A.length ≤ 400) (k : Nat) : 0 ≤ totA (A.take k) ∧ totA (A.take k) ≤ 439804651110400 := by
  obtain ⟨h1, h2⟩ := tot_le (L := A.take k) fun x hx => h x (List.mem_of_mem_take hx)
  have := List.length_take_le' k A
  omega
set_option maxHeartbeats 8000000 in
set_option maxRecDepth 100000 in
theorem sr_trailer (v u : Value) (F : List (List UInt8)) (A : List R) (w : World) (hF : StrsAt w v F) (hl : F.length = 3) (hs : Short F) (hA : RowsIn w u A) (ha : ∀ x ∈ A, Row1 0 x) (hal : A.length ≤ 400) :
    Calls Tryz.prog 29 #[v, u] w fun e w' => e = .returned (.tuple #[.int .i64 ((trailC F A).1 : Int), .int .i64 (trailC F A).2]) ∧ Keeps w w' := by
  have HR := Lib.hid hA
  have HA := Lib.hid ha
  have HAL := Lib.hid hal
  obtain ⟨a, c, rfl, q0, q1, q2⟩ := strs_three hF hl
  obtain ⟨S1, e1, C1⟩ := sr_num (fa F 1) 6 (hs 1)
  obtain ⟨S2, e2, C2⟩ := sr_num (fa F 2) 16 (hs 2)
  obtain ⟨n1, hn1⟩ : ∃ n, numI (fa F 1) 6 = n := ⟨_, rfl⟩
  obtain ⟨n2, hn2⟩ : ∃ n, numI (fa F 2) 16 = n := ⟨_, rfl⟩
  have C1 := Lib.hid (hn1 ▸ C1)
  have C2 := Lib.hid (hn2 ▸ C2)
  have E1 := Lib.hid hn1
  have E2 := Lib.hid hn2
  unfold sv at q1 q2
  rw [e1] at q1
  rw [e2] at q2
  have CQ : Hid (∀ W, Keeps w W → W.cell? ⟨a.block, a.off + 1, none⟩ = some (.string S1) ∧ W.cell? ⟨a.block, a.off + 2, none⟩ = some (.string S2)) := Lib.hid fun W k => ⟨cell_keeps k q1, cell_keeps k q2⟩
  obtain ⟨pp, cp, rfl, hmx, _, _⟩ := hA
  obtain ⟨N, hN⟩ : ∃ N, A.length = N := ⟨_, rfl⟩
  have HN := Lib.hid hN
  rw [hN] at hmx HR hal HAL ⊢
  clear hF hl hs e1 e2 hn1 hn2 q0 q1 q2 ha hN
  unfold maxLen at hmx
  go_enter Tryz.func29, Tryz.ntmps29
  go_wp2_with fail
  go_loopw [6, 7] (fun v6 v7 W => ∃ (k : Nat) (t : Int), k ≤ N ∧ v6 = .int .i64 t ∧ v7 = .int .i64 (k : Int) ∧ t = totA (A.take k) ∧ Keeps w W) (fun _ v7 _ => N - (intOf v7).toNat)
  case atStart => exact ⟨0, 0, by omega, rfl, rfl, rfl, Keeps.refl _⟩
  case round =>
    obtain ⟨k, t, hk, rfl, rfl, ht, hw⟩ := hrel
    have HW := Lib.hid hw
    have HT := Lib.hid ht
    obtain ⟨b1, b2⟩ := tot_part HA.out (by rw [HN.out]; exact HAL.out) k
    rw [← ht] at b1 b2
    clear hw ht
    by_cases hlt : k < N
    · have HK := Lib.hid hlt
      obtain ⟨x, hx⟩ : ∃ x, A[k]? = some x := ⟨_, List.getElem?_eq_getElem (by have := HN.out; omega)⟩
      obtain ⟨p1, c1, e1, _, _, hc1⟩ := HR.out.keeps HW.out
      rw [HN.out] at e1
      simp only [Value.slice.injEq] at e1
      obtain ⟨rfl, _, rfl⟩ := e1
      obtain ⟨ad, rfl, q0, q1, q2, q3, q4⟩ := hc1 k x hx
      have hr := HA.out x (List.mem_of_getElem? hx)
      have a0 := hr.a0
      have a1 := hr.a1
      have HS := Lib.hid (tot_take hx)
      have hi1 : (k : Int) < (N : Int) := by omega
      have hi0 : (0 : Int) ≤ (k : Int) := by omega
      have HT' : Hid (t + x.a = totA (A.take (k + 1))) := Lib.hid (by rw [HS.out, ← HT.out])
      clear hc1 hx hr
      go_wp2_with fail
      exact ⟨⟨k + 1, t + x.a, by have := HK.out; omega, rfl, by go_num, HT'.out, HW.out⟩, by have := HK.out; simp [intOf]; omega⟩
    · obtain rfl : k = N := by omega
      have TT : Hid (totA A = t) := Lib.hid (by rw [HT.out, List.take_of_length_le (by rw [HN.out]; exact Nat.le_refl _)])
      obtain ⟨q1, q2⟩ := CQ.out _ HW.out
      have CP : Hid (∀ W, Keeps w W → Calls Tryz.prog 27 #[.string S1, .int .i64 6] W fun e w' => e = .returned (.int .i64 n1) ∧ Keeps w w') := Lib.hid fun W k => (C1.out W).mono fun e w' h => ⟨h.1, k.trans h.2⟩
      have CP2 : Hid (∀ W, Keeps w W → Calls Tryz.prog 27 #[.string S2, .int .i64 16] W fun e w' => e = .returned (.int .i64 n2) ∧ Keeps w w') := Lib.hid fun W k => (C2.out W).mono fun e w' h => ⟨h.1, k.trans h.2⟩
      clear C1 C2
      go_wp2_with fail
      have HV := HW
      go_region_held3 (fun W => W.cell? ⟨a.block, a.off + 1, none⟩ = some (.string S1) ∧ W.cell? ⟨a.block, a.off + 2, none⟩ = some (.string S2))
        (first | exact CQ.out _ HV.out | exact CQ.out _ (HV.out.trans (ky_drew _)) | assumption) (first
        | (go_at_call 27; (with_reducible refine (CP.out _ (HV.out.trans (ky_drew _))).mono ?_); clear HV CP; rintro e wv ⟨rfl, hv⟩; have HV := Lib.hid hv; have zv := CQ.out _ hv; clear hv)
        | (go_at_call 27; (with_reducible refine (CP2.out _ HV.out).mono ?_); clear HV CP2; rintro e wv ⟨rfl, hv⟩; have HV := Lib.hid hv; have zv := CQ.out _ hv; clear hv))
      clear q1 q2
      by_cases c1 : n1 < 0
      · have E : Hid (trailC F A = (2, 3)) := Lib.hid (by unfold trailC; rw [E1.out, if_pos c1])
        go_wp2
        go_ret2
        exact ⟨ret2 (by rw [E.out]; rfl) (by rw [E.out]), HV.out⟩
      by_cases c2 : n1 = (k : Int)
      rotate_left
      · have E : Hid (trailC F A = (2, 4)) := Lib.hid (by unfold trailC; rw [E1.out, HN.out, if_neg c1, if_pos c2])
        have t1 : (n1 == (k : Int)) = false := by rw [beq_eq_false_iff_ne]; exact c2
        have t2 : (n1 != (k : Int)) = true := by rw [bne, t1]; rfl
        clear c2
        go_wp2
        go_ret2
        exact ⟨ret2 (by rw [E.out]; rfl) (by rw [E.out]), HV.out⟩
      subst c2
      by_cases c3 : n2 < 0
      · have E : Hid (trailC F A = (8, 3)) := Lib.hid (by unfold trailC; rw [E1.out, HN.out, E2.out, if_neg c1, if_neg (by simp), if_pos c3])
        go_wp2
        go_ret2
        exact ⟨ret2 (by rw [E.out]; rfl) (by rw [E.out]), HV.out⟩
      by_cases c4 : n2 = t
      · have E : Hid (trailC F A = (0, 0)) := Lib.hid (by unfold trailC; rw [E1.out, HN.out, E2.out, TT.out, if_neg c1, if_neg (by simp), if_neg c3, if_neg (by simpa using c4)])
        subst c4
        clear HT
        go_wp2
        go_ret2
        exact ⟨ret2 (by rw [E.out]; rfl) (by rw [E.out]), HV.out⟩
      · have E : Hid (trailC F A = (8, 5)) := Lib.hid (by unfold trailC; rw [E1.out, HN.out, E2.out, TT.out, if_neg c1, if_neg (by simp), if_neg c3, if_pos c4])
        have t1 : (n2 == t) = false := by rw [beq_eq_false_iff_ne]; exact c4
        have t2 : (n2 != t) = true := by rw [bne, t1]; rfl
        clear c4
        go_wp2
        go_ret2
        exact ⟨ret2 (by rw [E.out]; rfl) (by rw [E.out]), HV.out⟩
end Go.Proofs.YtomonhghioamfaaGreatDoor
