
/- The document's files of the payment: header, trailer. -/
import Derived.Test.YtomonhghioamfaaGreatDoorStLinesC
set_option linter.unusedVariables false
namespace Go.Proofs.YtomonhghioamfaaGreatDoor
open Go.ChangeShapes Go.WideShapes Go.ChangeAt Go.RowKit Ky Rw Csv Stl

theorem add_pos (a : Addr) {k : Nat} (h : 0 < k) : a.add k = ⟨a.block, a.off + k, none⟩ := by
  unfold Addr.add
  rw [if_neg (by omega)]
theorem strs_three {w : World} {v : Value} {F : List (List UInt8)} (h : StrsAt w v F) (hl : F.length = 3) : ∃ a c, v = .slice (some a) 3 c ∧ w.cell? a = some (sv (fa F 0)) ∧ w.cell? ⟨a.block, a.off + 1, none⟩ = some (sv (fa F 1)) ∧ w.cell? ⟨a.block, a.off + 2, none⟩ = some (sv (fa F 2)) := by
  obtain ⟨p, c, rfl, _, hc⟩ := h
  rw [hl]
  have e : ∀ j, j < 3 → F[j]? = some (fa F j) := fun j hj => by
    unfold fa
    rw [List.getElem?_eq_getElem (by omega)]
    rfl
  obtain ⟨a, rfl, h0⟩ := hc 0 _ (e 0 (by omega))
  obtain ⟨a1, q1, h1⟩ := hc 1 _ (e 1 (by omega))
  obtain ⟨a2, q2, h2⟩ := hc 2 _ (e 2 (by omega))
  cases q1
  cases q2
  exact ⟨a, c, rfl, by simpa [Addr.add] using h0, add_pos a (k := 1) (by omega) ▸ h1, add_pos a (k := 2) (by omega) ▸ h2⟩
theorem strs_five {w : World} {v : Value} {F : List (List UInt8)} (h : StrsAt w v F) (hl : F.length = 5) : ∃ a c, v = .slice (some a) 5 c ∧ w.cell? a = some (sv (fa F 0)) ∧ w.cell? ⟨a.block, a.off + 1, none⟩ = some (sv (fa F 1)) ∧ w.cell? ⟨a.block, a.off + 2, none⟩ = some (sv (fa F 2)) ∧ w.cell? ⟨a.block, a.off + 3, none⟩ = some (sv (fa F 3)) ∧ w.cell? ⟨a.block, a.off + 4, none⟩ = some (sv (fa F 4)) := by
  obtain ⟨p, c, rfl, _, hc⟩ := h
  rw [hl]
  have e : ∀ j, j < 5 → F[j]? = some (fa F j) := fun j hj => by
    unfold fa
    rw [List.getElem?_eq_getElem (by omega)]
    rfl
  obtain ⟨a, rfl, h0⟩ := hc 0 _ (e 0 (by omega))
  obtain ⟨a1, q1, h1⟩ := hc 1 _ (e 1 (by omega))
  obtain ⟨a2, q2, h2⟩ := hc 2 _ (e 2 (by omega))
  obtain ⟨a3, q3, h3⟩ := hc 3 _ (e 3 (by omega))
  obtain ⟨a4, q4, h4⟩ := hc 4 _ (e 4 (by omega))
  cases q1
  cases q2
  cases q3
  cases q4
  exact ⟨a, c, rfl, by simpa [Addr.add] using h0, add_pos a (k := 1) (by omega) ▸ h1, add_pos a (k := 2) (by omega) ▸ h2, add_pos a (k := 3) (by omega) ▸ h3, add_pos a (k := 4) (by omega) ▸ h4⟩
/-- Fields that are short enough to be asked. -/
def Short (F : List (List UInt8)) : Prop := ∀ i, (fa F i).length ≤ 1000
theorem ret2 {a b c d : Int} (h : a = b) (g : c = d) : Ending.returned (.tuple #[.int .i64 a, .int .i64 c]) = .returned (.tuple #[.int .i64 b, .int .i64 d]) := by rw [h, g]
theorem sr_num (f : List UInt8) (W : Int) (h : f.length ≤ 1000) : ∃ S : ByteArray, ⟨f.toArray⟩ = S ∧ ∀ w, Calls Tryz.prog 27 #[.string S, .int .i64 W] w fun e w' => e = .returned (.int .i64 (numI f W)) ∧ Keeps w w' := by
  refine ⟨_, rfl, fun w => ?_⟩
  have := sr_number ⟨f.toArray⟩ W w (by rw [size_mk]; unfold maxLen; omega)
  rw [data_mk] at this
  exact this
set_option maxHeartbeats 4000000 in
set_option maxRecDepth 100000 in
theorem sr_header (v : Value) (F : List (List UInt8)) (w : World) (hF : StrsAt w v F) (hl : F.length = 3) (hs : Short F) :
    Calls Tryz.prog 26 #[v] w fun e w' => e = .returned (.tuple #[.int .i64 ((headC F).1 : Int), .int .i64 (headC F).2]) ∧ Keeps w w' := by
  have HF := Lib.hid hF
  obtain ⟨a, c, rfl, q0, q1, q2⟩ := strs_three hF hl
  obtain ⟨S2, e2, C⟩ := sr_num (fa F 2) 10 (hs 2)
  obtain ⟨n, hn⟩ : ∃ n, numI (fa F 2) 10 = n := ⟨_, rfl⟩
  have C2 := Lib.hid (hn ▸ C)
  have E2 := Lib.hid hn
  obtain ⟨S1, h1⟩ : ∃ S : ByteArray, ⟨(fa F 1).toArray⟩ = S := ⟨_, rfl⟩
  unfold sv at q1 q2
  rw [e2] at q2
  rw [h1] at q1
  have H1 : Hid (S1.data.toList = fa F 1) := Lib.hid (by rw [← h1, data_mk])
  have C1 : Hid (∀ W, Keeps w W → W.cell? ⟨a.block, a.off + 1, none⟩ = some (.string S1)) := Lib.hid fun W k => cell_keeps k q1
  clear hF hl hs C e2 hn h1 q0
  go_enter Tryz.func26, Tryz.ntmps26
  go_wp2_with fail
  refine (C2.out _).mono ?_
  rintro e w1 ⟨rfl, k1⟩
  have K1 := Lib.hid k1
  clear q1 q2 C2
  have q1 := C1.out _ k1
  clear k1
  by_cases hx : S1 = ⟨#[80, 65, 89, 77, 69, 78, 84]⟩
  · have X : Hid (fa F 1 = sPay) := Lib.hid (by rw [← H1.out, hx]; rfl)
    subst hx
    by_cases hn : 1 ≤ n ∧ n ≤ 1073741824
    · have E : Hid (headC F = (0, 0)) := Lib.hid (by unfold headC; rw [if_neg (by simp [X.out]), E2.out, if_neg (by omega)])
      obtain ⟨n0, n1⟩ := hn
      go_wp2
      all_goals
        go_ret2
        exact ⟨ret2 (by rw [E.out]; rfl) (by rw [E.out]), K1.out⟩
    · have E : Hid (headC F = (10, 3)) := Lib.hid (by unfold headC; rw [if_neg (by simp [X.out]), E2.out, if_pos (by omega)])
      rcases (show n < 1 ∨ (1 ≤ n ∧ 1073741824 < n) from by omega) with h1 | ⟨h1, h2⟩
      all_goals
        clear hn
        go_wp2
        go_ret2
        exact ⟨ret2 (by rw [E.out]; rfl) (by rw [E.out]), K1.out⟩
  · have E : Hid (headC F = (2, 7)) := Lib.hid (by
      unfold headC
      rw [if_pos (fun e => hx (bytes_inj (by rw [H1.out, e]; rfl)))])
    have t4 : ¬ (S1.toList = [80, 65, 89, 77, 69, 78, 84]) := fun e => hx (bytes_inj (by rw [← ByteArray.toList_eq, e]))
    have t2 : (S1.toList == [80, 65, 89, 77, 69, 78, 84]) = false := beq_eq_false_iff_ne.2 t4
    have t3 : (S1.toList != [80, 65, 89, 77, 69, 78, 84]) = true := by rw [bne, t2]; rfl
    clear hx
    go_wp2
    go_ret2
    exact ⟨ret2 (by rw [E.out]; rfl) (by rw [E.out]), K1.out⟩
end Go.Proofs.YtomonhghioamfaaGreatDoor
