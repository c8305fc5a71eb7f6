
/- The document's books: may, sum. -/
import Derived.Test.YtffipjhpoaalhaaOpenPosts
import Derived.Test.YtffipjhpoaalhaaMoneySumsC
import Derived.Test.YtffipjhpoaalhaaRowsLaid
import Derived.Laws.Closers25
set_option linter.unusedVariables false
namespace Go.Proofs.Ytffipjhpoaalhaa
open Go.ChangeShapes Go.WideShapes Go.ChangeAt Go.RowKit Csv Bk

theorem empty_is (s : ByteArray) : s.toList.isEmpty = decide (s.data.toList = []) := by
  rw [← decide_eq_emptyBytes]
  exact decide_eq_decide.2 ⟨fun h => by rw [h]; rfl, fun h => bytes_inj (by rw [h]; rfl)⟩
theorem keeps_box (w : World) (o : Obj) : Keeps w (w.alloc o) := (Below.refl _ w).alloc (Nat.le_refl _) _
set_option maxHeartbeats 4000000 in
theorem rbmay_any (p : PI) (w : World) : Calls Try.prog 25 #[p.val] w fun e w' => e = .returned (.bool (mayM p.pm)) ∧ Keeps w w' := by
  obtain ⟨s, o, d, c, m⟩ := p
  unfold PI.val PI.pm
  dsimp only
  by_cases h1 : s.data.toList = []
  · have E1 : s.toList.isEmpty = true := by rw [empty_is]; exact decide_eq_true h1
    have H := Lib.hid (show mayM ⟨s.data.toList, o, d, c, m⟩ = false by unfold mayM; simp [h1])
    clear h1
    go_enter Try.func25, Try.ntmps25
    go_wp2
    go_ret
    exact ⟨by rw [H.out]; rfl, keeps_box _ _⟩
  have E1 : s.toList.isEmpty = false := by rw [empty_is]; exact decide_eq_false h1
  have HS := Lib.hid h1
  clear h1
  by_cases h2 : 0 < o
  rotate_left
  · have H := Lib.hid (show mayM ⟨s.data.toList, o, d, c, m⟩ = false by
      cases hm : mayM ⟨s.data.toList, o, d, c, m⟩ with
      | false => rfl
      | true =>
        obtain ⟨_, g2, g3, g4, g5, g6, g7, g8⟩ := may_iff.1 hm
        simp only at g2 g3 g4 g5 g6 g7 g8
        omega)
    go_enter Try.func25, Try.ntmps25
    go_wp2
    go_ret
    exact ⟨by rw [H.out]; rfl, keeps_box _ _⟩
  by_cases h3 : 0 ≤ d
  rotate_left
  · have H := Lib.hid (show mayM ⟨s.data.toList, o, d, c, m⟩ = false by
      cases hm : mayM ⟨s.data.toList, o, d, c, m⟩ with
      | false => rfl
      | true =>
        obtain ⟨_, g2, g3, g4, g5, g6, g7, g8⟩ := may_iff.1 hm
        simp only at g2 g3 g4 g5 g6 g7 g8
        omega)
    go_enter Try.func25, Try.ntmps25
    go_wp2
    go_ret
    exact ⟨by rw [H.out]; rfl, keeps_box _ _⟩
  by_cases h4 : d ≤ 4
  rotate_left
  · have H := Lib.hid (show mayM ⟨s.data.toList, o, d, c, m⟩ = false by
      cases hm : mayM ⟨s.data.toList, o, d, c, m⟩ with
      | false => rfl
      | true =>
        obtain ⟨_, g2, g3, g4, g5, g6, g7, g8⟩ := may_iff.1 hm
        simp only at g2 g3 g4 g5 g6 g7 g8
        omega)
    go_enter Try.func25, Try.ntmps25
    go_wp2
    go_ret
    exact ⟨by rw [H.out]; rfl, keeps_box _ _⟩
  by_cases h5 : 0 ≤ c
  rotate_left
  · have H := Lib.hid (show mayM ⟨s.data.toList, o, d, c, m⟩ = false by
      cases hm : mayM ⟨s.data.toList, o, d, c, m⟩ with
      | false => rfl
      | true =>
        obtain ⟨_, g2, g3, g4, g5, g6, g7, g8⟩ := may_iff.1 hm
        simp only at g2 g3 g4 g5 g6 g7 g8
        omega)
    go_enter Try.func25, Try.ntmps25
    go_wp2
    go_ret
    exact ⟨by rw [H.out]; rfl, keeps_box _ _⟩
  by_cases h6 : c ≤ 4
  rotate_left
  · have H := Lib.hid (show mayM ⟨s.data.toList, o, d, c, m⟩ = false by
      cases hm : mayM ⟨s.data.toList, o, d, c, m⟩ with
      | false => rfl
      | true =>
        obtain ⟨_, g2, g3, g4, g5, g6, g7, g8⟩ := may_iff.1 hm
        simp only at g2 g3 g4 g5 g6 g7 g8
        omega)
    go_enter Try.func25, Try.ntmps25
    go_wp2
    go_ret
    exact ⟨by rw [H.out]; rfl, keeps_box _ _⟩
  by_cases h7 : d ≠ c
  rotate_left
  · have H := Lib.hid (show mayM ⟨s.data.toList, o, d, c, m⟩ = false by
      cases hm : mayM ⟨s.data.toList, o, d, c, m⟩ with
      | false => rfl
      | true =>
        obtain ⟨_, g2, g3, g4, g5, g6, g7, g8⟩ := may_iff.1 hm
        simp only at g2 g3 g4 g5 g6 g7 g8
        omega)
    have e7 : (d != c) = false := by simpa using h7
    have e8 : d = c := by omega
    clear h7 e7
    subst e8
    go_enter Try.func25, Try.ntmps25
    go_wp2
    go_ret
    exact ⟨by rw [H.out]; rfl, keeps_box _ _⟩
  have e7 : (d != c) = true := by simpa using h7
  by_cases h8 : 0 ≤ m
  rotate_left
  · have H := Lib.hid (show mayM ⟨s.data.toList, o, d, c, m⟩ = false by
      cases hm : mayM ⟨s.data.toList, o, d, c, m⟩ with
      | false => rfl
      | true =>
        obtain ⟨_, g2, g3, g4, g5, g6, g7, g8⟩ := may_iff.1 hm
        simp only at g2 g3 g4 g5 g6 g7 g8
        omega)
    go_enter Try.func25, Try.ntmps25
    go_wp2
    go_ret
    exact ⟨by rw [H.out]; rfl, keeps_box _ _⟩
  have H := Lib.hid (show mayM ⟨s.data.toList, o, d, c, m⟩ = true from may_iff.2 ⟨HS.out, h2, h3, h4, h5, h6, h7, h8⟩)
  clear h7
  go_enter Try.func25, Try.ntmps25
  go_wp2
  go_ret
  exact ⟨by rw [H.out]; rfl, keeps_box _ _⟩
end Go.Proofs.Ytffipjhpoaalhaa
