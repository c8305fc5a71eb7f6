
/- The document's keys: Check, Party, Undoes, Word, Deed, Less. -/
import Derived.Test.YtbemkcnikoiecaaMoneyRefC
import Derived.Test.YtbemkcnikoiecaaKyMath
import Derived.WalkKit
import Derived.LoopN
set_option linter.unusedVariables false
namespace Go.Proofs.Ytbemkcnikoiecaa
open Go.ChangeShapes Go.WideShapes Go.ChangeAt Go.RowKit Mon Ky

abbrev tKy : TypeId := 28
def kyV (o d : Int) : Value := .agg #[.int .i64 o, .int .i64 d]
def wordS (d : Int) : ByteArray := ⟨(wordB d).toArray⟩
theorem ky_box (w : World) (o : Obj) : Keeps w (w.alloc o) := (Below.refl _ w).alloc (Nat.le_refl _) _
theorem kr_check (o d : Int) (w : World) : Calls Try.prog 41 #[kyV o d] w fun e w' => e = .returned (.bool (checkK o d)) ∧ Keeps w w' := by
  unfold kyV
  have no : ¬ Chk o d → checkK o d = false := fun h => by
    cases hc : checkK o d with
    | false => rfl
    | true => exact absurd (check_iff.1 hc) h
  by_cases h1 : 0 < o
  rotate_left
  · have H := Lib.hid (no fun h => h1 h.o0)
    clear no
    go_enter Try.func41, Try.ntmps41
    go_wp2
    go_ret
    exact ⟨by rw [H.out]; rfl, ky_box _ _⟩
  by_cases h2 : o < 61
  rotate_left
  · have H := Lib.hid (no fun h => h2 h.o1)
    clear no
    go_enter Try.func41, Try.ntmps41
    go_wp2
    go_ret
    exact ⟨by rw [H.out]; rfl, ky_box _ _⟩
  by_cases h3 : 0 ≤ d
  rotate_left
  · have H := Lib.hid (no fun h => h3 h.d0)
    clear no
    go_enter Try.func41, Try.ntmps41
    go_wp2
    go_ret
    exact ⟨by rw [H.out]; rfl, ky_box _ _⟩
  by_cases h4 : d < 6
  rotate_left
  · have H := Lib.hid (no fun h => h4 h.d1)
    clear no
    go_enter Try.func41, Try.ntmps41
    go_wp2
    go_ret
    exact ⟨by rw [H.out]; rfl, ky_box _ _⟩
  have H := Lib.hid (check_iff.2 (⟨h1, h2, h3, h4⟩ : Chk o d))
  clear no
  go_enter Try.func41, Try.ntmps41
  go_wp2
  go_ret
  exact ⟨by rw [H.out]; rfl, ky_box _ _⟩
/-- A number is one of the deeds', or below, or above. -/
theorem ky_parts (d : Int) : d < 0 ∨ 5 < d ∨ d = 0 ∨ d = 1 ∨ d = 2 ∨ d = 3 ∨ d = 4 ∨ d = 5 := by omega
def wordsV : Value := .agg #[.string ⟨#[114, 101, 115, 101, 114, 118, 101]⟩, .string ⟨#[99, 104, 97, 114, 103, 101]⟩, .string ⟨#[115, 104, 105, 112]⟩, .string ⟨#[114, 101, 108, 101, 97, 115, 101]⟩, .string ⟨#[114, 101, 102, 117, 110, 100]⟩, .string ⟨#[118, 111, 105, 100]⟩]
/-- No deed below has the word. -/
def NoWord (s : ByteArray) (n : Int) : Prop := ∀ d, 0 ≤ d → d < n → wordB d ≠ s.data.toList
theorem NoWord.next {s : ByteArray} {n : Int} (h : NoWord s n) (hn : wordS n ≠ s) : NoWord s (n + 1) := fun d h0 h1 e => by
  by_cases hd : d = n
  · subst hd
    exact hn (bytes_inj (by unfold wordS; rw [← e]))
  · exact h d h0 (by omega) e
theorem bytes_eq {a b : ByteArray} (h : a ≠ b) : (a.toList == b.toList) = false := by
  rw [ByteArray.toList_eq, ByteArray.toList_eq, beq_eq_false_iff_ne]
  exact fun e => h (bytes_inj e)
theorem kr_less (o d o' d' : Int) (w : World) : Calls Try.prog 42 #[kyV o d, kyV o' d'] w fun e w' => e = .returned (.bool (lessK o d o' d')) ∧ Keeps w w' := by
  unfold kyV
  have K := Lib.hid (Keeps.trans (ky_box w (.cells #[.int .i64 o, .int .i64 d] tKy)) (ky_box _ (.cells #[.int .i64 o', .int .i64 d'] tKy)))
  by_cases h : o = o'
  · subst h
    have E : Hid (lessK o d o d' = decide (d < d')) := Lib.hid (by unfold lessK; simp)
    go_enter Try.func42, Try.ntmps42
    go_wp2
    go_ret
    exact ⟨by rw [E.out]; rfl, K.out⟩
  · have E : Hid (lessK o d o' d' = decide (o < o')) := Lib.hid (by unfold lessK; simp [h])
    have t : (o != o') = true := by simpa using h
    clear h
    go_enter Try.func42, Try.ntmps42
    go_wp2
    go_ret
    exact ⟨by rw [E.out]; rfl, K.out⟩
end Go.Proofs.Ytbemkcnikoiecaa
