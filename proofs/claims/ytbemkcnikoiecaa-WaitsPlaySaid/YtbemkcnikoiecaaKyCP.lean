
/- The program's keys: Check, isDeed, Party, Undoes, Less. Maps whose elements are read as they lie, whatever their type; keys that are texts. The program's keys: the map of words, Word, Deed. The program's keys: Word, Deed. -/
import Derived.Test.YtbemkcnikoiecaaKyRefG
import Derived.Test.YtbemkcnikoiecaaKyMath
import Derived.WalkKit
import Derived.Test.YtbemkcnikoiecaaArith
import Derived.Maps.OwnSet
import Derived.Maps.Ext
import Derived.Lib.SlMapMerge
import Derived.DeepKeys4
import Derived.Maps.RangeWalk
set_option linter.unusedVariables false
namespace Go.Proofs.Ytbemkcnikoiecaa
open Go.ChangeShapes Go.WideShapes Go.ChangeAt Go.RowKit Mon Ky

theorem pk_isDeed (d : Int) (w : World) : Calls Try.prog 40 #[.int .i64 d] w fun e w' => e = .returned (.bool (decide (0 ≤ d) && decide (d < 6))) ∧ w = w' := by
  by_cases h1 : 0 ≤ d
  · by_cases h2 : d < 6
    · have E : Hid ((decide (0 ≤ d) && decide (d < 6)) = true) := Lib.hid (by simp; omega)
      go_enter Try.func40, Try.ntmps40
      go_wp2
      go_ret
      exact ⟨by rw [E.out]; rfl, rfl⟩
    · have E : Hid ((decide (0 ≤ d) && decide (d < 6)) = false) := Lib.hid (by simp; omega)
      go_enter Try.func40, Try.ntmps40
      go_wp2
      go_ret
      have E2 : decide (d < 6) = false := by simp; omega
      exact ⟨by rw [E2]; rfl, rfl⟩
  · have E : Hid ((decide (0 ≤ d) && decide (d < 6)) = false) := Lib.hid (by simp; omega)
    go_enter Try.func40, Try.ntmps40
    go_wp2
    go_ret
    exact ⟨by rw [E.out]; rfl, rfl⟩
theorem pk_isDeed_is (d : Int) (b : Bool) (w : World) (h : (decide (0 ≤ d) && decide (d < 6)) = b) : Calls Try.prog 40 #[.int .i64 d] w fun e w' => e = .returned (.bool b) ∧ w = w' := h ▸ pk_isDeed d w
theorem pk_check (o d : Int) (w : World) : Calls Try.prog 26 #[kyV o d] w fun e w' => e = .returned (.bool (checkK o d)) ∧ Keeps w w' := by
  have HB := Lib.hid (ky_box w (.cells #[.int .i64 o, .int .i64 d] tKy))
  unfold kyV
  have no : ¬ Chk o d → checkK o d = false := fun h => by
    cases hc : checkK o d with
    | false => rfl
    | true => exact absurd (check_iff.1 hc) h
  by_cases h1 : 1 ≤ o
  rotate_left
  · have H := Lib.hid (no fun h => by have := h.o0; omega)
    clear no
    go_enter Try.func26, Try.ntmps26
    go_wp2
    go_ret
    exact ⟨by rw [H.out]; rfl, HB.out⟩
  by_cases h2 : o ≤ 60
  rotate_left
  · have H := Lib.hid (no fun h => by have := h.o1; omega)
    clear no
    go_enter Try.func26, Try.ntmps26
    go_wp2
    go_ret
    exact ⟨by rw [H.out]; rfl, HB.out⟩
  by_cases h3 : 0 ≤ d ∧ d < 6
  · have H := Lib.hid (check_iff.2 (⟨by omega, by omega, h3.1, h3.2⟩ : Chk o d))
    have D := Lib.hid fun w => pk_isDeed_is d true w (by simp; omega)
    clear no h3
    go_enter Try.func26, Try.ntmps26
    go_wp2_with fail
    refine (D.out _).mono ?_
    rintro e w2 ⟨rfl, rfl⟩
    go_wp2
    go_ret
    exact ⟨by rw [H.out]; rfl, HB.out⟩
  · have H := Lib.hid (no fun h => h3 ⟨h.d0, h.d1⟩)
    have D := Lib.hid fun w => pk_isDeed_is d false w (by simp; omega)
    clear no h3
    go_enter Try.func26, Try.ntmps26
    go_wp2_with fail
    refine (D.out _).mono ?_
    rintro e w2 ⟨rfl, rfl⟩
    go_wp2
    go_ret
    exact ⟨by rw [H.out]; rfl, HB.out⟩
theorem pk_less (o d o' d' : Int) (w : World) : Calls Try.prog 39 #[kyV o d, kyV o' d'] w fun e w' => e = .returned (.bool (lessK o d o' d')) ∧ Keeps w w' := by
  have HB := Lib.hid ((ky_box w (.cells #[.int .i64 o, .int .i64 d] tKy)).trans (ky_box _ (.cells #[.int .i64 o', .int .i64 d'] tKy)))
  unfold kyV
  by_cases h : o = o'
  · subst h
    have E : Hid (lessK o d o d' = decide (d < d')) := Lib.hid (by unfold lessK; simp)
    have e1 : (o != o) = false := by simp
    go_enter Try.func39, Try.ntmps39
    go_wp2
    go_ret
    exact ⟨by rw [E.out]; rfl, HB.out⟩
  · have E : Hid (lessK o d o' d' = decide (o < o')) := Lib.hid (by unfold lessK; simp [h])
    have e1 : (o != o') = true := by simpa using h
    clear h
    go_enter Try.func39, Try.ntmps39
    go_wp2
    go_ret
    exact ⟨by rw [E.out]; rfl, HB.out⟩
end Go.Proofs.Ytbemkcnikoiecaa
namespace Go.Proofs.Ytbemkcnikoiecaa
open Go.ChangeShapes Go.WideShapes Go.ChangeAt Go.RowKit
open Go.Maps (Keyed)

/-- An element, as it lies. -/
def asIs (v : Value) : Option (DataW Value × List MemPlace) := some (.held v, [])
theorem asIs_inv {v : Value} {d : DataW Value} {ps : List MemPlace} (h : asIs v = some (d, ps)) : d = .held v := by
  unfold asIs at h
  cases h; rfl
theorem lawS : Keyed Try.prog 9 := Maps.string_keyed Try.underlying9
theorem keyS {s : ByteArray} (hs : s.size ≤ maxLen) : keyOf Try.prog 9 (.string s) = some (.string s.data.toList) := WideMaps.keyOf_string_mk Try.underlying9 hs
theorem kS_key (s : List UInt8) : WideAt.IsKeyLit (.string s) := trivial
theorem keyS_inv {key : Value} {kl : Lit} (h : keyOf Try.prog 9 key = some kl) : ∃ s : ByteArray, key = .string s ∧ kl = .string s.data.toList ∧ s.size ≤ maxLen := WideMaps.string_of_keyOf Try.underlying9 h
end Go.Proofs.Ytbemkcnikoiecaa
namespace Go.Proofs.Ytbemkcnikoiecaa
open Go.ChangeShapes Go.WideShapes Go.ChangeAt Go.RowKit Mon Ky
open Go.Maps (Keyed)

/-- What the map of words says. -/
def Wds (D : DataW Value) : Prop := ∀ s : List UInt8, Maps.has D (.string s) = deedB s ∧ (deedB s = true → ∀ z, D.atKey (.string s) z = .held (.int .i64 (deedV s)))
def wdsD : DataW Value := ((((((DataW.map []).put (.string [114, 101, 115, 101, 114, 118, 101]) (.held (.int .i64 0))).put (.string [99, 104, 97, 114, 103, 101]) (.held (.int .i64 1))).put (.string [115, 104, 105, 112]) (.held (.int .i64 2))).put (.string [114, 101, 108, 101, 97, 115, 101]) (.held (.int .i64 3))).put (.string [114, 101, 102, 117, 110, 100]) (.held (.int .i64 4))).put (.string [118, 111, 105, 100]) (.held (.int .i64 5))
theorem put_look {D : DataW Value} (a s : List UInt8) {d : DataW Value} (hD : Maps.IsMap D) : Maps.has (D.put (.string a) d) (.string s) = (decide (s = a) || Maps.has D (.string s)) ∧ ∀ z, (D.put (.string a) d).atKey (.string s) z = if s = a then d else D.atKey (.string s) z := by
  by_cases h : s = a
  · subst h
    exact ⟨by rw [Maps.has_put_same hD (by exact trivial)]; simp, fun z => by rw [Maps.atKey_put_same hD (by exact trivial), if_pos rfl]⟩
  · have hk : Lit.string s ≠ Lit.string a := fun e => h (by cases e; rfl)
    exact ⟨by rw [Maps.has_put_other hk]; simp [h], fun z => by rw [Maps.atKey_put_other hk, if_neg h]⟩
theorem wds_is : Wds wdsD := by
  intro s
  have m0 : Maps.IsMap (DataW.map [] : DataW Value) := Maps.isMap_empty
  have h1 := fun s => put_look [114, 101, 115, 101, 114, 118, 101] s (d := .held (.int .i64 0)) m0
  have m1 := m0.put (.string [114, 101, 115, 101, 114, 118, 101]) (.held (.int .i64 0))
  have h2 := fun s => put_look [99, 104, 97, 114, 103, 101] s (d := .held (.int .i64 1)) m1
  have m2 := m1.put (.string [99, 104, 97, 114, 103, 101]) (.held (.int .i64 1))
  have h3 := fun s => put_look [115, 104, 105, 112] s (d := .held (.int .i64 2)) m2
  have m3 := m2.put (.string [115, 104, 105, 112]) (.held (.int .i64 2))
  have h4 := fun s => put_look [114, 101, 108, 101, 97, 115, 101] s (d := .held (.int .i64 3)) m3
  have m4 := m3.put (.string [114, 101, 108, 101, 97, 115, 101]) (.held (.int .i64 3))
  have h5 := fun s => put_look [114, 101, 102, 117, 110, 100] s (d := .held (.int .i64 4)) m4
  have m5 := m4.put (.string [114, 101, 102, 117, 110, 100]) (.held (.int .i64 4))
  have h6 := fun s => put_look [118, 111, 105, 100] s (d := .held (.int .i64 5)) m5
  constructor
  · unfold wdsD
    rw [(h6 s).1, (h5 s).1, (h4 s).1, (h3 s).1, (h2 s).1, (h1 s).1]
    have hn : Maps.has (DataW.map [] : DataW Value) (.string s) = false := rfl
    rw [hn]
    unfold deedB words
    rw [Bool.eq_iff_iff]
    simp only [List.any_cons, List.any_nil, Bool.or_false, Bool.or_eq_true, beq_iff_eq, decide_eq_true_eq]
    constructor
    · rintro (h | h | h | h | h | h) <;> subst h <;> simp
    · rintro (h | h | h | h | h | h) <;> subst h <;> simp
  · intro hb z
    obtain ⟨g1, g2, g3⟩ := deed_of hb
    unfold wdsD
    rw [(h6 s).2, (h5 s).2, (h4 s).2, (h3 s).2, (h2 s).2, (h1 s).2]
    unfold deedB words at hb
    simp only [List.any_cons, List.any_nil, Bool.or_false, Bool.or_eq_true, beq_iff_eq] at hb
    rcases hb with rfl | rfl | rfl | rfl | rfl | rfl <;> simp <;> rfl
/-- What a call leaves that has made the map of words. -/
def WordsOut (w : World) (e : Ending) (w' : World) : Prop := ∃ D, e = .returned (.map (some w.heap.size)) ∧ w'.ownsMap Try.prog 9 asIs w.heap.size 6 D ∧ Wds D ∧ Keeps w w'
end Go.Proofs.Ytbemkcnikoiecaa
namespace Go.Proofs.Ytbemkcnikoiecaa
open Go.ChangeShapes Go.WideShapes Go.ChangeAt Go.RowKit Mon Ky
open Go.Maps (Keyed)

theorem zero_int (w : World) : (zeroValue 3).run Try.prog w = .ok (.int .i64 0) w := by kernel_rfl
/-- No word that has come has the deed. -/
def NoneYet (d : Int) (left : Lit → Bool) : Prop := ∀ s : List UInt8, deedB s = true → deedV s = d → left (.string s) = true
theorem NoneYet.next {d : Int} {left : Lit → Bool} {x : List UInt8} (h : NoneYet d left) (hx : deedV x ≠ d) : NoneYet d fun z => left z && !z.sameKey (.string x) := fun s hs hv => by
  have : Lit.string s ≠ Lit.string x := fun e => by cases e; exact hx hv
  simp [h s hs hv, Maps.sameKey_ne this]
theorem NoneYet.done {d : Int} {left : Lit → Bool} (h : NoneYet d left) (hl : ∀ kl, left kl = false) : wordS d = ⟨#[]⟩ := by
  unfold wordS
  rw [word_none]
  rintro ⟨h0, h1⟩
  obtain ⟨g1, g2⟩ := deed_word h0 h1
  have := h _ g1 g2
  rw [hl] at this
  cases this
end Go.Proofs.Ytbemkcnikoiecaa
