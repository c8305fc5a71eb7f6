/- The program's keys: the map of words, Word, Deed. -/
import Derived.Test.YtkjjadacpbbnhaaDoorKyC1
import Derived.Test.YtkjjadacpbbnhaaDoorMapIs
import Derived.Maps.RangeWalk
set_option linter.unusedVariables false
namespace Go.Proofs.YtkjjadacpbbnhaaDoor
open Go.ChangeShapes Go.WideShapes Go.ChangeAt Go.RowKit Mon Ky
open Go.Maps (Keyed)

abbrev tWm : TypeId := 40
/-- What the map of words says. -/
def Wds (D : DataW Value) : Prop := ∀ s : List UInt8, Maps.has D (.string s) = deedB s ∧ (deedB s = true → ∀ z, D.atKey (.string s) z = .held (.int .i64 (deedV s)))
def wdsD : DataW Value := ((((((DataW.map []).put (.string [114, 101, 115, 101, 114, 118, 101]) (.held (.int .i64 0))).put (.string [99, 104, 97, 114, 103, 101]) (.held (.int .i64 1))).put (.string [115, 104, 105, 112]) (.held (.int .i64 2))).put (.string [114, 101, 108, 101, 97, 115, 101]) (.held (.int .i64 3))).put (.string [114, 101, 102, 117, 110, 100]) (.held (.int .i64 4))).put (.string [118, 111, 105, 100]) (.held (.int .i64 5))
theorem put_look {D : DataW Value} (a s : List UInt8) {d : DataW Value} (hD : Maps.IsMap D) : Maps.has (D.put (.string a) d) (.string s) = (decide (s = a) || Maps.has D (.string s)) ∧ ∀ z, (D.put (.string a) d).atKey (.string s) z = if s = a then d else D.atKey (.string s) z := by
  by_cases h : s = a
  · subst h
    exact ⟨by rw [Maps.has_put_same hD (by exact trivial)]; simp, fun z => by rw [Maps.atKey_put_same hD (by exact trivial), if_pos rfl]⟩
  · have hk : Lit.string s ≠ Lit.string a := fun e => h (by cases e; rfl)
    exact ⟨by rw [Maps.has_put_other hk]; simp [h], fun z => by rw [Maps.atKey_put_other hk, if_neg h]⟩
theorem wds_is : Wds wdsD := by
  intro s
  have m0 : Maps.IsMap (DataW.map [] : DataW Value) := Maps.isMap_empty
  have h1 := fun s => put_look [114, 101, 115, 101, 114, 118, 101] s (d := .held (.int .i64 0)) m0
  have m1 := m0.put (.string [114, 101, 115, 101, 114, 118, 101]) (.held (.int .i64 0))
  have h2 := fun s => put_look [99, 104, 97, 114, 103, 101] s (d := .held (.int .i64 1)) m1
  have m2 := m1.put (.string [99, 104, 97, 114, 103, 101]) (.held (.int .i64 1))
  have h3 := fun s => put_look [115, 104, 105, 112] s (d := .held (.int .i64 2)) m2
  have m3 := m2.put (.string [115, 104, 105, 112]) (.held (.int .i64 2))
  have h4 := fun s => put_look [114, 101, 108, 101, 97, 115, 101] s (d := .held (.int .i64 3)) m3
  have m4 := m3.put (.string [114, 101, 108, 101, 97, 115, 101]) (.held (.int .i64 3))
  have h5 := fun s => put_look [114, 101, 102, 117, 110, 100] s (d := .held (.int .i64 4)) m4
  have m5 := m4.put (.string [114, 101, 102, 117, 110, 100]) (.held (.int .i64 4))
  have h6 := fun s => put_look [118, 111, 105, 100] s (d := .held (.int .i64 5)) m5
  constructor
  · unfold wdsD
    rw [(h6 s).1, (h5 s).1, (h4 s).1, (h3 s).1, (h2 s).1, (h1 s).1]
    have hn : Maps.has (DataW.map [] : DataW Value) (.string s) = false := rfl
    rw [hn]
    unfold deedB words
    rw [Bool.eq_iff_iff]
    simp only [List.any_cons, List.any_nil, Bool.or_false, Bool.or_eq_true, beq_iff_eq, decide_eq_true_eq]
    constructor
    · rintro (h | h | h | h | h | h) <;> subst h <;> simp
    · rintro (h | h | h | h | h | h) <;> subst h <;> simp
  · intro hb z
    obtain ⟨g1, g2, g3⟩ := deed_of hb
    unfold wdsD
    rw [(h6 s).2, (h5 s).2, (h4 s).2, (h3 s).2, (h2 s).2, (h1 s).2]
    unfold deedB words at hb
    simp only [List.any_cons, List.any_nil, Bool.or_false, Bool.or_eq_true, beq_iff_eq] at hb
    rcases hb with rfl | rfl | rfl | rfl | rfl | rfl <;> simp <;> rfl
theorem put_wd {w : World} {b n : Nat} {D : DataW Value} (s : ByteArray) (i : Int) (h : w.ownsMap Tryd.prog 9 asIs b n D) (hn : n < maxLen) (hs : s.size ≤ maxLen) :
    ∃ w', (Instr.mapUpdate tWm (.map (some b)) (.string s) (.int .i64 i)).run Tryd.prog w = .ok () w' ∧ w'.ownsMap Tryd.prog 9 asIs b (n + 1) (D.put (.string s.data.toList) (.held (.int .i64 i))) ∧ w.grownBy w' (some b) :=
  h.update lawS Tryd.underlying40 hn (keyS hs) (show asIs (.int .i64 i) = some (.held (.int .i64 i), []) from rfl)
/-- What a call leaves that has made the map of words. -/
def WordsOut (w : World) (e : Ending) (w' : World) : Prop := ∃ D, e = .returned (.map (some w.heap.size)) ∧ w'.ownsMap Tryd.prog 9 asIs w.heap.size 6 D ∧ Wds D ∧ Keeps w w'
set_option maxHeartbeats 2000000 in
theorem pk_words (w : World) : Calls Tryd.prog 25 #[] w (WordsOut w) := by
  have hmm := @run_makeMap Tryd.prog
  have o0 := World.ownsMap_made w Tryd.prog 9 asIs
  have k0 := Lib.hid (ky_box w (.map #[] 0))
  obtain ⟨w1, E1, o1, g1⟩ := put_wd ⟨#[114, 101, 115, 101, 114, 118, 101]⟩ 0 o0 (by decide) (by decide)
  obtain ⟨w2, E2, o2, g2⟩ := put_wd ⟨#[99, 104, 97, 114, 103, 101]⟩ 1 o1 (by decide) (by decide)
  obtain ⟨w3, E3, o3, g3⟩ := put_wd ⟨#[115, 104, 105, 112]⟩ 2 o2 (by decide) (by decide)
  obtain ⟨w4, E4, o4, g4⟩ := put_wd ⟨#[114, 101, 108, 101, 97, 115, 101]⟩ 3 o3 (by decide) (by decide)
  obtain ⟨w5, E5, o5, g5⟩ := put_wd ⟨#[114, 101, 102, 117, 110, 100]⟩ 4 o4 (by decide) (by decide)
  obtain ⟨w6, E6, o6, g6⟩ := put_wd ⟨#[118, 111, 105, 100]⟩ 5 o5 (by decide) (by decide)
  have z0 : w.heap.size ≤ (w.alloc (.map #[] 0)).heap.size := by simp
  have rr : ∀ k, some w.heap.size = some k → w.heap.size ≤ k := fun k e => by cases e; exact Nat.le_refl _
  have K : Hid (Keeps w w6) := Lib.hid (((((((k0.out.grown g1 z0 rr).grown g2 (Nat.le_trans z0 g1.size) rr).grown g3 (Nat.le_trans z0 (Nat.le_trans g1.size g2.size)) rr).grown g4 (Nat.le_trans z0 (Nat.le_trans g1.size (Nat.le_trans g2.size g3.size))) rr).grown g5 (Nat.le_trans z0 (Nat.le_trans g1.size (Nat.le_trans g2.size (Nat.le_trans g3.size g4.size)))) rr).grown g6 (Nat.le_trans z0 (Nat.le_trans g1.size (Nat.le_trans g2.size (Nat.le_trans g3.size (Nat.le_trans g4.size g5.size))))) rr))
  have O := Lib.hid o6
  clear o0 o1 o2 o3 o4 o5 o6 g1 g2 g3 g4 g5 g6 z0 rr
  go_enter Tryd.func25, Tryd.ntmps25
  go_wp2
  go_ret
  exact ⟨wdsD, rfl, O.out, wds_is, K.out⟩
end Go.Proofs.YtkjjadacpbbnhaaDoor
