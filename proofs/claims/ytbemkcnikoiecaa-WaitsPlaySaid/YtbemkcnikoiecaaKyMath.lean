
/- The plain mathematics of keys (layer 10). -/
import Derived.Test.YtbemkcnikoiecaaMoneyMath
set_option linter.unusedVariables false
namespace Go.Proofs.Ytbemkcnikoiecaa
open Mon
namespace Ky

abbrev Bs := List UInt8
def checkK (o d : Int) : Bool := decide (0 < o) && decide (o < 61) && decide (0 ≤ d) && decide (d < 6)
structure Chk (o d : Int) : Prop where
  o0 : 0 < o
  o1 : o < 61
  d0 : 0 ≤ d
  d1 : d < 6
theorem check_iff {o d : Int} : checkK o d = true ↔ Chk o d := by
  unfold checkK
  simp only [Bool.and_eq_true, decide_eq_true_eq]
  exact ⟨fun ⟨⟨⟨h1, h2⟩, h3⟩, h4⟩ => ⟨h1, h2, h3, h4⟩, fun ⟨h1, h2, h3, h4⟩ => ⟨⟨⟨h1, h2⟩, h3⟩, h4⟩⟩
/-- The deeds' words. -/
def words : List Bs := [[114, 101, 115, 101, 114, 118, 101], [99, 104, 97, 114, 103, 101], [115, 104, 105, 112], [114, 101, 108, 101, 97, 115, 101], [114, 101, 102, 117, 110, 100], [118, 111, 105, 100]]
def wordB (d : Int) : Bs := if 0 ≤ d ∧ d < 6 then (words[d.toNat]?).getD [] else []
def partyK (d : Int) : Int := if 0 ≤ d ∧ d < 6 then (if d % 3 = 0 then 1 else if d % 3 = 1 then 0 else 2) else -1
def undoW (d : Int) : Int := if 3 ≤ d ∧ d < 6 then d - 3 else 0
def undoB (d : Int) : Bool := decide (3 ≤ d) && decide (d < 6)
def deedB (s : Bs) : Bool := words.any fun x => x == s
def deedV (s : Bs) : Int := if s = [99, 104, 97, 114, 103, 101] then 1 else if s = [115, 104, 105, 112] then 2 else if s = [114, 101, 108, 101, 97, 115, 101] then 3 else if s = [114, 101, 102, 117, 110, 100] then 4 else if s = [118, 111, 105, 100] then 5 else 0
def lessK (o d o' d' : Int) : Bool := decide (o < o') || (decide (o = o') && decide (d < d'))
def putK (o d : Int) : Bs := if checkK o d = true then put o ++ 45 :: wordB d else []
/-- Six cases. -/
theorem six {d : Int} (h0 : 0 ≤ d) (h1 : d < 6) : d = 0 ∨ d = 1 ∨ d = 2 ∨ d = 3 ∨ d = 4 ∨ d = 5 := by omega
theorem word_inj {d d' : Int} (h0 : 0 ≤ d) (h1 : d < 6) (g0 : 0 ≤ d') (g1 : d' < 6) (h : wordB d = wordB d') : d = d' := by
  rcases six h0 h1 with rfl | rfl | rfl | rfl | rfl | rfl <;> rcases six g0 g1 with rfl | rfl | rfl | rfl | rfl | rfl <;> first | rfl | exact absurd h (by decide)
theorem word_ne {d : Int} (h0 : 0 ≤ d) (h1 : d < 6) : wordB d ≠ [] := by
  rcases six h0 h1 with rfl | rfl | rfl | rfl | rfl | rfl <;> decide
theorem word_none {d : Int} (h : ¬ (0 ≤ d ∧ d < 6)) : wordB d = [] := by unfold wordB; rw [if_neg h]
theorem deed_of {s : Bs} : deedB s = true → wordB (deedV s) = s ∧ 0 ≤ deedV s ∧ deedV s < 6 := by
  intro h
  unfold deedB words at h
  simp only [List.any_cons, List.any_nil, Bool.or_false, Bool.or_eq_true, beq_iff_eq] at h
  rcases h with rfl | rfl | rfl | rfl | rfl | rfl <;> exact ⟨by decide, by decide, by decide⟩
theorem deed_word {d : Int} (h0 : 0 ≤ d) (h1 : d < 6) : deedB (wordB d) = true ∧ deedV (wordB d) = d := by
  rcases six h0 h1 with rfl | rfl | rfl | rfl | rfl | rfl <;> exact ⟨by decide, by decide⟩
theorem deed_none {s : Bs} (h : ∀ d, 0 ≤ d → d < 6 → wordB d ≠ s) : deedB s = false ∧ deedV s = 0 := by
  have hb : deedB s = false := by
    cases hs : deedB s with
    | false => rfl
    | true =>
      obtain ⟨h1, h2, h3⟩ := deed_of hs
      exact absurd h1 (h _ h2 h3)
  refine ⟨hb, ?_⟩
  have n : ∀ d : Int, 0 ≤ d → d < 6 → s ≠ wordB d := fun d h0 h1 e => h d h0 h1 e.symm
  have e1 := n 1 (by decide) (by decide)
  have e2 := n 2 (by decide) (by decide)
  have e3 := n 3 (by decide) (by decide)
  have e4 := n 4 (by decide) (by decide)
  have e5 := n 5 (by decide) (by decide)
  unfold deedV
  rw [if_neg (by exact e1), if_neg (by exact e2), if_neg (by exact e3), if_neg (by exact e4), if_neg (by exact e5)]
/-- Digits, up to the dash. -/
theorem cut_dash {a b x y : Bs} (ha : ∀ c ∈ a, isDig c = true) (hb : ∀ c ∈ b, isDig c = true) (h : a ++ 45 :: x = b ++ 45 :: y) : a = b ∧ x = y := by
  induction a generalizing b with
  | nil =>
    cases b with
    | nil => simp at h; exact ⟨rfl, h⟩
    | cons c r =>
      simp at h
      have := hb c (by simp)
      rw [← h.1] at this
      exact absurd this (by decide)
  | cons c r ih =>
    cases b with
    | nil =>
      simp at h
      have := ha c (by simp)
      rw [h.1] at this
      exact absurd this (by decide)
    | cons c' r' =>
      simp at h
      obtain ⟨e1, e2⟩ := ih (fun z hz => ha z (by simp [hz])) (fun z hz => hb z (by simp [hz])) h.2
      exact ⟨by rw [h.1, e1], e2⟩
theorem put_digits {o : Int} (h : 0 < o) : ∀ c ∈ put o, isDig c = true := by
  unfold put
  rw [if_pos (by omega)]
  exact decN_all _
theorem put_ne {o : Int} (h : 0 < o) : put o ≠ [] := by
  unfold put
  rw [if_pos (by omega)]
  obtain ⟨c, t, e, _⟩ := decN_head o.toNat
  rw [e]
  exact List.cons_ne_nil _ _
theorem put_inj {o o' : Int} (h0 : 0 < o) (h1 : o < 61) (g0 : 0 < o') (g1 : o' < 61) (h : put o = put o') : o = o' := by
  have e1 := put_guess (n := o) (by unfold top; omega) (by unfold top; omega)
  have e2 := put_guess (n := o') (by unfold top; omega) (by unfold top; omega)
  rw [h, e2] at e1
  exact e1.symm
theorem putK_yes {o d : Int} (h : Chk o d) : putK o d = put o ++ 45 :: wordB d := by unfold putK; rw [if_pos (check_iff.2 h)]
theorem putK_ne {o d : Int} (h : Chk o d) : putK o d ≠ [] := by
  rw [putK_yes h]
  simp
theorem putK_inj {o d o' d' : Int} (h : Chk o d) (g : Chk o' d') (e : putK o d = putK o' d') : o = o' ∧ d = d' := by
  rw [putK_yes h, putK_yes g] at e
  obtain ⟨e1, e2⟩ := cut_dash (put_digits h.o0) (put_digits g.o0) e
  exact ⟨put_inj h.o0 h.o1 g.o0 g.o1 e1, word_inj h.d0 h.d1 g.d0 g.d1 e2⟩
/-- What a text's key is. -/
def GetIs (s : Bs) (o d : Int) (ok : Bool) : Prop := (ok = true ∧ Chk o d ∧ putK o d = s) ∨ (ok = false ∧ o = 0 ∧ d = 0 ∧ ∀ o d, Chk o d → putK o d ≠ s)
theorem GetIs.same {s : Bs} {o d o' d' : Int} {ok ok' : Bool} (h : GetIs s o d ok) (g : GetIs s o' d' ok') : o = o' ∧ d = d' ∧ ok = ok' := by
  rcases h with ⟨h1, h2, h3⟩ | ⟨h1, h2, h3, h4⟩ <;> rcases g with ⟨g1, g2, g3⟩ | ⟨g1, g2, g3, g4⟩
  · obtain ⟨e1, e2⟩ := putK_inj h2 g2 (h3.trans g3.symm)
    exact ⟨e1, e2, h1.trans g1.symm⟩
  · exact absurd h3 (g4 _ _ h2)
  · exact absurd g3 (h4 _ _ g2)
  · exact ⟨h2.trans g2.symm, h3.trans g3.symm, h1.trans g1.symm⟩
theorem less_one {o d o' d' : Int} (h : ¬ (o = o' ∧ d = d')) : lessK o d o' d' = !lessK o' d' o d := by
  unfold lessK
  by_cases h1 : o < o'
  · have e1 : ¬ o' < o := by omega
    have e2 : ¬ o' = o := by omega
    simp [h1, e1, e2]
  · by_cases h2 : o = o'
    · subst h2
      have h3 : ¬ d = d' := fun e => h ⟨rfl, e⟩
      by_cases h4 : d < d'
      · have : ¬ d' < d := by omega
        simp [h4, this]
      · have : d' < d := by omega
        simp [h4, this]
    · have e1 : o' < o := by omega
      have e2 : ¬ o' = o := by omega
      simp [h1, h2, e1, e2]
theorem less_self (o d : Int) : lessK o d o d = false := by unfold lessK; simp
end Ky
end Go.Proofs.Ytbemkcnikoiecaa
