
/- The plain mathematics of csv (layer 4), more: quotes by twos and by ones; what a field's reading says. -/
import Derived.Test.YtnkcbefamajghaaDoorCsvMath
import Derived.Lib.LastIndexByte
import Derived.Lib.Strings
set_option linter.unusedVariables false
namespace Go.Proofs.YtnkcbefamajghaaDoor
namespace Csv
open Go

theorem split34 : ∀ f : Bs, (34 : UInt8) ∉ f ∨ ∃ a b, (34 : UInt8) ∉ a ∧ f = a ++ 34 :: b
  | [] => Or.inl (by simp)
  | c :: f => by
    by_cases h : c = 34
    · exact Or.inr ⟨[], f, by simp, by rw [h]; rfl⟩
    · rcases split34 f with h1 | ⟨a, b, h1, h2⟩
      · exact Or.inl (by simp only [List.mem_cons, not_or]; exact ⟨fun e => h e.symm, h1⟩)
      · exact Or.inr ⟨c :: a, b, by simp only [List.mem_cons, not_or]; exact ⟨fun e => h e.symm, h1⟩, by rw [h2]; rfl⟩

theorem index1_free : ∀ {a : Bs}, (34 : UInt8) ∉ a → Lib.index a [34] = -1
  | [], _ => rfl
  | c :: a, h => by
    have h1 : ((34 : UInt8) == c) = false := by rw [beq_eq_false_iff_ne]; intro e; exact h (by simp [e])
    rw [Lib.index, index1_free (a := a) (fun e => h (by simp [e]))]
    simp [List.isPrefixOf, h1]
theorem index1_hit : ∀ {a : Bs} (r : Bs), (34 : UInt8) ∉ a → Lib.index (a ++ 34 :: r) [34] = a.length
  | [], r, _ => by simp [Lib.index, List.isPrefixOf]
  | c :: a, r, h => by
    have h1 : ((34 : UInt8) == c) = false := by rw [beq_eq_false_iff_ne]; intro e; exact h (by simp [e])
    have ih := index1_hit (a := a) r (fun e => h (by simp [e]))
    rw [List.cons_append, Lib.index, ih, if_neg (by simp [List.isPrefixOf, h1]), if_neg (by first | (simp; done) | (simp; omega))]
    simp
theorem index2_free : ∀ {a : Bs}, (34 : UInt8) ∉ a → Lib.index a [34, 34] = -1
  | [], _ => rfl
  | c :: a, h => by
    have h1 : ((34 : UInt8) == c) = false := by rw [beq_eq_false_iff_ne]; intro e; exact h (by simp [e])
    rw [Lib.index, index2_free (a := a) (fun e => h (by simp [e]))]
    simp [List.isPrefixOf, h1]
theorem index2_hit : ∀ {a : Bs} (r : Bs), (34 : UInt8) ∉ a → Lib.index (a ++ 34 :: 34 :: r) [34, 34] = a.length
  | [], r, _ => by simp [Lib.index, List.isPrefixOf]
  | c :: a, r, h => by
    have h1 : ((34 : UInt8) == c) = false := by rw [beq_eq_false_iff_ne]; intro e; exact h (by simp [e])
    have ih := index2_hit (a := a) r (fun e => h (by simp [e]))
    rw [List.cons_append, Lib.index, ih, if_neg (by simp [List.isPrefixOf, h1]), if_neg (by first | (simp; done) | (simp; omega))]
    simp

theorem repl1 : ∀ (n : Nat) (f : Bs), f.length ≤ n → Lib.replaceK [34] [34, 34] (Lib.count f [34]) f = dbl f
  | n, f, hn => by
    rcases split34 f with h | ⟨a, b, h, rfl⟩
    · rw [Lib.count_miss (index1_free h), Lib.replaceK, dbl_free h]
    · have hi := index1_hit b h
      have hc := Lib.count_hit (sub := [34]) (by simp) hi
      rw [hc, Nat.add_comm 1, Lib.replaceK_hit _ _ _ _ _ hi]
      have hd : (a ++ 34 :: b).drop (a.length + [(34 : UInt8)].length) = b := by simp
      have ht : (a ++ 34 :: b).take a.length = a := by simp
      rw [hd, ht, dbl_append, dbl_free h]
      cases n with
      | zero => simp at hn
      | succ n =>
        rw [repl1 n b (by simp at hn; omega)]
        simp [dbl]
theorem repl2 : ∀ (n : Nat) (m : Bs), m.length ≤ n → Lib.replaceK [34, 34] [34] (Lib.count (dbl m) [34, 34]) (dbl m) = m
  | n, m, hn => by
    rcases split34 m with h | ⟨a, b, h, rfl⟩
    · rw [dbl_free h, Lib.count_miss (index2_free h), Lib.replaceK]
    · have e : dbl (a ++ 34 :: b) = a ++ 34 :: 34 :: dbl b := by rw [dbl_append, dbl_free h]; simp [dbl]
      rw [e]
      have hi := index2_hit (dbl b) h
      have hc := Lib.count_hit (sub := [34, 34]) (by simp) hi
      rw [hc, Nat.add_comm 1, Lib.replaceK_hit _ _ _ _ _ hi]
      have hd : (a ++ 34 :: 34 :: dbl b).drop (a.length + [(34 : UInt8), 34].length) = dbl b := by simp
      have ht : (a ++ 34 :: 34 :: dbl b).take a.length = a := by simp
      rw [hd, ht]
      cases n with
      | zero => simp at hn
      | succ n =>
        rw [repl2 n b (by simp at hn; omega)]
        simp
theorem replaceAll_dbl (f : Bs) : Lib.replaceAll f [34] [34, 34] = dbl f := by
  have h := repl1 _ f (Nat.le_refl _)
  have e : Lib.replaceNum f [34] (-1) = Lib.count f [34] := by unfold Lib.replaceNum; rw [if_pos (Or.inl (by decide))]
  unfold Lib.replaceAll Lib.replace
  rw [if_neg (by decide), e, h]
theorem replaceAll_undbl (m : Bs) : Lib.replaceAll (dbl m) [34, 34] [34] = m := by
  have h := repl2 _ m (Nat.le_refl _)
  have e : Lib.replaceNum (dbl m) [34, 34] (-1) = Lib.count (dbl m) [34, 34] := by unfold Lib.replaceNum; rw [if_pos (Or.inl (by decide))]
  unfold Lib.replaceAll Lib.replace
  rw [if_neg (by decide), e, h]

/-! ### The first of the special bytes -/
theorem indexAny_spec (l : Bs) : (Lib.indexAny l spec = -1 ∧ quotes l = false) ∨
    ∃ a c b, l = a ++ c :: b ∧ quotes a = false ∧ isSp c = true ∧ Lib.indexAny l spec = (a.length : Int) := by
  induction l with
  | nil => exact Or.inl ⟨rfl, rfl⟩
  | cons c l ih =>
    cases hc : isSp c
    · rcases ih with ⟨h1, h2⟩ | ⟨a, x, b, h1, h2, h3, h4⟩
      · refine Or.inl ⟨?_, ?_⟩
        · rw [Lib.indexAny, spec_contains, hc, h1]; simp
        · unfold quotes at h2 ⊢; rw [List.any_cons, hc, h2]; rfl
      · refine Or.inr ⟨c :: a, x, b, by rw [h1]; rfl, ?_, h3, ?_⟩
        · unfold quotes at h2 ⊢; rw [List.any_cons, hc, h2]; rfl
        · rw [Lib.indexAny, spec_contains, hc, h4, if_neg (by simp), if_neg (by first | (simp; done) | (simp; omega))]; simp
    · refine Or.inr ⟨[], c, l, rfl, rfl, hc, ?_⟩
      rw [Lib.indexAny, spec_contains, hc]; rfl
theorem indexByte_spec (l : Bs) (x : UInt8) : (Lib.indexByte l x = -1 ∧ x ∉ l) ∨
    ∃ a b, l = a ++ x :: b ∧ x ∉ a ∧ Lib.indexByte l x = (a.length : Int) := by
  induction l with
  | nil => exact Or.inl ⟨rfl, by simp⟩
  | cons c l ih =>
    by_cases hc : c = x
    · exact Or.inr ⟨[], l, by rw [hc]; rfl, by simp, by rw [Lib.indexByte, hc]; simp⟩
    · have hne : (c == x) = false := by simpa using hc
      rcases ih with ⟨h1, h2⟩ | ⟨a, b, h1, h2, h3⟩
      · exact Or.inl ⟨by rw [Lib.indexByte, hne, h1]; simp, by simp only [List.mem_cons, not_or]; exact ⟨fun e => hc e.symm, h2⟩⟩
      · exact Or.inr ⟨c :: a, b, by rw [h1]; rfl, by simp only [List.mem_cons, not_or]; exact ⟨fun e => hc e.symm, h2⟩, by rw [Lib.indexByte, hne, h3, if_neg (by simp), if_neg (by first | (simp; done) | (simp; omega))]; simp⟩

/-! ### What the reading of a field says -/
/-- Behind what is in quotes. -/
def BQ (l : Bs) (p : Nat) (r : Int) : Prop :=
  (r = -1 ∧ ∃ m, l = dbl m) ∨ (∃ m t, l = dbl m ++ 34 :: t ∧ t.head? ≠ some 34 ∧ r = ((p + (dbl m).length + 1 : Nat) : Int))

/-- The field at the front of l, what is behind it, or why not. -/
structure RD (l : Bs) (f : Bs) (k code : Nat) : Prop where
  le : k ≤ l.length
  ok : code = 0 → ∃ a c b m, l = a ++ c :: b ∧ a.length = k ∧ (c = 44 ∨ c = 10) ∧ m ≠ 2 ∧ ∀ row rows, after ⟨0, [], row, rows⟩ a = some ⟨m, f, row, rows⟩
  bad : code ≠ 0 → (code = 1 ∨ code = 2) ∧ ∀ p row rows, (l ≠ [] ∨ row ≠ []) → run ⟨0, [], row, rows⟩ p l = .bad (p + k) code

theorem rd_end {l : Bs} (h : quotes l = false) : RD l [] l.length 1 where
  le := Nat.le_refl _
  ok := fun e => by cases e
  bad := fun _ => ⟨Or.inl rfl, fun p row rows hn => by
    rw [run_end p (after_plain l ⟨0, [], row, rows⟩ (Or.inl rfl) h)]
    unfold fin
    by_cases hl : l = []
    · subst hl
      have hr : row ≠ [] := hn.elim (fun e => absurd rfl e) id
      simp [hr]
    · simp [hl]⟩
theorem rd_plain {a b : Bs} {c : UInt8} (h : quotes a = false) (hc : c = 44 ∨ c = 10) : RD (a ++ c :: b) a a.length 0 where
  le := by simp
  ok := fun _ => ⟨a, c, b, if a = [] then 0 else 1, rfl, rfl, hc, by split <;> decide, fun row rows => by rw [after_plain a _ (Or.inl rfl) h]; simp⟩
  bad := fun e => absurd rfl e
theorem rd_odd {a b : Bs} {c : UInt8} (h : quotes a = false) (hc : c = 34 ∨ c = 13) (h34 : c = 34 → a ≠ []) : RD (a ++ c :: b) [] a.length 2 where
  le := by simp
  ok := fun e => by cases e
  bad := fun _ => ⟨Or.inr rfl, fun p row rows _ => by
    refine run_bad p b (after_plain a ⟨0, [], row, rows⟩ (Or.inl rfl) h) (step_odd _ c ?_ hc fun e => ?_)
    · by_cases ha : a = [] <;> simp [ha]
    · simp [h34 e]⟩
theorem open_dbl (m : Bs) (row : List Bs) (rows : List (List Bs)) : after ⟨0, [], row, rows⟩ (34 :: dbl m) = some ⟨2, m, row, rows⟩ := by
  simp only [after, step_open ⟨0, [], row, rows⟩ rfl]
  rw [after_dbl m _ rfl]; simp
theorem open_close (m : Bs) (row : List Bs) (rows : List (List Bs)) : after ⟨0, [], row, rows⟩ (34 :: (dbl m ++ [34])) = some ⟨3, m, row, rows⟩ := by
  rw [← List.cons_append, after_append, open_dbl]; simp [after, step]
theorem rd_open {m : Bs} : RD (34 :: dbl m) [] (34 :: dbl m).length 2 where
  le := Nat.le_refl _
  ok := fun e => by cases e
  bad := fun _ => ⟨Or.inr rfl, fun p row rows _ => by rw [run_end p (open_dbl m row rows)]; simp [fin]⟩
theorem rd_close {m : Bs} : RD (34 :: (dbl m ++ [34])) [] ((dbl m).length + 2) 1 where
  le := by simp
  ok := fun e => by cases e
  bad := fun _ => ⟨Or.inl rfl, fun p row rows _ => by rw [run_end p (open_close m row rows)]; simp [fin]⟩
theorem rd_quoted {m b : Bs} {c : UInt8} (hc : c = 44 ∨ c = 10) : RD (34 :: (dbl m ++ 34 :: c :: b)) m ((dbl m).length + 2) 0 where
  le := by simp
  ok := fun _ => ⟨34 :: (dbl m ++ [34]), c, b, 3, by simp, by simp, hc, by decide, fun row rows => open_close m row rows⟩
  bad := fun e => absurd rfl e
theorem rd_behind {m b : Bs} {c : UInt8} (h1 : c ≠ 44) (h2 : c ≠ 10) (h3 : c ≠ 34) : RD (34 :: (dbl m ++ 34 :: c :: b)) [] ((dbl m).length + 2) 2 where
  le := by simp
  ok := fun e => by cases e
  bad := fun _ => ⟨Or.inr rfl, fun p row rows _ => by
    have h := run_bad p b (open_close m row rows) (step_behind ⟨3, m, row, rows⟩ c rfl h1 h2 h3)
    have e : (34 :: (dbl m ++ [34])) ++ c :: b = 34 :: (dbl m ++ 34 :: c :: b) := by simp
    rw [e] at h
    rw [h]; congr 1; simp⟩

/-- One field read. -/
theorem rd_step {l f : Bs} {k : Nat} (h : RD l f k 0) : ∃ c, l[k]? = some c ∧ (c = 44 ∨ c = 10) ∧
    (c = 44 → ∀ p row rows, run ⟨0, [], row, rows⟩ p l = run ⟨0, [], row ++ [f], rows⟩ (p + k + 1) (l.drop (k + 1))) ∧
    (c = 10 → ∀ p row rows, run ⟨0, [], row, rows⟩ p l = run ⟨0, [], [], rows ++ [row ++ [f]]⟩ (p + k + 1) (l.drop (k + 1))) := by
  obtain ⟨a, c, b, m, rfl, rfl, hc, hm, ha⟩ := h.ok rfl
  have hd : (a ++ c :: b).drop (a.length + 1) = b := by rw [← List.drop_drop]; simp
  refine ⟨c, by simp, hc, ?_, ?_⟩
  · rintro rfl p row rows
    rw [run_step p b (ha row rows) (step_comma ⟨m, f, row, rows⟩ hm), hd]
  · rintro rfl p row rows
    rw [run_step p b (ha row rows) (step_end ⟨m, f, row, rows⟩ hm), hd]

/-! ### Where a byte is, by what is counted and searched -/
theorem col_lastIdx (s : ByteArray) (k : Nat) (hk : k ≤ s.size) : ((colOf (s.data.toList.take k) : Nat) : Int) = k - Lib.lastIdx s 10 k := by
  have hg : ∀ j, (h : j < s.size) → (s.data[j]!) = s.data.toList[j]'(by simpa using h) := by
    intro j h
    rw [getElem!_pos s.data j (by simpa using h)]; simp
  have hmem : ∀ a b, b ≤ s.size → (∀ j, a ≤ j → j < b → ((s.data[j]!).toNat : Int) ≠ 10) → (10 : UInt8) ∉ (s.data.toList.drop a).take (b - a) := by
    intro a b hb h hm
    obtain ⟨j, hj, e⟩ := List.getElem_of_mem hm
    simp only [List.length_take, List.length_drop, Array.length_toList] at hj
    have hjs : a + j < s.size := by omega
    have := h (a + j) (by omega) (by omega)
    rw [hg _ hjs] at this
    rw [List.getElem_take, List.getElem_drop] at e
    rw [e] at this
    exact this rfl
  rcases Lib.lastIdx_spec s 10 k with ⟨h1, h2⟩ | ⟨i, h1, h2, h3, h4⟩
  · have := hmem 0 k hk (fun j _ hj => h2 j hj)
    rw [Nat.sub_zero, List.drop_zero] at this
    rw [col_free this, h1, List.length_take, Array.length_toList]
    have e : s.data.size = s.size := rfl
    omega
  · have hm := hmem (i + 1) k hk (fun j h5 hj => h4 j (by omega) hj)
    have hi : i < s.size := by omega
    have e10 : s.data.toList[i]'(by simpa using hi) = 10 := by
      rw [hg i hi] at h3
      have : (s.data.toList[i]'(by simpa using hi)).toNat = 10 := by omega
      exact UInt8.toNat_inj.1 this
    have hsplit : s.data.toList.take k = s.data.toList.take i ++ 10 :: (s.data.toList.drop (i + 1)).take (k - (i + 1)) := by
      rw [← e10]
      have : s.data.toList.take k = s.data.toList.take i ++ (s.data.toList.drop i).take (k - i) := by
        rw [← List.take_add]; congr 1; omega
      rw [this, List.drop_eq_getElem_cons (by simpa using hi)]
      obtain ⟨d, hd⟩ : ∃ d, k - i = d + 1 := ⟨k - i - 1, by omega⟩
      rw [hd, List.take_succ_cons]
      congr 3
      omega
    rw [hsplit, col_last _ hm, h2, List.length_take, List.length_drop, Array.length_toList]
    have e : s.data.size = s.size := rfl
    omega
end Csv
end Go.Proofs.YtnkcbefamajghaaDoor
