
/- The plain mathematics of csv (layer 4): rows as a text, a text byte by byte. -/
import Derived.Lib.IndexAny
import Derived.Lib.Replace
import Derived.Lib.CountLaws
set_option linter.unusedVariables false
namespace Go.Proofs.Ytbemkcnikoiecaa
namespace Csv
open Go

abbrev Bs := List UInt8

/-! ### The machine that reads a text -/
structure St where
  m : Nat
  f : Bs
  row : List Bs
  rows : List (List Bs)

def st0 : St := ⟨0, [], [], []⟩

def step (s : St) (c : UInt8) : Option St :=
  if s.m = 2 then (if c = 34 then some ⟨3, s.f, s.row, s.rows⟩ else some ⟨2, s.f ++ [c], s.row, s.rows⟩)
  else if c = 44 then some ⟨0, [], s.row ++ [s.f], s.rows⟩
  else if c = 10 then some ⟨0, [], [], s.rows ++ [s.row ++ [s.f]]⟩
  else if c = 34 ∧ s.m = 0 then some ⟨2, s.f, s.row, s.rows⟩
  else if c = 34 ∧ s.m = 3 then some ⟨2, s.f ++ [34], s.row, s.rows⟩
  else if c = 34 ∨ c = 13 ∨ s.m = 3 then none
  else some ⟨1, s.f ++ [c], s.row, s.rows⟩

inductive Res where
  | rows (L : List (List Bs))
  | bad (p code : Nat)

def fin (s : St) (p : Nat) : Res := if s.m = 2 then .bad p 2 else if s.m ≠ 0 ∨ s.row ≠ [] then .bad p 1 else .rows s.rows

def run (s : St) (p : Nat) : Bs → Res
  | [] => fin s p
  | c :: l => match step s c with
    | none => .bad p 2
    | some s' => run s' (p + 1) l

def after (s : St) : Bs → Option St
  | [] => some s
  | c :: l => match step s c with
    | none => none
    | some s' => after s' l

theorem after_append (s : St) (a b : Bs) : after s (a ++ b) = (after s a).bind fun s' => after s' b := by
  induction a generalizing s with
  | nil => rfl
  | cons c a ih =>
    simp only [List.cons_append, after]
    cases step s c with
    | none => rfl
    | some s' => exact ih s'

theorem run_append {s s' : St} (p : Nat) {a : Bs} (b : Bs) (h : after s a = some s') : run s p (a ++ b) = run s' (p + a.length) b := by
  induction a generalizing s p with
  | nil => simp only [after, Option.some.injEq] at h; subst h; rfl
  | cons c a ih =>
    simp only [after] at h
    simp only [List.cons_append, run]
    cases hs : step s c with
    | none => rw [hs] at h; cases h
    | some t =>
      rw [hs] at h
      simp only [List.length_cons]
      rw [ih _ h]; congr 1; omega

theorem run_end {s s' : St} (p : Nat) {a : Bs} (h : after s a = some s') : run s p a = fin s' (p + a.length) := by
  have := run_append p [] h
  simpa [run] using this

theorem run_bad {s s' : St} (p : Nat) {a : Bs} {c : UInt8} (b : Bs) (h : after s a = some s') (hc : step s' c = none) : run s p (a ++ c :: b) = .bad (p + a.length) 2 := by
  rw [run_append p _ h]; simp only [run, hc]

theorem run_step {s s' t : St} (p : Nat) {a : Bs} {c : UInt8} (b : Bs) (h : after s a = some s') (hc : step s' c = some t) : run s p (a ++ c :: b) = run t (p + a.length + 1) b := by
  rw [run_append p _ h]; simp only [run, hc]

/-! ### Fields, printed -/
def isSp (c : UInt8) : Bool := c == 44 || c == 34 || c == 10 || c == 13
def spec : Bs := [44, 34, 10, 13]
theorem spec_contains (c : UInt8) : spec.contains c = isSp c := by
  simp only [spec, isSp, List.contains_cons, List.contains_nil, Bool.or_false, Bool.or_assoc]

def dbl : Bs → Bs
  | [] => []
  | c :: r => if c = 34 then 34 :: 34 :: dbl r else c :: dbl r
theorem dbl_append (a b : Bs) : dbl (a ++ b) = dbl a ++ dbl b := by
  induction a with
  | nil => rfl
  | cons c a ih => simp only [List.cons_append, dbl, ih]; split <;> rfl
theorem dbl_free : ∀ {a : Bs}, (34 : UInt8) ∉ a → dbl a = a
  | [], _ => rfl
  | c :: r, h => by
    have h1 : c ≠ 34 := fun e => h (by simp [e])
    have h2 : (34 : UInt8) ∉ r := fun e => h (by simp [e])
    simp only [dbl, if_neg h1, dbl_free h2]
theorem dbl_length (a : Bs) : a.length ≤ (dbl a).length ∧ (dbl a).length ≤ 2 * a.length := by
  induction a with
  | nil => simp [dbl]
  | cons c a ih => simp only [dbl]; split <;> simp only [List.length_cons] <;> omega

def quotes (f : Bs) : Bool := f.any isSp
def prt (f : Bs) : Bs := if quotes f then 34 :: (dbl f ++ [34]) else f
theorem prt_length (f : Bs) : (prt f).length ≤ 2 * f.length + 2 := by
  have := dbl_length f
  unfold prt; split <;> simp <;> omega

def prJoin : List Bs → Bs
  | [] => []
  | [f] => prt f
  | f :: g :: r => prt f ++ 44 :: prJoin (g :: r)
def prRow (r : List Bs) : Bs := prJoin r ++ [10]
def prRows (L : List (List Bs)) : Bs := L.flatMap prRow

theorem prJoin_snoc : ∀ (xs : List Bs) (x : Bs), prJoin (xs ++ [x]) = (if xs = [] then prt x else prJoin xs ++ 44 :: prt x)
  | [], x => rfl
  | [f], x => rfl
  | f :: g :: r, x => by
    have ih := prJoin_snoc (g :: r) x
    rw [if_neg (by simp)] at ih
    rw [if_neg (by simp)]
    show prt f ++ 44 :: prJoin ((g :: r) ++ [x]) = _
    rw [ih]; simp [prJoin]
theorem prRows_snoc (L : List (List Bs)) (r : List Bs) : prRows (L ++ [r]) = prRows L ++ (prJoin r ++ [10]) := by
  simp [prRows, prRow]

/-! ### What the machine makes of a field -/
theorem after_plain : ∀ (f : Bs) (s : St), s.m = 0 ∨ s.m = 1 → quotes f = false → after s f = some ⟨if f = [] then s.m else 1, s.f ++ f, s.row, s.rows⟩
  | [], s, _, _ => by simp [after]
  | c :: f, s, hm, h => by
    simp only [quotes, List.any_cons, Bool.or_eq_false_iff] at h
    obtain ⟨hc, hf⟩ := h
    simp only [isSp, Bool.or_eq_false_iff, beq_eq_false_iff_ne] at hc
    obtain ⟨⟨⟨h1, h2⟩, h3⟩, h4⟩ := hc
    have hs : step s c = some ⟨1, s.f ++ [c], s.row, s.rows⟩ := by
      unfold step
      rw [if_neg (by omega), if_neg h1, if_neg h3, if_neg (fun e => h2 e.1), if_neg (fun e => h2 e.1), if_neg (fun e => by rcases e with e | e | e; exact h2 e; exact h4 e; omega)]
    simp only [after, hs]
    rw [after_plain f _ (Or.inr rfl) hf]
    simp

theorem after_dbl : ∀ (f : Bs) (s : St), s.m = 2 → after s (dbl f) = some ⟨2, s.f ++ f, s.row, s.rows⟩
  | [], s, h => by cases s; simp at h; simp [dbl, after, h]
  | c :: f, s, h => by
    simp only [dbl]
    split
    · rename_i hc
      have h1 : step s 34 = some ⟨3, s.f, s.row, s.rows⟩ := by unfold step; rw [if_pos h, if_pos rfl]
      have h2 : step ⟨3, s.f, s.row, s.rows⟩ 34 = some ⟨2, s.f ++ [34], s.row, s.rows⟩ := by simp [step]
      simp only [after, h1, h2]
      rw [after_dbl f _ rfl]; simp [hc]
    · rename_i hc
      have h1 : step s c = some ⟨2, s.f ++ [c], s.row, s.rows⟩ := by unfold step; rw [if_pos h, if_neg hc]
      simp only [after, h1]
      rw [after_dbl f _ rfl]; simp

theorem step_open (s : St) (h : s.m = 0) : step s 34 = some ⟨2, s.f, s.row, s.rows⟩ := by simp [step, h]
theorem step_comma (s : St) (h : s.m ≠ 2) : step s 44 = some ⟨0, [], s.row ++ [s.f], s.rows⟩ := by simp [step, h]
theorem step_end (s : St) (h : s.m ≠ 2) : step s 10 = some ⟨0, [], [], s.rows ++ [s.row ++ [s.f]]⟩ := by simp [step, h]
theorem step_close (s : St) (h : s.m = 2) : step s 34 = some ⟨3, s.f, s.row, s.rows⟩ := by simp [step, h]
theorem step_behind (s : St) (c : UInt8) (h : s.m = 3) (h1 : c ≠ 44) (h2 : c ≠ 10) (h3 : c ≠ 34) : step s c = none := by simp [step, h, h1, h2, h3]
theorem step_odd (s : St) (c : UInt8) (h : s.m = 0 ∨ s.m = 1) (hc : c = 34 ∨ c = 13) (h34 : c = 34 → s.m = 1) : step s c = none := by
  unfold step
  rcases hc with rfl | rfl
  · have := h34 rfl
    simp [this]
  · rcases h with h | h <;> simp [h]

/-- The machine behind a printed field, ahead of what ends it. -/
theorem after_prt (f : Bs) (row : List Bs) (rows : List (List Bs)) : ∃ m, m ≠ 2 ∧ after ⟨0, [], row, rows⟩ (prt f) = some ⟨m, f, row, rows⟩ := by
  unfold prt
  cases h : quotes f
  · refine ⟨if f = [] then 0 else 1, by split <;> decide, ?_⟩
    rw [if_neg (by simp), after_plain f _ (Or.inl rfl) h]; simp
  · refine ⟨3, by decide, ?_⟩
    rw [if_pos rfl]
    show after ⟨0, [], row, rows⟩ (34 :: (dbl f ++ [34])) = _
    simp only [after, step_open ⟨0, [], row, rows⟩ rfl]
    rw [after_append, after_dbl f _ rfl]
    simp [after, step]

theorem after_join : ∀ (r : List Bs) (row : List Bs) (rows : List (List Bs)), r ≠ [] → after ⟨0, [], row, rows⟩ (prJoin r ++ [10]) = some ⟨0, [], [], rows ++ [row ++ r]⟩
  | [], _, _, h => absurd rfl h
  | [f], row, rows, _ => by
    obtain ⟨m, hm, h⟩ := after_prt f row rows
    rw [after_append]; simp only [prJoin, h, Option.bind, after, step_end ⟨m, f, row, rows⟩ hm]
  | f :: g :: r, row, rows, _ => by
    obtain ⟨m, hm, h⟩ := after_prt f row rows
    have ih := after_join (g :: r) (row ++ [f]) rows (by simp)
    simp only [prJoin, List.append_assoc, List.cons_append]
    rw [after_append, h]
    simp only [Option.bind, after, step_comma ⟨m, f, row, rows⟩ hm]
    rw [ih]; simp

def norm (r : List Bs) : List Bs := if r = [] then [[]] else r
theorem after_row (r : List Bs) (rows : List (List Bs)) : after ⟨0, [], [], rows⟩ (prRow r) = some ⟨0, [], [], rows ++ [norm r]⟩ := by
  unfold prRow norm
  cases r with
  | nil => simp [prJoin, after, step]
  | cons f r => rw [after_join (f :: r) [] rows (by simp)]; simp
theorem after_rows : ∀ (L rows : List (List Bs)), after ⟨0, [], [], rows⟩ (prRows L) = some ⟨0, [], [], rows ++ L.map norm⟩
  | [], rows => by simp [prRows, after]
  | r :: L, rows => by
    show after _ (prRow r ++ prRows L) = _
    rw [after_append, after_row]
    show after _ (prRows L) = _
    rw [after_rows L]; simp

/-- What is printed is read as those rows. -/
theorem run_prRows (L : List (List Bs)) : run st0 0 (prRows L) = .rows (L.map norm) := by
  have h := run_end 0 (after_rows L [])
  rw [show st0 = ⟨0, [], [], []⟩ from rfl, h]
  simp [fin]

/-! ### What is read -/
theorem step_inv {s s' : St} {c : UInt8} (h : step s c = some s') :
    (s'.rows = s.rows ∧ ¬ (s'.m = 0 ∧ s'.row = [])) ∨ (s'.rows = s.rows ++ [s.row ++ [s.f]]) := by
  unfold step at h
  repeat' split at h
  all_goals first
    | (cases h; done)
    | (simp only [Option.some.injEq] at h; subst h; first | (right; rfl) | (left; exact ⟨rfl, by simp⟩))

/-- How much stands in the machine, at most four times what it has read. -/
def wt (r : List Bs) : Nat := (r.map fun f => 2 * f.length + 4).sum
def pot (s : St) : Nat := 2 * s.f.length + wt s.row + (s.rows.map wt).sum
theorem wt_snoc (r : List Bs) (f : Bs) : wt (r ++ [f]) = wt r + (2 * f.length + 4) := by simp [wt]
theorem pot_step {s s' : St} {c : UInt8} (h : step s c = some s') : pot s' ≤ pot s + 4 := by
  unfold step at h
  repeat' split at h
  all_goals first
    | (cases h; done)
    | (simp only [Option.some.injEq] at h; subst h; first | (simp [pot, wt]; done) | (simp [pot, wt]; omega))
theorem pot_after : ∀ {a : Bs} {s s' : St}, after s a = some s' → pot s' ≤ pot s + 4 * a.length
  | [], s, s', h => by simp only [after, Option.some.injEq] at h; subst h; simp
  | c :: a, s, s', h => by
    simp only [after] at h
    cases hs : step s c with
    | none => rw [hs] at h; cases h
    | some t =>
      rw [hs] at h
      have h1 := pot_step hs
      have h2 := pot_after h
      simp only [List.length_cons]; omega

/-- Each row that was read has a field. -/
def full (L : List (List Bs)) : Prop := ∀ r ∈ L, r ≠ []
theorem full_after : ∀ {a : Bs} {s s' : St}, after s a = some s' → full s.rows → full s'.rows
  | [], s, s', h, hf => by simp only [after, Option.some.injEq] at h; subst h; exact hf
  | c :: a, s, s', h, hf => by
    simp only [after] at h
    cases hs : step s c with
    | none => rw [hs] at h; cases h
    | some t =>
      rw [hs] at h
      refine full_after h ?_
      rcases step_inv hs with ⟨h1, _⟩ | h1
      · rw [h1]; exact hf
      · rw [h1]; intro r hr
        rcases List.mem_append.1 hr with h2 | h2
        · exact hf r h2
        · simp at h2; subst h2; simp
theorem norm_full {L : List (List Bs)} (h : full L) : L.map norm = L := by
  induction L with
  | nil => rfl
  | cons r L ih =>
    have h1 : r ≠ [] := h r (by simp)
    simp only [List.map_cons, norm, if_neg h1, ih (fun q hq => h q (by simp [hq]))]

theorem run_rows {s : St} {p : Nat} : ∀ {a : Bs} {L : List (List Bs)}, run s p a = .rows L → ∃ s', after s a = some s' ∧ s'.m = 0 ∧ s'.row = [] ∧ s'.rows = L := by
  intro a
  induction a generalizing s p with
  | nil =>
    intro L h
    simp only [run, fin] at h
    split at h
    · cases h
    · split at h
      · cases h
      · rename_i h1 h2
        simp only [Res.rows.injEq] at h
        refine ⟨s, rfl, ?_, ?_, h⟩
        · simp at h2; exact h2.1
        · simp at h2; exact h2.2
  | cons c a ih =>
    intro L h
    simp only [run] at h
    cases hs : step s c with
    | none => rw [hs] at h; cases h
    | some t =>
      rw [hs] at h
      obtain ⟨s', h1, h2⟩ := ih h
      exact ⟨s', by simp only [after, hs]; exact h1, h2⟩
theorem run_code {s : St} {p : Nat} : ∀ {a : Bs} {q k : Nat}, run s p a = .bad q k → (k = 1 ∨ k = 2) ∧ p ≤ q ∧ q ≤ p + a.length := by
  intro a
  induction a generalizing s p with
  | nil =>
    intro q k h
    simp only [run, fin] at h
    split at h
    · cases h; simp
    · split at h
      · cases h; simp
      · cases h
  | cons c a ih =>
    intro q k h
    simp only [run] at h
    cases hs : step s c with
    | none => rw [hs] at h; cases h; simp
    | some t =>
      rw [hs] at h
      have := ih h
      simp only [List.length_cons]
      omega

/-- What is read, printed: no longer than four times the text; read as the same rows. -/
theorem prJoin_le : ∀ (r : List Bs), r ≠ [] → (prJoin r).length + 1 ≤ wt r
  | [], h => absurd rfl h
  | [f], _ => by have := prt_length f; simp [prJoin, wt]; omega
  | f :: g :: r, _ => by
    have ih := prJoin_le (g :: r) (by simp)
    have := prt_length f
    simp only [prJoin, List.length_append, List.length_cons]
    simp only [wt, List.map_cons, List.sum_cons] at ih ⊢
    omega
theorem prRows_le : ∀ (L : List (List Bs)), full L → (prRows L).length ≤ (L.map wt).sum
  | [], _ => by simp [prRows]
  | r :: L, h => by
    have h1 := prJoin_le r (h r (by simp))
    have ih := prRows_le L (fun q hq => h q (by simp [hq]))
    have e : prRows (r :: L) = prRow r ++ prRows L := rfl
    rw [e]; simp only [List.length_append, prRow, List.map_cons, List.sum_cons, List.length_cons, List.length_nil]; omega
theorem again {a : Bs} {L : List (List Bs)} (h : run st0 0 a = .rows L) : run st0 0 (prRows L) = .rows L ∧ (prRows L).length ≤ 4 * a.length := by
  obtain ⟨s', h1, h2, h3, h4⟩ := run_rows h
  have hf : full L := by rw [← h4]; exact full_after h1 (by intro r hr; simp [st0] at hr)
  refine ⟨by rw [run_prRows, norm_full hf], ?_⟩
  have := pot_after h1
  have h5 := prRows_le L hf
  have h6 : pot st0 = 0 := rfl
  have h7 : (L.map wt).sum ≤ pot s' := by unfold pot; rw [h4]; omega
  omega

/-- What is cut off: fewer rows, the first ones. -/
theorem after_grow : ∀ {a : Bs} {s s' : St}, after s a = some s' → ∃ M, s'.rows = s.rows ++ M
  | [], s, s', h => by simp only [after, Option.some.injEq] at h; subst h; exact ⟨[], by simp⟩
  | c :: a, s, s', h => by
    simp only [after] at h
    cases hs : step s c with
    | none => rw [hs] at h; cases h
    | some t =>
      rw [hs] at h
      obtain ⟨M, hM⟩ := after_grow h
      rcases step_inv hs with ⟨h1, _⟩ | h1
      · exact ⟨M, by rw [hM, h1]⟩
      · exact ⟨[s.row ++ [s.f]] ++ M, by rw [hM, h1]; simp⟩
theorem cut_rows {a b : Bs} {L K : List (List Bs)} (h : run st0 0 (a ++ b) = .rows L) (hb : b ≠ []) (hk : run st0 0 a = .rows K) : ∃ M, L = K ++ M ∧ M ≠ [] := by
  obtain ⟨s1, g1, g2, g3, g4⟩ := run_rows hk
  obtain ⟨s2, h1, h2, h3, h4⟩ := run_rows h
  rw [after_append, g1] at h1
  have h1' : after s1 b = some s2 := h1
  obtain ⟨b', c, rfl⟩ : ∃ b' c, b = b' ++ [c] := ⟨b.dropLast, b.getLast hb, (List.dropLast_concat_getLast hb).symm⟩
  rw [after_append] at h1'
  cases hm : after s1 b' with
  | none => rw [hm] at h1'; cases h1'
  | some t =>
    rw [hm] at h1'
    simp only [Option.bind, after] at h1'
    cases hs : step t c with
    | none => rw [hs] at h1'; cases h1'
    | some u =>
      rw [hs] at h1'
      simp only [Option.some.injEq] at h1'
      subst h1'
      obtain ⟨M, hM⟩ := after_grow hm
      rcases step_inv hs with ⟨_, h6⟩ | h6
      · exact absurd ⟨h2, h3⟩ h6
      · exact ⟨M ++ [t.row ++ [t.f]], by rw [← h4, h6, hM, g4]; simp, by simp⟩

/-! ### Where a byte is -/
def lineOf (l : Bs) : Nat := 1 + l.count 10
def colOf (l : Bs) : Nat := l.foldl (fun n c => if c = 10 then 1 else n + 1) 1
theorem line_snoc (l : Bs) (c : UInt8) : lineOf (l ++ [c]) = lineOf l + (if c = 10 then 1 else 0) := by
  unfold lineOf
  rw [List.count_append, List.count_singleton]
  by_cases h : c = 10 <;> simp [h] <;> omega
theorem col_snoc (l : Bs) (c : UInt8) : colOf (l ++ [c]) = (if c = 10 then 1 else colOf l + 1) := by
  unfold colOf; rw [List.foldl_append]; rfl
theorem foldl_free : ∀ (l : Bs) (n : Nat), (10 : UInt8) ∉ l → l.foldl (fun n c => if c = 10 then 1 else n + 1) n = n + l.length
  | [], n, _ => rfl
  | c :: l, n, h => by
    have h1 : c ≠ 10 := fun e => h (by simp [e])
    rw [List.foldl_cons, if_neg h1, foldl_free l _ (fun e => h (by simp [e])), List.length_cons]; omega
theorem col_free {l : Bs} (h : (10 : UInt8) ∉ l) : colOf l = 1 + l.length := foldl_free l 1 h
theorem col_last (a : Bs) {b : Bs} (h : (10 : UInt8) ∉ b) : colOf (a ++ 10 :: b) = 1 + b.length := by
  unfold colOf
  rw [List.foldl_append, List.foldl_cons, if_pos rfl]
  exact foldl_free b 1 h
theorem col_le (l : Bs) : 1 ≤ colOf l ∧ colOf l ≤ l.length + 1 := by
  have : ∀ (l : Bs) (n : Nat), 1 ≤ n → 1 ≤ l.foldl (fun n c => if c = 10 then 1 else n + 1) n ∧ l.foldl (fun n c => if c = 10 then 1 else n + 1) n ≤ n + l.length := by
    intro l
    induction l with
    | nil => intro n h; simp [h]
    | cons c l ih =>
      intro n h
      rw [List.foldl_cons]
      by_cases hc : c = 10
      · rw [if_pos hc]; have := ih 1 (by omega); simp only [List.length_cons]; omega
      · rw [if_neg hc]; have := ih (n + 1) (by omega); simp only [List.length_cons]; omega
  have := this l 1 (by omega)
  unfold colOf; omega
end Csv
end Go.Proofs.Ytbemkcnikoiecaa
