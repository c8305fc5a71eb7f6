
/- The plain mathematics of stock (layer 14): a statement as rows of texts, rows of texts as a statement. Stock: a statement's file, parsed; a file that is parsed; what is cut off, quoted, counted otherwise. -/
import Derived.Test.YtnkcbefamajghaaDoorCsvMath
import Derived.Test.YtnkcbefamajghaaDoorMoneyMath
import Derived.Test.YtnkcbefamajghaaDoorRwMath
set_option linter.unusedVariables false
namespace Go.Proofs.YtnkcbefamajghaaDoor
open Go Ky Rw
namespace Stk

abbrev Bt := List UInt8
abbrev wName : Bt := [115, 116, 111, 99, 107]
abbrev wEnd : Bt := [101, 110, 100]
abbrev wDone : Bt := [100, 111, 110, 101]
abbrev wRef : Bt := [114, 101, 102, 117, 115, 101, 100]
abbrev wRsv : Bt := [114, 101, 115, 101, 114, 118, 101]
abbrev wRls : Bt := [114, 101, 108, 101, 97, 115, 101]
def codeW (c : Int) : Bt := if c = 2 then wRef else wDone
def headT (s : Int) : List Bt := [wName, Mon.put s]
def rowT (x : R) : List Bt := [Mon.put x.o, wordB x.d, codeW x.c, Mon.put x.q]
def endT (n : Nat) : List Bt := [wEnd, Mon.put (n : Int)]
def tableL (s : Int) (L : List R) : List (List Bt) := headT s :: (L.map rowT ++ [endT L.length])
def fileL (s : Int) (L : List R) : Bt := Csv.prRows (tableL s L)
def prt (p s : Int) (L : List R) : Bt := if p = 1 ∧ validB p s L = true then fileL s L else []
def prtC (p s : Int) (L : List R) : Int := if p = 1 ∧ validB p s L = true then 0 else 2

/-- A field's number, from 0 up to one; -1: it says none. -/
def numN (f : Bt) (most : Int) : Int := if Mon.getB f = true ∧ 0 ≤ Mon.getV f ∧ Mon.getV f ≤ most then Mon.getV f else -1
def fa (F : List Bt) (i : Nat) : Bt := (F[i]?).getD []
def wide (n want : Nat) : Nat := if n < want then n + 1 else if want < n then want + 1 else 0
abbrev Rej := Nat × Nat × Int
def headC (F : List Bt) : Nat × Int :=
  if fa F 0 ≠ wName then (1, 7) else if wide F.length 2 ≠ 0 then (wide F.length 2, 1) else if numN (fa F 1) 1073741824 < 1 then (2, 3) else (0, 0)
def tailC (F : List Bt) (A : List R) : Nat × Int :=
  if wide F.length 2 ≠ 0 then (wide F.length 2, 1) else if Mon.getB (fa F 1) = false ∨ Mon.getV (fa F 1) < 0 then (2, 3) else if Mon.getV (fa F 1) ≠ (A.length : Int) then (2, 4) else (0, 0)
def rowR (F : List Bt) : R := ⟨numN (fa F 0) 60, deedV (fa F 1), if fa F 2 = wRef then 2 else 1, 0, numN (fa F 3) 999⟩
def fitC (F : List Bt) : Nat :=
  if numN (fa F 0) 60 < 1 then 1
  else if fa F 1 ≠ wRsv ∧ fa F 1 ≠ wRls then 2
  else if fa F 2 ≠ wDone ∧ fa F 2 ≠ wRef then 3
  else if numN (fa F 3) 999 < 0 ∨ (0 < numN (fa F 3) 999 ∧ fa F 2 = wRef) then 4 else 0
def rowC (F : List Bt) (A : List R) : Nat × Int :=
  if wide F.length 4 ≠ 0 then (wide F.length 4, 1)
  else if 400 ≤ A.length then (1, 8)
  else if fitC F ≠ 0 then (fitC F, 3)
  else if ∃ y, A.getLast? = some y ∧ less y (rowR F) = false then (1, 6)
  else (0, 0)
/-- What the rows gone through have told. -/
structure PS where
  n : Nat
  seq : Int
  rows : List R
  ended : Bool
def step (st : PS) (F : List Bt) : Except Rej PS :=
  if st.ended = true then .error (st.n + 1, 1, 7)
  else if st.n = 0 then (if (headC F).1 ≠ 0 then .error (st.n + 1, headC F) else .ok ⟨st.n + 1, numN (fa F 1) 1073741824, st.rows, false⟩)
  else if fa F 0 = wEnd then (if (tailC F st.rows).1 ≠ 0 then .error (st.n + 1, tailC F st.rows) else .ok ⟨st.n + 1, st.seq, st.rows, true⟩)
  else (if (rowC F st.rows).1 ≠ 0 then .error (st.n + 1, rowC F st.rows) else .ok ⟨st.n + 1, st.seq, st.rows ++ [rowR F], false⟩)
def runL : PS → List (List Bt) → Except Rej (Int × List R)
  | st, [] => if st.ended = true then .ok (st.seq, st.rows) else .error (st.n + 1, 1, 7)
  | st, F :: r => match step st F with
    | .error e => .error e
    | .ok st' => runL st' r
def st0 : PS := ⟨0, 0, [], false⟩
def told (t : Bt) : Csv.Res → Except Rej (Int × List R)
  | .bad p c => .error (Csv.lineOf (t.take p), Csv.colOf (t.take p), (c : Int))
  | .rows T => runL st0 T
def parseM (t : Bt) : Except Rej (Int × List R) := if 65536 < t.length then .error (1, 1, 8) else told t (Csv.run Csv.st0 0 t)

/-! ### Numbers, words -/
theorem num_put {n most : Int} (h0 : 0 ≤ n) (h1 : n ≤ most) (h2 : most < top) : numN (Mon.put n) most = n := by
  obtain ⟨a, b⟩ := Mon.get_put (n := n) (by unfold top; omega) (by omega)
  unfold numN
  rw [b, if_pos ⟨a, h0, h1⟩]
theorem num_yes {f : Bt} {most n : Int} (h : numN f most = n) (h0 : 0 ≤ n) : Mon.put n = f ∧ n ≤ most := by
  unfold numN at h
  split at h
  · rename_i g
    rw [← h]
    exact ⟨(Mon.put_get g.1).1, g.2.2⟩
  · omega
theorem num_le (f : Bt) {most : Int} (hm : 0 ≤ most) : -1 ≤ numN f most ∧ numN f most ≤ most := by
  unfold numN
  split
  · rename_i g; exact ⟨by omega, g.2.2⟩
  · omega
theorem store_word {f : Bt} : (f = wRsv ∨ f = wRls) ↔ (deedB f = true ∧ partyK (deedV f) = 1) := by
  constructor
  · rintro (rfl | rfl) <;> decide
  · rintro ⟨h1, h2⟩
    obtain ⟨w1, w2, w3⟩ := deed_of h1
    rcases six w2 w3 with e | e | e | e | e | e
    all_goals rw [e] at w1 h2
    · exact Or.inl w1.symm
    · exact absurd h2 (by decide)
    · exact absurd h2 (by decide)
    · exact Or.inr w1.symm
    · exact absurd h2 (by decide)
    · exact absurd h2 (by decide)
theorem store_d {x : R} (h : Row1 1 x) : x.d = 0 ∨ x.d = 3 := by
  have hp := h.party
  rcases six h.key.d0 h.key.d1 with e | e | e | e | e | e
  all_goals rw [e] at hp
  · exact Or.inl e
  · exact absurd hp (by decide)
  · exact absurd hp (by decide)
  · exact Or.inr e
  · exact absurd hp (by decide)
  · exact absurd hp (by decide)
theorem store_w {x : R} (h : Row1 1 x) : wordB x.d = wRsv ∨ wordB x.d = wRls := by
  rcases store_d h with e | e <;> rw [e] <;> decide
/-! ### Fields without a byte that csv quotes -/
theorem plain_put {n : Int} (h : 0 ≤ n) : ∀ c ∈ Mon.put n, Mon.isDig c = true := by
  unfold Mon.put
  rw [if_pos h]
  exact Mon.decN_all _
theorem dig_plain {c : UInt8} (h : Mon.isDig c = true) : Csv.isSp c = false := by
  unfold Mon.isDig at h
  simp only [Bool.and_eq_true, decide_eq_true_eq] at h
  unfold Csv.isSp
  simp only [Bool.or_eq_false_iff, beq_eq_false_iff_ne]
  refine ⟨⟨⟨?_, ?_⟩, ?_⟩, ?_⟩ <;> (intro e; rw [e] at h; revert h; decide)
theorem put_plain {n : Int} (h : 0 ≤ n) : Csv.quotes (Mon.put n) = false := by
  unfold Csv.quotes
  rw [List.any_eq_false]
  intro c hc
  rw [dig_plain (plain_put h c hc)]
  simp
theorem put_short {n : Int} (h0 : 0 ≤ n) (h1 : n < top) : (Mon.put n).length ≤ 19 := by
  unfold Mon.put
  rw [if_pos h0, Mon.decN_len]
  exact Mon.cnt19 (by unfold top at h1; omega)
/-- Plain and short fields. -/
def Plain (F : List Bt) : Prop := F ≠ [] ∧ F.length ≤ 4 ∧ ∀ f ∈ F, Csv.quotes f = false ∧ f.length ≤ 19
theorem plain_head {s : Int} (h0 : 1 ≤ s) (h1 : s ≤ 1073741824) : Plain (headT s) := by
  refine ⟨by simp [headT], by simp [headT], fun f hf => ?_⟩
  simp only [headT, List.mem_cons, List.not_mem_nil, or_false] at hf
  rcases hf with rfl | rfl
  · decide
  · exact ⟨put_plain (by omega), put_short (by omega) (by unfold top; omega)⟩
theorem plain_row {x : R} (h : Row1 1 x) : Plain (rowT x) := by
  refine ⟨by simp [rowT], by simp [rowT], fun f hf => ?_⟩
  have o0 := h.key.o0
  have o1 := h.key.o1
  have q0 := h.q0
  have q1 := h.q1
  simp only [rowT, List.mem_cons, List.not_mem_nil, or_false] at hf
  rcases hf with rfl | rfl | rfl | rfl
  · exact ⟨put_plain (by omega), put_short (by omega) (by unfold top; omega)⟩
  · rcases store_w h with e | e <;> rw [e] <;> decide
  · unfold codeW; split <;> decide
  · exact ⟨put_plain (by omega), put_short (by omega) (by unfold top; omega)⟩
theorem plain_end {n : Nat} (h : n ≤ 400) : Plain (endT n) := by
  refine ⟨by simp [endT], by simp [endT], fun f hf => ?_⟩
  simp only [endT, List.mem_cons, List.not_mem_nil, or_false] at hf
  rcases hf with rfl | rfl
  · decide
  · exact ⟨put_plain (by omega), put_short (by omega) (by unfold top; omega)⟩
theorem plain_table {s : Int} {L : List R} (h : Valid 1 s L) : ∀ F ∈ tableL s L, Plain F := fun F hF => by
  unfold tableL at hF
  rcases List.mem_cons.1 hF with rfl | hF
  · exact plain_head h.s0 h.s1
  · rcases List.mem_append.1 hF with hF | hF
    · obtain ⟨x, hx, rfl⟩ := List.mem_map.1 hF
      exact plain_row (h.good.each x hx)
    · rw [List.mem_singleton.1 hF]
      exact plain_end h.good.len
theorem table_len (s : Int) (L : List R) : (tableL s L).length = L.length + 2 := by simp [tableL]
theorem norm_plain {T : List (List Bt)} (h : ∀ F ∈ T, F ≠ []) : T.map Csv.norm = T := Csv.norm_full h
theorem join_short : ∀ (F : List Bt) (m : Nat), (∀ f ∈ F, f.length ≤ m) → (Csv.prJoin F).length ≤ F.length * (2 * m + 3)
  | [], m, _ => by simp [Csv.prJoin]
  | [f], m, h => by
    have h1 := Csv.prt_length f
    have h2 := h f (by simp)
    simp only [Csv.prJoin, List.length_cons, List.length_nil]
    omega
  | f :: g :: r, m, h => by
    have ih := join_short (g :: r) m fun x hx => h x (List.mem_cons_of_mem _ hx)
    have h1 := Csv.prt_length f
    have h2 := h f (by simp)
    simp only [Csv.prJoin, List.length_append, List.length_cons] at ih ⊢
    have e : (r.length + 1 + 1) * (2 * m + 3) = (r.length + 1) * (2 * m + 3) + (2 * m + 3) := by rw [Nat.add_mul (r.length + 1) 1, Nat.one_mul]
    omega
theorem rows_short : ∀ (T : List (List Bt)) (m k : Nat), (∀ F ∈ T, F.length ≤ k ∧ ∀ f ∈ F, f.length ≤ m) → (Csv.prRows T).length ≤ T.length * (k * (2 * m + 3) + 1)
  | [], m, k, _ => by simp [Csv.prRows]
  | F :: T, m, k, h => by
    have ih := rows_short T m k fun G hG => h G (List.mem_cons_of_mem _ hG)
    have h1 := join_short F m (h F (by simp)).2
    have h2 : F.length * (2 * m + 3) ≤ k * (2 * m + 3) := Nat.mul_le_mul_right _ (h F (by simp)).1
    have e : Csv.prRows (F :: T) = Csv.prRow F ++ Csv.prRows T := rfl
    rw [e, List.length_append, Csv.prRow, List.length_append, List.length_cons, List.length_cons, List.length_nil, Nat.add_mul T.length 1, Nat.one_mul]
    omega
theorem file_short {s : Int} {L : List R} (h : Valid 1 s L) : (fileL s L).length ≤ 402 * 165 := by
  have h1 := rows_short (tableL s L) 19 4 fun F hF => ⟨(plain_table h F hF).2.1, fun f hf => ((plain_table h F hF).2.2 f hf).2⟩
  rw [table_len] at h1
  have h2 := h.good.len
  have h3 : (L.length + 2) * (4 * (2 * 19 + 3) + 1) ≤ 402 * 165 := Nat.mul_le_mul (by omega) (by omega)
  exact Nat.le_trans h1 h3
end Stk
end Go.Proofs.YtnkcbefamajghaaDoor
namespace Go.Proofs.YtnkcbefamajghaaDoor
open Go Ky Rw
namespace Stk

theorem wide_same (n : Nat) : wide n n = 0 := by unfold wide; simp
theorem wide_zero {n m : Nat} (h : wide n m = 0) : n = m := by
  unfold wide at h
  split at h
  · omega
  · split at h <;> omega
theorem wide_pos (n : Nat) {m : Nat} (h : wide n m ≠ 0) : 1 ≤ wide n m := by omega
/-! ### Steps -/
theorem step_head {s : Int} (h0 : 1 ≤ s) (h1 : s ≤ 1073741824) : step st0 (headT s) = .ok ⟨1, s, [], false⟩ := by
  have e1 : fa (headT s) 0 = wName := rfl
  have e2 : fa (headT s) 1 = Mon.put s := rfl
  have e3 : (headT s).length = 2 := rfl
  have hn := num_put (n := s) (most := 1073741824) (by omega) h1 (by unfold top; omega)
  have hc : headC (headT s) = (0, 0) := by
    unfold headC
    rw [e1, e2, e3, if_neg (by simp), if_neg (by decide), hn, if_neg (by omega)]
  unfold step
  rw [if_neg (by simp [st0]), if_pos (show st0.n = 0 from rfl), hc, if_neg (by simp), e2, hn]
  rfl
theorem row_read {x : R} (h : Row1 1 x) : rowR (rowT x) = x := by
  have e0 : fa (rowT x) 0 = Mon.put x.o := rfl
  have e1 : fa (rowT x) 1 = wordB x.d := rfl
  have e2 : fa (rowT x) 2 = codeW x.c := rfl
  have e3 : fa (rowT x) 3 = Mon.put x.q := rfl
  have o0 := h.key.o0
  have o1 := h.key.o1
  unfold rowR
  rw [e0, e1, e2, e3, num_put (by omega) (by omega) (by unfold top; omega), num_put h.q0 h.q1 (by unfold top; omega), (deed_word h.key.d0 h.key.d1).2]
  have ha : x.a = 0 := by
    by_cases ha : x.a = 0
    · exact ha
    · have := (h.za ha).1
      simp at this
  have hc : (if codeW x.c = wRef then (2 : Int) else 1) = x.c := by
    have := h.c1
    have := h.c2
    unfold codeW
    by_cases e : x.c = 2
    · rw [if_pos e, if_pos rfl, e]
    · rw [if_neg e, if_neg (by decide)]; omega
  rw [hc]
  cases x
  simp only at ha
  rw [ha]
theorem row_fit {x : R} (h : Row1 1 x) : fitC (rowT x) = 0 := by
  have e0 : fa (rowT x) 0 = Mon.put x.o := rfl
  have e1 : fa (rowT x) 1 = wordB x.d := rfl
  have e2 : fa (rowT x) 2 = codeW x.c := rfl
  have e3 : fa (rowT x) 3 = Mon.put x.q := rfl
  have o0 := h.key.o0
  have o1 := h.key.o1
  have q0 := h.q0
  unfold fitC
  rw [e0, e1, e2, e3, num_put (by omega) (by omega) (by unfold top; omega), num_put h.q0 h.q1 (by unfold top; omega), if_neg (by omega), if_neg ?_, if_neg ?_, if_neg ?_]
  · rintro (h1 | ⟨h1, h2⟩)
    · omega
    · have hz := (h.zq (by omega)).2
      unfold codeW at h2
      rw [if_neg hz] at h2
      revert h2
      decide
  · rintro ⟨h1, h2⟩
    unfold codeW at h1 h2
    by_cases e : x.c = 2
    · rw [if_pos e] at h2; exact h2 rfl
    · rw [if_neg e] at h1; exact h1 rfl
  · rintro ⟨h1, h2⟩
    rcases store_w h with e | e
    · exact h1 e
    · exact h2 e
theorem row_noEnd {x : R} (h : Row1 1 x) : fa (rowT x) 0 ≠ wEnd := by
  intro e
  have e0 : fa (rowT x) 0 = Mon.put x.o := rfl
  have o0 := h.key.o0
  have h1 := plain_put (n := x.o) (by omega) 101 (by rw [← e0, e]; simp)
  revert h1
  decide
theorem step_row {x : R} (h : Row1 1 x) {st : PS} (he : st.ended = false) (hn : 0 < st.n) (hl : st.rows.length < 400) :
    step st (rowT x) = if ∃ y, st.rows.getLast? = some y ∧ less y x = false then .error (st.n + 1, 1, 6) else .ok ⟨st.n + 1, st.seq, st.rows ++ [x], false⟩ := by
  have e3 : (rowT x).length = 4 := rfl
  have hc : rowC (rowT x) st.rows = if ∃ y, st.rows.getLast? = some y ∧ less y x = false then (1, 6) else (0, 0) := by
    unfold rowC
    rw [e3, if_neg (by decide), if_neg (by omega), row_fit h, if_neg (by simp), row_read h]
  unfold step
  rw [if_neg (by rw [he]; simp), if_neg (by omega), if_neg (row_noEnd h), hc, row_read h]
  by_cases hb : ∃ y, st.rows.getLast? = some y ∧ less y x = false
  · rw [if_pos hb, if_pos hb, if_pos (by simp)]
  · rw [if_neg hb, if_neg hb, if_neg (by simp)]
theorem step_end {n : Nat} (hl : n ≤ 400) {st : PS} (he : st.ended = false) (hn : 0 < st.n) :
    step st (endT n) = if n ≠ st.rows.length then .error (st.n + 1, 2, 4) else .ok ⟨st.n + 1, st.seq, st.rows, true⟩ := by
  have e0 : fa (endT n) 0 = wEnd := rfl
  have e1 : fa (endT n) 1 = Mon.put (n : Int) := rfl
  have e3 : (endT n).length = 2 := rfl
  obtain ⟨a, b⟩ := Mon.get_put (n := (n : Int)) (by unfold top; omega) (by unfold top; omega)
  have hc : tailC (endT n) st.rows = if n ≠ st.rows.length then (2, 4) else (0, 0) := by
    unfold tailC
    rw [e1, e3, a, b, if_neg (by decide), if_neg (by simp)]
    by_cases hb : n = st.rows.length
    · rw [if_neg (by omega), if_neg (by omega)]
    · rw [if_pos (by omega), if_pos hb]
  unfold step
  rw [if_neg (by rw [he]; simp), if_neg (by omega), if_pos e0, hc]
  by_cases hb : n = st.rows.length
  · have hz : ¬ (n ≠ st.rows.length) := fun h => h hb
    rw [if_neg hz, if_neg hz, if_neg (by simp)]
  · rw [if_pos hb, if_pos hb, if_pos (by simp)]
/-! ### Runs of steps -/
inductive Runs : PS → List (List Bt) → PS → Prop
  | nil (st : PS) : Runs st [] st
  | cons {st st' st'' : PS} {F : List Bt} {r : List (List Bt)} (h : step st F = .ok st') (g : Runs st' r st'') : Runs st (F :: r) st''
theorem Runs.run {st st' : PS} {T : List (List Bt)} (h : Runs st T st') (r : List (List Bt)) : runL st (T ++ r) = runL st' r := by
  induction h with
  | nil st => rfl
  | cons h g ih => rw [List.cons_append, runL, h]; exact ih
theorem last_less {M : List R} {x : R} (h : ∀ y ∈ M, less y x = true) : ¬ ∃ y, M.getLast? = some y ∧ less y x = false := by
  rintro ⟨y, hy, hl⟩
  rw [h y (List.mem_of_getLast? hy)] at hl
  cases hl
theorem run_rows : ∀ (L M : List R) (n : Nat) (s : Int), Rw.Good 1 (M ++ L) → 0 < n → Runs ⟨n, s, M, false⟩ (L.map rowT) ⟨n + L.length, s, M ++ L, false⟩
  | [], M, n, s, _, _ => by simpa using Runs.nil _
  | x :: L, M, n, s, g, hn => by
    have hx := g.each x (by simp)
    have hM : M.length < 400 := by have := g.len; rw [List.length_append, List.length_cons] at this; omega
    have hs := step_row hx (st := ⟨n, s, M, false⟩) rfl hn hM
    rw [if_neg (last_less fun y hy => (List.pairwise_append.1 g.rise).2.2 y hy x (by simp))] at hs
    have ih := run_rows L (M ++ [x]) (n + 1) s (by simpa using g) (by omega)
    rw [List.map_cons, List.length_cons]
    refine Runs.cons hs ?_
    have e : n + 1 + L.length = n + (L.length + 1) := by omega
    rw [e] at ih
    simpa using ih
theorem runs_front {s : Int} (h0 : 1 ≤ s) (h1 : s ≤ 1073741824) {L : List R} (g : Rw.Good 1 L) : Runs st0 (headT s :: L.map rowT) ⟨1 + L.length, s, L, false⟩ := by
  have := run_rows L [] 1 s (by simpa using g) (by omega)
  exact Runs.cons (step_head h0 h1) (by simpa using this)
theorem run_table {s : Int} {L : List R} (h : Valid 1 s L) (r : List (List Bt)) : runL st0 (tableL s L ++ r) = runL ⟨L.length + 2, s, L, true⟩ r := by
  have e1 := (runs_front h.s0 h.s1 h.good).run (endT L.length :: r)
  have e2 := step_end (n := L.length) h.good.len (st := ⟨1 + L.length, s, L, false⟩) rfl (by show 0 < 1 + L.length; omega)
  rw [if_neg (by simp)] at e2
  have e3 : tableL s L ++ r = headT s :: L.map rowT ++ (endT L.length :: r) := by simp [tableL]
  rw [e3, e1, runL, e2]
  have : 1 + L.length + 1 = L.length + 2 := by omega
  rw [← this]
theorem run_good {s : Int} {L : List R} (h : Valid 1 s L) : runL st0 (tableL s L) = .ok (s, L) := by
  have := run_table h []
  rw [List.append_nil] at this
  rw [this, runL, if_pos rfl]
theorem table_full {s : Int} {L : List R} (h : Valid 1 s L) : ∀ F ∈ tableL s L, F ≠ [] := fun F hF => (plain_table h F hF).1
theorem run_file {s : Int} {L : List R} (h : Valid 1 s L) : Csv.run Csv.st0 0 (fileL s L) = .rows (tableL s L) := by
  have := Csv.run_prRows (tableL s L)
  rw [norm_plain (table_full h)] at this
  exact this
theorem file_le {s : Int} {L : List R} (h : Valid 1 s L) (hl : L.length ≤ 200) : (fileL s L).length ≤ 65536 := by
  have h1 := rows_short (tableL s L) 19 4 fun F hF => ⟨(plain_table h F hF).2.1, fun f hf => ((plain_table h F hF).2.2 f hf).2⟩
  rw [table_len] at h1
  have h3 : (L.length + 2) * (4 * (2 * 19 + 3) + 1) ≤ 202 * 165 := Nat.mul_le_mul (by omega) (by omega)
  exact Nat.le_trans h1 (Nat.le_trans h3 (by decide))
/-- Keys of the warehouse's that rise: two of each order at most. -/
theorem rise_few {L : List R} (h : ∀ x ∈ L, Row1 1 x) (hr : L.Pairwise fun x y => less x y = true) : L.length ≤ 120 := by
  have key : ∀ x ∈ L, 0 ≤ 2 * x.o + (if x.d = 0 then 0 else 1) - 2 ∧ 2 * x.o + (if x.d = 0 then 0 else 1) - 2 < 120 := fun x hx => by
    have := (h x hx).key.o0
    have := (h x hx).key.o1
    split <;> omega
  have mono : ∀ x ∈ L, ∀ y ∈ L, less x y = true → 2 * x.o + (if x.d = 0 then 0 else 1) < 2 * y.o + (if y.d = 0 then (0 : Int) else 1) := fun x hx y hy hl => by
    rw [less_iff] at hl
    rcases store_d (h x hx) with e | e <;> rcases store_d (h y hy) with f | f <;> ((repeat' split) <;> omega)
  have H : ∀ (M : List R) (b : Int), (∀ x ∈ M, x ∈ L) → M.Pairwise (fun x y => less x y = true) → (∀ x ∈ M, b ≤ 2 * x.o + (if x.d = 0 then 0 else 1) - 2) → b ≤ 120 → (M.length : Int) ≤ 120 - b := by
    intro M
    induction M with
    | nil => intro b _ _ _ hb; simp; omega
    | cons x M ih =>
      intro b hM hp hb h120
      rw [List.pairwise_cons] at hp
      have hx := hM x (by simp)
      have k1 := key x hx
      have k2 := hb x (by simp)
      have := ih (2 * x.o + (if x.d = 0 then 0 else 1) - 2 + 1) (fun y hy => hM y (List.mem_cons_of_mem _ hy)) hp.2 (fun y hy => by
        have := mono x hx y (hM y (List.mem_cons_of_mem _ hy)) (hp.1 y hy)
        omega) (by omega)
      simp only [List.length_cons]
      omega
  have := H L 0 (fun x hx => hx) hr (fun x hx => (key x hx).1) (by omega)
  omega
theorem file_small {s : Int} {L : List R} (h : Valid 1 s L) : (fileL s L).length ≤ 65536 := file_le h (Nat.le_trans (rise_few h.good.each h.good.rise) (by omega))
theorem parse_file {s : Int} {L : List R} (h : Valid 1 s L) : parseM (fileL s L) = .ok (s, L) := by
  unfold parseM
  rw [if_neg (by have := file_small h; omega), run_file h]
  exact run_good h
/-! ### What is parsed may be -/
theorem good_nil : Rw.Good 1 [] := ⟨by omega, by omega, by simp, by simp, by simp⟩
theorem good_snoc {p : Int} {A : List R} {x : R} (g : Rw.Good p A) (hx : Row1 p x) (hl : A.length < 400) (h : ¬ ∃ y, A.getLast? = some y ∧ less y x = false) : Rw.Good p (A ++ [x]) := by
  refine ⟨g.p0, g.p2, by rw [List.length_append, List.length_singleton]; omega, fun y hy => ?_, ?_⟩
  · rcases List.mem_append.1 hy with hy | hy
    · exact g.each y hy
    · rw [List.mem_singleton.1 hy]; exact hx
  · rw [List.pairwise_append]
    refine ⟨g.rise, by simp, fun y hy z hz => ?_⟩
    rw [List.mem_singleton.1 hz]
    cases hA : A.getLast? with
    | none => rw [List.getLast?_eq_none_iff] at hA; rw [hA] at hy; cases hy
    | some w =>
      have hw : less w x = true := by
        cases hb : less w x with
        | true => rfl
        | false => exact absurd ⟨w, hA, hb⟩ h
      obtain ⟨ys, rfl⟩ := List.getLast?_eq_some_iff.1 hA
      rcases List.mem_append.1 hy with hy | hy
      · exact less_trans ((List.pairwise_append.1 g.rise).2.2 y hy w (by simp)) hw
      · rw [List.mem_singleton.1 hy]; exact hw
theorem headC_yes {F : List Bt} (h : ¬ (headC F).1 ≠ 0) : 1 ≤ numN (fa F 1) 1073741824 ∧ numN (fa F 1) 1073741824 ≤ 1073741824 := by
  unfold headC at h
  split at h
  · simp at h
  split at h
  · rename_i h2; exact absurd h2 (by simpa using h)
  split at h
  · simp at h
  rename_i h3
  exact ⟨by omega, (num_le _ (by omega)).2⟩
theorem fit_row {F : List Bt} (h : fitC F = 0) : Row1 1 (rowR F) := by
  unfold fitC at h
  split at h
  · cases h
  rename_i h1
  split at h
  · cases h
  rename_i h2
  split at h
  · cases h
  rename_i h3
  split at h
  · cases h
  rename_i h4
  have hw : fa F 1 = wRsv ∨ fa F 1 = wRls := by
    by_cases a : fa F 1 = wRsv
    · exact Or.inl a
    · by_cases b : fa F 1 = wRls
      · exact Or.inr b
      · exact absurd ⟨a, b⟩ h2
  obtain ⟨d1, d2⟩ := store_word.1 hw
  obtain ⟨_, w2, w3⟩ := deed_of d1
  have ho := num_le (fa F 0) (most := 60) (by omega)
  have hq := num_le (fa F 3) (most := 999) (by omega)
  have q0 : ¬ numN (fa F 3) 999 < 0 := fun e => h4 (Or.inl e)
  refine ⟨⟨?_, ?_, w2, w3⟩, d2, ?_, ?_, by simp [rowR], by simp [rowR], ?_, hq.2, by simp [rowR], ?_⟩
  · show 0 < numN (fa F 0) 60; omega
  · show numN (fa F 0) 60 < 61; omega
  · show 1 ≤ (if fa F 2 = wRef then (2 : Int) else 1)
    split <;> omega
  · show (if fa F 2 = wRef then (2 : Int) else 1) ≤ 2
    split <;> omega
  · show 0 ≤ numN (fa F 3) 999; omega
  · intro e
    refine ⟨by decide, ?_⟩
    show (if fa F 2 = wRef then (2 : Int) else 1) ≠ 2
    split
    · rename_i e2
      exact absurd (Or.inr ⟨by have : numN (fa F 3) 999 ≠ 0 := e; omega, e2⟩) h4
    · omega
theorem rowC_yes {F : List Bt} {A : List R} (h : ¬ (rowC F A).1 ≠ 0) : A.length < 400 ∧ Row1 1 (rowR F) ∧ ¬ ∃ y, A.getLast? = some y ∧ less y (rowR F) = false := by
  unfold rowC at h
  split at h
  · rename_i h2; exact absurd h2 (by simpa using h)
  split at h
  · simp at h
  rename_i h1
  split at h
  · rename_i h2; exact absurd h2 (by simpa using h)
  rename_i h3
  split at h
  · simp at h
  rename_i h4
  exact ⟨by omega, fit_row (by simpa using h3), h4⟩
/-- What has been gone through. -/
def Inv (st : PS) : Prop := (st.n = 0 ∧ st.rows = [] ∧ st.ended = false) ∨ (0 < st.n ∧ Valid 1 st.seq st.rows)
theorem inv_zero : Inv st0 := Or.inl ⟨rfl, rfl, rfl⟩
theorem Inv.few {st : PS} (h : Inv st) : st.rows.length ≤ 400 ∧ ∀ x ∈ st.rows, Row1 1 x := by
  rcases h with ⟨_, h, _⟩ | ⟨_, h⟩
  · rw [h]; simp
  · exact ⟨h.good.len, h.good.each⟩
theorem step_inv {st st' : PS} {F : List Bt} (h : step st F = .ok st') (hi : Inv st) : Inv st' := by
  unfold step at h
  split at h
  · cases h
  rename_i h1
  split at h
  · rename_i hn
    split at h
    · cases h
    rename_i hc
    obtain ⟨a, b⟩ := headC_yes hc
    cases h
    rcases hi with ⟨_, e, _⟩ | ⟨e, _⟩
    · refine Or.inr ⟨by show 0 < st.n + 1; omega, a, b, ?_⟩
      show Rw.Good 1 st.rows
      rw [e]; exact good_nil
    · omega
  rename_i hn
  have hv : Valid 1 st.seq st.rows := by
    rcases hi with ⟨e, _⟩ | ⟨_, e⟩
    · exact absurd e hn
    · exact e
  split at h
  · split at h
    · cases h
    cases h
    exact Or.inr ⟨by show 0 < st.n + 1; omega, hv⟩
  · split at h
    · cases h
    rename_i hc
    obtain ⟨a, b, c⟩ := rowC_yes hc
    cases h
    exact Or.inr ⟨by show 0 < st.n + 1; omega, hv.s0, hv.s1, good_snoc hv.good b a c⟩
theorem step_n {st st' : PS} {F : List Bt} (h : step st F = .ok st') : st'.n = st.n + 1 := by
  unfold step at h
  split at h
  · cases h
  split at h
  · split at h
    · cases h
    · cases h; rfl
  split at h
  · split at h
    · cases h
    · cases h; rfl
  · split at h
    · cases h
    · cases h; rfl
theorem run_valid : ∀ (T : List (List Bt)) (st : PS) (s : Int) (L : List R), runL st T = .ok (s, L) → Inv st → Valid 1 s L
  | [], st, s, L, h, hi => by
    unfold runL at h
    split at h
    · rename_i he
      cases h
      rcases hi with ⟨_, _, e⟩ | ⟨_, e⟩
      · rw [he] at e; cases e
      · exact e
    · cases h
  | F :: T, st, s, L, h, hi => by
    unfold runL at h
    cases hs : step st F with
    | error e => rw [hs] at h; cases h
    | ok st' =>
      rw [hs] at h
      exact run_valid T st' s L h (step_inv hs hi)
theorem parse_valid {t : Bt} {s : Int} {L : List R} (h : parseM t = .ok (s, L)) : Valid 1 s L := by
  unfold parseM at h
  split at h
  · cases h
  cases hr : Csv.run Csv.st0 0 t with
  | bad p c => rw [hr] at h; cases h
  | rows T =>
    rw [hr] at h
    exact run_valid T st0 s L h inv_zero
/-! ### What is rejected -/
theorem headC_no {F : List Bt} (h : (headC F).1 ≠ 0) : 1 ≤ (headC F).2 := by
  unfold headC at h ⊢
  split
  · simp
  rename_i h1
  rw [if_neg h1] at h
  split
  · simp
  rename_i h2
  rw [if_neg h2] at h
  split
  · simp
  rename_i h3
  rw [if_neg h3] at h
  exact absurd rfl h
theorem tailC_no {F : List Bt} {A : List R} (h : (tailC F A).1 ≠ 0) : 1 ≤ (tailC F A).2 := by
  unfold tailC at h ⊢
  split
  · simp
  rename_i h1
  rw [if_neg h1] at h
  split
  · simp
  rename_i h2
  rw [if_neg h2] at h
  split
  · simp
  rename_i h3
  rw [if_neg h3] at h
  exact absurd rfl h
theorem rowC_no {F : List Bt} {A : List R} (h : (rowC F A).1 ≠ 0) : 1 ≤ (rowC F A).2 := by
  unfold rowC at h ⊢
  split
  · simp
  rename_i h1
  rw [if_neg h1] at h
  split
  · simp
  rename_i h2
  rw [if_neg h2] at h
  split
  · simp
  rename_i h3
  rw [if_neg h3] at h
  split
  · simp
  rename_i h4
  rw [if_neg h4] at h
  exact absurd rfl h
theorem step_bad {st : PS} {F : List Bt} {e : Rej} (h : step st F = .error e) : 1 ≤ e.1 ∧ 1 ≤ e.2.1 ∧ 1 ≤ e.2.2 := by
  unfold step at h
  split at h
  · cases h; simp
  split at h
  · split at h
    · rename_i hc
      cases h
      exact ⟨by simp, by show 1 ≤ (headC F).1; omega, headC_no hc⟩
    · cases h
  split at h
  · split at h
    · rename_i hc
      cases h
      exact ⟨by simp, by show 1 ≤ (tailC F st.rows).1; omega, tailC_no hc⟩
    · cases h
  · split at h
    · rename_i hc
      cases h
      exact ⟨by simp, by show 1 ≤ (rowC F st.rows).1; omega, rowC_no hc⟩
    · cases h
theorem run_bad : ∀ (T : List (List Bt)) (st : PS) (e : Rej), runL st T = .error e → 1 ≤ e.1 ∧ 1 ≤ e.2.1 ∧ 1 ≤ e.2.2
  | [], st, e, h => by
    unfold runL at h
    split at h
    · cases h
    · cases h; simp
  | F :: T, st, e, h => by
    unfold runL at h
    cases hs : step st F with
    | error e' => rw [hs] at h; cases h; exact step_bad hs
    | ok st' => rw [hs] at h; exact run_bad T st' e h
theorem parse_bad {t : Bt} {e : Rej} (h : parseM t = .error e) : 1 ≤ e.1 ∧ 1 ≤ e.2.1 ∧ 1 ≤ e.2.2 := by
  unfold parseM at h
  split at h
  · cases h; simp
  cases hr : Csv.run Csv.st0 0 t with
  | bad p c =>
    rw [hr] at h
    cases h
    have hk := (Csv.run_code hr).1
    refine ⟨?_, (Csv.col_le _).1, ?_⟩
    · show 1 ≤ Csv.lineOf _
      unfold Csv.lineOf; omega
    · show (1 : Int) ≤ (c : Int)
      omega
  | rows T =>
    rw [hr] at h
    exact run_bad T st0 e h
/-! ### Cut off, quoted, counted otherwise, a row behind -/
theorem front_part {s : Int} {L : List R} {K M : List (List Bt)} (h : Valid 1 s L) (e : tableL s L = K ++ M) (hM : M ≠ []) : ∃ b, runL st0 K = .error b := by
  have hk : K.length ≤ L.length + 1 := by
    have := congrArg List.length e
    rw [table_len, List.length_append] at this
    have := List.length_pos_iff.2 hM
    omega
  have eK : K = (tableL s L).take K.length := by rw [e]; simp
  have e2 : tableL s L = headT s :: L.map rowT ++ [endT L.length] := by simp [tableL]
  cases hn : K.length with
  | zero =>
    have : K = [] := List.length_eq_zero_iff.1 hn
    exact ⟨(1, 1, 7), by rw [this]; rfl⟩
  | succ j =>
    have e3 : K = headT s :: (L.take j).map rowT := by
      rw [eK, hn, e2, List.take_append_of_le_length (by simp; omega), List.take_succ_cons, List.map_take]
    have g := runs_front h.s0 h.s1 (h.good.sub (List.take_sublist j L))
    have r := g.run []
    rw [List.append_nil, ← e3] at r
    exact ⟨_, by rw [r, runL, if_neg (by simp)]⟩
theorem cut_file {s : Int} {L : List R} (h : Valid 1 s L) {k : Nat} (hk : k < (fileL s L).length) : ∃ e, parseM ((fileL s L).take k) = .error e := by
  have hl := file_small h
  unfold parseM
  rw [if_neg (by rw [List.length_take]; omega)]
  cases hr : Csv.run Csv.st0 0 ((fileL s L).take k) with
  | bad p c => exact ⟨_, rfl⟩
  | rows K =>
    have h2 := run_file h
    rw [← List.take_append_drop k (fileL s L)] at h2
    obtain ⟨M, e, hM⟩ := Csv.cut_rows h2 (fun e => by
      have := congrArg List.length e
      rw [List.length_drop, List.length_nil] at this
      omega) hr
    exact front_part h e hM
/-- A field in quotes; a row of such; rows. -/
def quo (f : Bt) : Bt := 34 :: (f ++ [34])
def quoJ : List Bt → Bt
  | [] => []
  | [f] => quo f
  | f :: g :: r => quo f ++ 44 :: quoJ (g :: r)
def quoT (T : List (List Bt)) : Bt := T.flatMap fun F => quoJ F ++ [10]
theorem no34 {f : Bt} (h : Csv.quotes f = false) : (34 : UInt8) ∉ f := fun hm => by
  unfold Csv.quotes at h
  rw [List.any_eq_false] at h
  exact h 34 hm (by decide)
theorem after_quo {f : Bt} (h : Csv.quotes f = false) (row : List Bt) (rows : List (List Bt)) : Csv.after ⟨0, [], row, rows⟩ (quo f) = some ⟨3, f, row, rows⟩ := by
  unfold quo
  simp only [Csv.after, Csv.step_open ⟨0, [], row, rows⟩ rfl]
  have e := Csv.after_dbl f ⟨2, [], row, rows⟩ rfl
  rw [Csv.dbl_free (no34 h)] at e
  rw [Csv.after_append, e]
  simp [Csv.after, Csv.step]
theorem after_quoJ : ∀ (F : List Bt) (row : List Bt) (rows : List (List Bt)), F ≠ [] → (∀ f ∈ F, Csv.quotes f = false) → Csv.after ⟨0, [], row, rows⟩ (quoJ F ++ [10]) = some ⟨0, [], [], rows ++ [row ++ F]⟩
  | [], _, _, h, _ => absurd rfl h
  | [f], row, rows, _, h => by
    rw [Csv.after_append]
    simp only [quoJ, after_quo (h f (by simp)), Option.bind, Csv.after, Csv.step_end ⟨3, f, row, rows⟩ (show (3 : Nat) ≠ 2 by decide)]
  | f :: g :: r, row, rows, _, h => by
    have ih := after_quoJ (g :: r) (row ++ [f]) rows (by simp) fun x hx => h x (List.mem_cons_of_mem _ hx)
    simp only [quoJ, List.append_assoc, List.cons_append]
    rw [Csv.after_append, after_quo (h f (by simp))]
    simp only [Option.bind, Csv.after, Csv.step_comma ⟨3, f, row, rows⟩ (show (3 : Nat) ≠ 2 by decide)]
    rw [ih]; simp
theorem after_quoT : ∀ (T : List (List Bt)) (rows : List (List Bt)), (∀ F ∈ T, F ≠ [] ∧ ∀ f ∈ F, Csv.quotes f = false) → Csv.after ⟨0, [], [], rows⟩ (quoT T) = some ⟨0, [], [], rows ++ T⟩
  | [], rows, _ => by simp [quoT, Csv.after]
  | F :: T, rows, h => by
    have e : quoT (F :: T) = (quoJ F ++ [10]) ++ quoT T := rfl
    rw [e, Csv.after_append, after_quoJ F [] rows (h F (by simp)).1 (h F (by simp)).2]
    simp only [Option.bind]
    rw [after_quoT T _ fun G hG => h G (List.mem_cons_of_mem _ hG)]
    simp
theorem quoJ_short : ∀ (F : List Bt) (m : Nat), (∀ f ∈ F, f.length ≤ m) → (quoJ F).length ≤ F.length * (m + 3)
  | [], m, _ => by simp [quoJ]
  | [f], m, h => by
    have h2 := h f (by simp)
    simp only [quoJ, quo, List.length_cons, List.length_nil, List.length_append]
    omega
  | f :: g :: r, m, h => by
    have ih := quoJ_short (g :: r) m fun x hx => h x (List.mem_cons_of_mem _ hx)
    have h2 := h f (by simp)
    simp only [quoJ, quo, List.length_append, List.length_cons, List.length_nil] at ih ⊢
    have e : (r.length + 1 + 1) * (m + 3) = (r.length + 1) * (m + 3) + (m + 3) := by rw [Nat.add_mul (r.length + 1) 1, Nat.one_mul]
    omega
theorem quoT_short : ∀ (T : List (List Bt)) (m k : Nat), (∀ F ∈ T, F.length ≤ k ∧ ∀ f ∈ F, f.length ≤ m) → (quoT T).length ≤ T.length * (k * (m + 3) + 1)
  | [], m, k, _ => by simp [quoT]
  | F :: T, m, k, h => by
    have ih := quoT_short T m k fun G hG => h G (List.mem_cons_of_mem _ hG)
    have h1 := quoJ_short F m (h F (by simp)).2
    have h2 : F.length * (m + 3) ≤ k * (m + 3) := Nat.mul_le_mul_right _ (h F (by simp)).1
    have e : quoT (F :: T) = (quoJ F ++ [10]) ++ quoT T := rfl
    rw [e, List.length_append, List.length_append, List.length_cons, List.length_cons, List.length_nil, Nat.add_mul T.length 1, Nat.one_mul]
    omega
theorem quo_le {s : Int} {L : List R} (h : Valid 1 s L) : (quoT (tableL s L)).length ≤ 65536 := by
  have h1 := quoT_short (tableL s L) 19 4 fun F hF => ⟨(plain_table h F hF).2.1, fun f hf => ((plain_table h F hF).2.2 f hf).2⟩
  rw [table_len] at h1
  have h2 := rise_few h.good.each h.good.rise
  have h3 : (L.length + 2) * (4 * (19 + 3) + 1) ≤ 202 * 165 := Nat.mul_le_mul (by omega) (by omega)
  exact Nat.le_trans h1 (Nat.le_trans h3 (by decide))
theorem parse_quoted {s : Int} {L : List R} (h : Valid 1 s L) : parseM (quoT (tableL s L)) = .ok (s, L) := by
  have h1 := Csv.run_end 0 (after_quoT (tableL s L) [] fun F hF => ⟨table_full h F hF, fun f hf => ((plain_table h F hF).2.2 f hf).1⟩)
  unfold parseM
  rw [if_neg (by have := quo_le h; omega), show Csv.st0 = ⟨0, [], [], []⟩ from rfl, h1]
  simp only [Csv.fin, List.nil_append]
  exact run_good h
/-- A row behind the end row. -/
theorem run_behind {s : Int} {L : List R} (h : Valid 1 s L) (F : List Bt) : runL st0 (tableL s L ++ [F]) = .error (L.length + 3, 1, 7) := by
  rw [run_table h, runL]
  unfold step
  rw [if_pos rfl]
theorem parse_behind {s : Int} {L : List R} (h : Valid 1 s L) {F : List Bt} (hs : (Csv.prRows (tableL s L ++ [F])).length ≤ 65536) : parseM (Csv.prRows (tableL s L ++ [F])) = .error (L.length + 3, 1, 7) := by
  unfold parseM
  rw [if_neg (by omega), Csv.run_prRows, List.map_append, norm_plain (table_full h)]
  exact run_behind h _
/-- The end row counts otherwise. -/
def tableC (s : Int) (L : List R) (c : Nat) : List (List Bt) := headT s :: (L.map rowT ++ [endT c])
theorem parse_count {s : Int} {L : List R} (h : Valid 1 s L) {c : Nat} (hc : c ≤ 400) (hne : c ≠ L.length) (hs : (Csv.prRows (tableC s L c)).length ≤ 65536) : parseM (Csv.prRows (tableC s L c)) = .error (L.length + 2, 2, 4) := by
  have e2 : tableC s L c = headT s :: L.map rowT ++ [endT c] := by simp [tableC]
  have hf : ∀ F ∈ tableC s L c, F ≠ [] := fun F hF => by
    rw [e2] at hF
    rcases List.mem_append.1 hF with hF | hF
    · exact table_full h F (by rw [show tableL s L = headT s :: L.map rowT ++ [endT L.length] by simp [tableL]]; exact List.mem_append_left _ hF)
    · rw [List.mem_singleton.1 hF]; simp [endT]
  have e3 := step_end (n := c) hc (st := ⟨1 + L.length, s, L, false⟩) rfl (by show 0 < 1 + L.length; omega)
  rw [if_pos (show c ≠ L.length from hne)] at e3
  unfold parseM
  rw [if_neg (by omega), Csv.run_prRows, norm_plain hf]
  show runL st0 (tableC s L c) = _
  rw [e2, (runs_front h.s0 h.s1 h.good).run [endT c], runL, e3]
  show Except.error (1 + L.length + 1, 2, 4) = _
  rw [show 1 + L.length + 1 = L.length + 2 by omega]
end Stk
end Go.Proofs.YtnkcbefamajghaaDoor
