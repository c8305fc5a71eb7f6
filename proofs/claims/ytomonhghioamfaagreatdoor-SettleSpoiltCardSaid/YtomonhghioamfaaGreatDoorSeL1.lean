
/- The payment's files: what is cut off; lines twice, turned, left out. The chapter's file, as the mathematics has it. The laws of settle: what is parsed, a bad file, the chapter's file. -/
import Derived.Test.YtomonhghioamfaaGreatDoorStMath3
import Derived.Test.YtomonhghioamfaaGreatDoorSeC5
import Derived.Test.YtomonhghioamfaaGreatDoorSeC7
import Derived.Test.YtomonhghioamfaaGreatDoorRwRefV
import Derived.Test.YtomonhghioamfaaGreatDoorRwCP
set_option linter.unusedVariables false
namespace Go.Proofs.YtomonhghioamfaaGreatDoor
open Go Ky Rw
namespace Stl

/-- The line and the column behind some bytes. -/
def lc1 (p : Nat × Nat) (c : UInt8) : Nat × Nat := if c = 10 then (p.1 + 1, 1) else (p.1, p.2 + 1)
def lc (p : Nat × Nat) (t : Bt) : Nat × Nat := t.foldl lc1 p
theorem lc_app (p : Nat × Nat) (a b : Bt) : lc p (a ++ b) = lc (lc p a) b := by unfold lc; rw [List.foldl_append]
theorem lc_part : ∀ (b : Bt) (i j : Nat), (∀ c ∈ b, c ≠ 10) → lc (i, j) b = (i, j + b.length)
  | [], i, j, _ => rfl
  | c :: b, i, j, h => by
    show lc (lc1 (i, j) c) b = _
    unfold lc1
    rw [if_neg (h c (by simp)), lc_part b _ _ fun x hx => h x (by simp [hx]), List.length_cons]
    simp only [Prod.mk.injEq, true_and]
    omega
theorem lc_line {W : List Int} {F : List Bt} {k : UInt8} {l b : Bt} (h : LineIs W F k l b) (i : Nat) : lc (i, 1) l = (i + 1, 1) := by
  rw [h.line, lc_app, lc_part _ _ _ h.no10]
  show lc1 _ 10 = _
  unfold lc1
  rw [if_pos rfl]
theorem lc_lines : ∀ {Ls : List Bt} (i : Nat), (∀ l ∈ Ls, Fine l) → lc (i, 1) Ls.flatten = (i + Ls.length, 1)
  | [], i, _ => rfl
  | l :: Ls, i, h => by
    obtain ⟨W, F, k, b, hb⟩ := h l (by simp)
    rw [List.flatten_cons, lc_app, lc_line hb, lc_lines (i + 1) fun m hm => h m (by simp [hm]), List.length_cons]
    simp only [Prod.mk.injEq, and_true]
    omega
theorem take_flat : ∀ (Ls : List Bt) (k : Nat), k < Ls.flatten.length → ∃ j l r, Ls[j]? = some l ∧ r < l.length ∧ Ls.flatten.take k = (Ls.take j).flatten ++ l.take r
  | [], k, h => by simp at h
  | l :: Ls, k, h => by
    rw [List.flatten_cons, List.length_append] at h
    by_cases hk : k < l.length
    · exact ⟨0, l, k, rfl, hk, by rw [List.flatten_cons, List.take_append_of_le_length (by omega)]; rfl⟩
    · obtain ⟨j, m, r, h1, h2, h3⟩ := take_flat Ls (k - l.length) (by omega)
      refine ⟨j + 1, m, r, by simpa using h1, h2, ?_⟩
      rw [List.flatten_cons, List.take_append, List.take_of_length_le (by omega), h3, List.take_succ_cons, List.flatten_cons, List.append_assoc]
/-- A part of a line, where that line is to come. -/
theorem step_part {W : List Int} {F : List Bt} {k : UInt8} {l b : Bt} (h : LineIs W F k l b) {st : PS} (he : st.ended = false) (h0 : st.n = 0 → k = 72) (h1 : 0 < st.n → k = 68 ∨ k = 84) {r : Nat} (hr : r < l.length) (h2 : 0 < r) : step st (l.take r) = .error (st.n + 1, r + 1, 1) := by
  have hb : l.take r = b.take r := by
    rw [h.line] at hr ⊢
    rw [List.length_append, List.length_singleton] at hr
    rw [List.take_append_of_le_length (by omega)]
  have hlb : r ≤ b.length := by
    rw [h.line, List.length_append, List.length_singleton] at hr
    omega
  have hlen : (b.take r).length = r := by rw [List.length_take]; omega
  have hw : wholeB (b.take r) = false := by
    unfold wholeB
    rw [beq_eq_false_iff_ne]
    intro e
    exact h.no10 10 (List.mem_of_mem_take (List.mem_of_getLast? e)) rfl
  have hbo : bodyOf (b.take r) = b.take r := by unfold bodyOf; rw [if_neg (by rw [hw]; decide)]
  have hk : kindOf (b.take r) = k := by
    rw [← h.kind]
    cases b with
    | nil => rw [List.take_nil]
    | cons c d =>
      cases r with
      | zero => omega
      | succ r => rfl
  rw [hb]
  unfold step
  rw [hbo, hk, hw, h.wid]
  have hc : ¬ (st.ended = true ∨ (st.n = 0 ∧ k ≠ 72) ∨ (0 < st.n ∧ k ≠ 68 ∧ k ≠ 84)) := by
    rintro (e | ⟨e, f⟩ | ⟨e, f, g⟩)
    · rw [he] at e; cases e
    · exact f (h0 e)
    · rcases h1 e with q | q
      · exact f q
      · exact g q
  rw [if_neg hc]
  by_cases hrb : r < b.length
  · have hpa := Fix.pa_long (W := W) (l := b.take r) h.okw (by rw [hlen, ← h.len]; omega)
    rw [hpa, if_pos (by simp), hlen, Nat.min_eq_left (by rw [← h.len]; omega)]
  · have e : b.take r = b := List.take_of_length_le (by omega)
    rw [e, h.pa, if_neg (by simp), if_pos rfl]
    have : b.length = r := by omega
    rw [this]
theorem fLines_len (s : Int) (L : List R) : (fLines s L).length = L.length + 2 := by simp [fLines]
theorem runs_part {s : Int} {L : List R} (h : Valid 0 s L) : ∀ j, j ≤ L.length + 1 → ∃ st, st.n = j ∧ st.ended = false ∧ Runs st0 ((fLines s L).take j) st
  | 0, _ => ⟨st0, rfl, rfl, Runs.nil _⟩
  | j + 1, hj => by
    have e : (fLines s L).take (j + 1) = headF s :: (L.take j).map rowF := by
      unfold fLines
      rw [List.take_succ_cons, List.take_append_of_le_length (by rw [List.length_map]; omega), ← List.map_take]
    rw [e]
    refine ⟨_, ?_, rfl, runs_head h.s0 h.s1 (h.good.sub (List.take_sublist j L))⟩
    show 1 + (L.take j).length = j + 1
    rw [List.length_take]
    omega
theorem kind_at {s : Int} {L : List R} (h : Valid 0 s L) {j : Nat} {l : Bt} (hl : (fLines s L)[j]? = some l) : ∃ W F k b, LineIs W F k l b ∧ (j = 0 → k = 72) ∧ (0 < j → k = 68 ∨ k = 84) := by
  unfold fLines at hl
  cases j with
  | zero =>
    cases hl
    obtain ⟨b, hb⟩ := head_is h.s0 h.s1
    exact ⟨_, _, _, _, hb, fun _ => rfl, fun e => by omega⟩
  | succ j =>
    simp only [List.getElem?_cons_succ] at hl
    have hm := List.mem_of_getElem? hl
    rcases List.mem_append.1 hm with hm | hm
    · obtain ⟨x, hx, rfl⟩ := List.mem_map.1 hm
      obtain ⟨b, hb⟩ := row_is (h.good.each x hx)
      exact ⟨_, _, _, _, hb, fun e => by omega, fun _ => Or.inl rfl⟩
    · rw [List.mem_singleton.1 hm]
      obtain ⟨b, hb⟩ := trail_is h.good.each h.good.len
      exact ⟨_, _, _, _, hb, fun e => by omega, fun _ => Or.inr rfl⟩
/-- Of what is cut off none is told, and where it ends. -/
theorem cut_file {s : Int} {L : List R} (h : Valid 0 s L) {k : Nat} (hk : k < (fileL s L).length) :
    ∃ line col code, parseM ((fileL s L).take k) = .error (line, col, code) ∧ lc (1, 1) ((fileL s L).take k) = (line, col) ∧ (code = 1 ∨ (code = 7 ∧ col = 1)) := by
  have hlen := file_len h
  have := h.good.len
  have hk' := hk
  rw [← file_flat] at hk'
  obtain ⟨j, l, r, h1, h2, h3⟩ := take_flat (fLines s L) k hk'
  rw [file_flat] at h3
  have hj : j ≤ L.length + 1 := by
    have := (List.getElem?_eq_some_iff.1 h1).1
    rw [fLines_len] at this
    omega
  have fine : ∀ l ∈ (fLines s L).take j, Fine l := fun l hl => fine_all h l (List.mem_of_mem_take hl)
  obtain ⟨W, F, kk, b, hb, k0, k1⟩ := kind_at h h1
  obtain ⟨st, g1, g2, g3⟩ := runs_part h j hj
  have hlc : lc (1, 1) ((fileL s L).take k) = (j + 1, r + 1) := by
    have hjl : ((fLines s L).take j).length = j := by rw [List.length_take, fLines_len]; omega
    rw [h3, lc_app, lc_lines 1 fine, hjl]
    have hb2 : l.take r = b.take r := by
      rw [hb.line] at h2 ⊢
      rw [List.length_append, List.length_singleton] at h2
      rw [List.take_append_of_le_length (by omega)]
    have hr : (b.take r).length = r := by
      rw [hb.line, List.length_append, List.length_singleton] at h2
      rw [List.length_take]; omega
    rw [hb2, lc_part _ _ _ fun c hc => hb.no10 c (List.mem_of_mem_take hc), hr]
    simp only [Prod.mk.injEq]
    omega
  have hp : parseM ((fileL s L).take k) = runL st (linesL (l.take r)) := by
    unfold parseM
    rw [if_neg (by rw [List.length_take]; omega), h3, lines_of _ fine]
    exact g3.run _
  by_cases hr0 : r = 0
  · subst hr0
    refine ⟨j + 1, 1, 7, ?_, by rw [hlc], Or.inr ⟨rfl, rfl⟩⟩
    rw [hp, List.take_zero, linesL_nil]
    unfold runL
    rw [g2, if_neg (by simp), g1]
  · refine ⟨j + 1, r + 1, 1, ?_, hlc, Or.inl rfl⟩
    have hb2 : ∀ c ∈ l.take r, c ≠ 10 := by
      have e : l.take r = b.take r := by
        rw [hb.line] at h2 ⊢
        rw [List.length_append, List.length_singleton] at h2
        rw [List.take_append_of_le_length (by omega)]
      rw [e]
      exact fun c hc => hb.no10 c (List.mem_of_mem_take hc)
    have hne : l.take r ≠ [] := fun e => by
      have := congrArg List.length e
      rw [List.length_take, List.length_nil] at this
      omega
    rw [hp, lines_part hb2 hne]
    unfold runL
    rw [step_part hb g2 (by rw [g1]; exact k0) (by rw [g1]; exact k1) h2 (by omega), g1]

/-! ### Lines twice, turned, left out -/
theorem flat_rows {L : List R} (h : ∀ x ∈ L, Row1 0 x) (u : Bt) : linesL (L.flatMap rowF ++ u) = L.map rowF ++ linesL u := by
  rw [List.flatMap_def]
  exact lines_of u (fine_rows h)
theorem file_lines {s : Int} {A L : List R} (h0 : 1 ≤ s) (h1 : s ≤ 1073741824) (hA : ∀ x ∈ A, Row1 0 x) (hL : ∀ x ∈ L, Row1 0 x) (hl : L.length ≤ 400) : linesL (headF s ++ A.flatMap rowF ++ trailF L) = headF s :: (A.map rowF ++ [trailF L]) := by
  obtain ⟨b, hb⟩ := head_is h0 h1
  obtain ⟨c, hc⟩ := trail_is hL hl
  rw [List.append_assoc, lines_line hb, flat_rows hA]
  have := lines_line hc []
  rw [List.append_nil, linesL_nil] at this
  rw [this]
theorem rows_take {L : List R} (h : ∀ x ∈ L, Row1 0 x) (j : Nat) (hj : j ≤ L.length) : (L.flatMap rowF).take (29 * j) = (L.take j).flatMap rowF ∧ (L.flatMap rowF).drop (29 * j) = (L.drop j).flatMap rowF := by
  have e : L.flatMap rowF = (L.take j).flatMap rowF ++ (L.drop j).flatMap rowF := by rw [← List.flatMap_append, List.take_append_drop]
  have hl : ((L.take j).flatMap rowF).length = 29 * j := by
    rw [rows_len fun x hx => h x (List.mem_of_mem_take hx), List.length_take, Nat.min_eq_left hj]
  exact ⟨by rw [e, List.take_append_of_le_length (by omega), List.take_of_length_le (by omega)], by rw [e, List.drop_append_of_le_length (by omega), List.drop_of_length_le (by omega)]; rfl⟩
/-- A file, cut behind so many rows. -/
theorem file_cut {s : Int} {L : List R} (h : Valid 0 s L) {j : Nat} (hj : j ≤ L.length) :
    (fileL s L).take (20 + 29 * j) = headF s ++ (L.take j).flatMap rowF ∧ (fileL s L).drop (20 + 29 * j) = (L.drop j).flatMap rowF ++ trailF L := by
  obtain ⟨r1, r2⟩ := rows_take h.good.each j hj
  have hh := head_len h.s0 h.s1
  have hr := rows_len h.good.each
  unfold fileL
  refine ⟨?_, ?_⟩
  · rw [List.append_assoc, List.take_append, List.take_of_length_le (by omega), hh, List.take_append_of_le_length (by rw [hr]; omega), show 20 + 29 * j - 20 = 29 * j by omega, r1]
  · rw [List.append_assoc, List.drop_append, List.drop_of_length_le (by omega), hh, show 20 + 29 * j - 20 = 29 * j by omega, List.drop_append_of_le_length (by rw [hr]; omega), r2]
    rfl
theorem last_snoc {α : Type} (ys : List α) (z : α) : (ys ++ [z]).getLast? = some z := by simp
theorem sub_skip {α : Type} (A : List α) (x y : α) (r : List α) : (A ++ [y]).Sublist (A ++ x :: y :: r) := List.Sublist.append (List.Sublist.refl _) (List.Sublist.cons _ (List.Sublist.cons_cons _ (List.nil_sublist _)))
theorem turn_stop {s : Int} {A : List R} {x : R} {r : List Bt} (hh : 1 ≤ s ∧ s ≤ 1073741824) (g : Rw.Good 0 A) (hA : A.length < 400) (hx : Row1 0 x) (hl : ∃ y, A.getLast? = some y ∧ less y x = false) : runL st0 (headF s :: (A.map rowF ++ rowF x :: r)) = .error (A.length + 2, 2, 6) := by
  have e := (runs_head hh.1 hh.2 g).run (rowF x :: r)
  rw [List.cons_append] at e
  rw [e]
  unfold runL
  rw [step_row hx rfl (by show 0 < 1 + A.length; omega) hA, if_pos hl]
  simp only [Except.error.injEq, Prod.mk.injEq, and_true]
  omega
/-- A row's line twice. -/
theorem twice_file {s : Int} {L : List R} (h : Valid 0 s L) {k : Nat} (hk : k < L.length) (hl : L.length ≤ 100) :
    parseM ((fileL s L).take (49 + 29 * k) ++ (fileL s L).drop (20 + 29 * k)) = .error (k + 3, 2, 6) := by
  have h1 := (file_cut h (show k + 1 ≤ L.length by omega)).1
  have h2 := (file_cut h (show k ≤ L.length by omega)).2
  have e : 49 + 29 * k = 20 + 29 * (k + 1) := by omega
  have flen := file_len h
  unfold parseM
  rw [if_neg (by rw [List.length_append, List.length_take, List.length_drop]; omega), e, h1, h2]
  have e2 : headF s ++ (L.take (k + 1)).flatMap rowF ++ ((L.drop k).flatMap rowF ++ trailF L) = headF s ++ (L.take (k + 1) ++ L.drop k).flatMap rowF ++ trailF L := by
    rw [List.flatMap_append]; simp only [List.append_assoc]
  have hA : ∀ x ∈ L.take (k + 1) ++ L.drop k, Row1 0 x := fun x hx => by
    rcases List.mem_append.1 hx with hx | hx
    · exact h.good.each x (List.mem_of_mem_take hx)
    · exact h.good.each x (List.mem_of_mem_drop hx)
  rw [e2, file_lines h.s0 h.s1 hA h.good.each h.good.len, List.drop_eq_getElem_cons hk, List.map_append, List.map_cons, List.append_assoc, List.cons_append]
  have hlast : (L.take (k + 1)).getLast? = some L[k] := by
    rw [List.take_add_one, List.getElem?_eq_getElem hk]
    exact last_snoc _ _
  have e := turn_stop (r := (L.drop (k + 1)).map rowF ++ [trailF L]) ⟨h.s0, h.s1⟩ (h.good.sub (List.take_sublist (k + 1) L)) (by rw [List.length_take]; omega) (h.good.each _ (List.getElem_mem hk)) ⟨_, hlast, less_irrefl _⟩
  rw [List.length_take, Nat.min_eq_left (by omega)] at e
  rw [e]
/-- Two rows' lines turned. -/
theorem turned_file {s : Int} {L : List R} (h : Valid 0 s L) {k : Nat} (hk : k + 1 < L.length) (hl : L.length ≤ 100) :
    parseM ((fileL s L).take (20 + 29 * k) ++ ((fileL s L).drop (49 + 29 * k)).take 29 ++ ((fileL s L).drop (20 + 29 * k)).take 29 ++ (fileL s L).drop (78 + 29 * k)) = .error (k + 3, 2, 6) := by
  have h1 := (file_cut h (show k ≤ L.length by omega)).1
  have h2 := (file_cut h (show k ≤ L.length by omega)).2
  have h3 := (file_cut h (show k + 1 ≤ L.length by omega)).2
  have h4 := (file_cut h (show k + 2 ≤ L.length by omega)).2
  rw [show 20 + 29 * (k + 1) = 49 + 29 * k by omega] at h3
  rw [show 20 + 29 * (k + 2) = 78 + 29 * k by omega] at h4
  have flen := file_len h
  have d1 : L.drop k = L[k] :: L.drop (k + 1) := List.drop_eq_getElem_cons (by omega)
  have d2 : L.drop (k + 1) = L[k + 1] :: L.drop (k + 2) := List.drop_eq_getElem_cons hk
  have x0 := h.good.each _ (List.getElem_mem (show k < L.length by omega))
  have x1 := h.good.each _ (List.getElem_mem hk)
  unfold parseM
  rw [if_neg (by simp only [List.length_append, List.length_take, List.length_drop]; omega), h1, h2, h3, h4, d1, d2]
  simp only [List.flatMap_cons]
  have t1 : (rowF L[k + 1] ++ (L.drop (k + 2)).flatMap rowF ++ trailF L).take 29 = rowF L[k + 1] := by
    rw [List.append_assoc, List.take_append_of_le_length (by rw [row_len x1]; omega), List.take_of_length_le (by rw [row_len x1]; omega)]
  have t2 : (rowF L[k] ++ (rowF L[k + 1] ++ (L.drop (k + 2)).flatMap rowF) ++ trailF L).take 29 = rowF L[k] := by
    rw [List.append_assoc, List.take_append_of_le_length (by rw [row_len x0]; omega), List.take_of_length_le (by rw [row_len x0]; omega)]
  rw [t1, t2]
  have e2 : headF s ++ (L.take k).flatMap rowF ++ rowF L[k + 1] ++ rowF L[k] ++ ((L.drop (k + 2)).flatMap rowF ++ trailF L) = headF s ++ ((L.take k ++ [L[k + 1]]) ++ L[k] :: L.drop (k + 2)).flatMap rowF ++ trailF L := by
    simp only [List.flatMap_append, List.flatMap_cons, List.flatMap_nil, List.append_nil, List.append_assoc]
  have hA : ∀ x ∈ (L.take k ++ [L[k + 1]]) ++ L[k] :: L.drop (k + 2), Row1 0 x := fun x hx => by
    simp only [List.mem_append, List.mem_cons, List.not_mem_nil, or_false] at hx
    rcases hx with (hx | hx) | hx | hx
    · exact h.good.each x (List.mem_of_mem_take hx)
    · rw [hx]; exact x1
    · rw [hx]; exact x0
    · exact h.good.each x (List.mem_of_mem_drop hx)
  have hsub : (L.take k ++ [L[k + 1]]).Sublist L := by
    have := sub_skip (L.take k) L[k] L[k + 1] (L.drop (k + 2))
    rw [← d2, ← d1, List.take_append_drop] at this
    exact this
  have hrise : less L[k] L[k + 1] = true := List.pairwise_iff_getElem.1 h.good.rise k (k + 1) (by omega) hk (by omega)
  rw [e2, file_lines h.s0 h.s1 hA h.good.each h.good.len, List.map_append, List.map_cons, List.append_assoc, List.cons_append]
  have e := turn_stop (r := (L.drop (k + 2)).map rowF ++ [trailF L]) (x := L[k]) ⟨h.s0, h.s1⟩ (h.good.sub hsub) (by rw [List.length_append, List.length_take, List.length_singleton]; omega) x0 ⟨L[k + 1], by simp, less_asymm hrise⟩
  rw [List.length_append, List.length_take, List.length_singleton, Nat.min_eq_left (by omega)] at e
  rw [e]
/-- A row's line left out. -/
theorem less_file {s : Int} {L : List R} (h : Valid 0 s L) {k : Nat} (hk : k < L.length) (hl : L.length ≤ 100) :
    parseM ((fileL s L).take (20 + 29 * k) ++ (fileL s L).drop (49 + 29 * k)) = .error (L.length + 1, 2, 4) := by
  have h1 := (file_cut h (show k ≤ L.length by omega)).1
  have h2 := (file_cut h (show k + 1 ≤ L.length by omega)).2
  rw [show 20 + 29 * (k + 1) = 49 + 29 * k by omega] at h2
  have flen := file_len h
  unfold parseM
  rw [if_neg (by rw [List.length_append, List.length_take, List.length_drop]; omega), h1, h2]
  have e2 : headF s ++ (L.take k).flatMap rowF ++ ((L.drop (k + 1)).flatMap rowF ++ trailF L) = headF s ++ (L.take k ++ L.drop (k + 1)).flatMap rowF ++ trailF L := by
    rw [List.flatMap_append]; simp only [List.append_assoc]
  have hsub : (L.take k ++ L.drop (k + 1)).Sublist L := by
    have e : L = L.take k ++ L.drop k := (List.take_append_drop k L).symm
    conv => rhs; rw [e]
    refine List.Sublist.append (List.Sublist.refl _) ?_
    rw [List.drop_eq_getElem_cons hk]
    exact List.Sublist.cons _ (List.Sublist.refl _)
  have hg := h.good.sub hsub
  have hlen : (L.take k ++ L.drop (k + 1)).length + 1 = L.length := by rw [List.length_append, List.length_take, List.length_drop]; omega
  rw [e2, file_lines h.s0 h.s1 hg.each h.good.each h.good.len]
  have e := (runs_head h.s0 h.s1 hg).run [trailF L]
  rw [List.cons_append] at e
  rw [e]
  unfold runL
  rw [step_trail h.good.each h.good.len rfl (by show 0 < 1 + _; omega), if_pos (show (L.take k ++ L.drop (k + 1)).length ≠ L.length by omega)]
  simp only [Except.error.injEq, Prod.mk.injEq, and_true]
  omega
theorem long_text {t : Bt} (h : 65536 < t.length) : parseM t = .error (1, 1, 8) := by unfold parseM; rw [if_pos h]
end Stl
end Go.Proofs.YtomonhghioamfaaGreatDoor
namespace Go.Proofs.YtomonhghioamfaaGreatDoor
open Go Ky Rw Stl
def sA : List UInt8 := [72, 80, 65, 89, 77, 69, 78, 84, 32, 48, 48, 48, 48, 48, 48, 48, 48, 48, 53, 10]
def sB : List UInt8 := [68, 48, 48, 48, 51, 99, 104, 97, 114, 103, 101, 32, 32, 68, 48, 48, 48, 48, 48, 48, 48, 48, 48, 48, 48, 51, 48, 48, 10]
def sC : List UInt8 := [84, 48, 48, 48, 48, 48, 49, 48, 48, 48, 48, 48, 48, 48, 48, 48, 48, 48, 48, 48, 51, 48, 48, 10]
def sC2 : List UInt8 := [84, 48, 48, 48, 48, 48, 50, 48, 48, 48, 48, 48, 48, 48, 48, 48, 48, 48, 48, 48, 51, 48, 48, 10]
def sSh : List UInt8 := [68, 48, 48, 48, 51, 115, 104, 105, 112, 32, 32, 32, 32, 68, 48, 48, 48, 48, 48, 48, 48, 48, 48, 48, 48, 51, 48, 48, 10]
def sHd : List UInt8 := [72, 80, 65, 89, 77, 69, 78, 84, 32, 48, 48, 48, 48, 48, 48, 48, 48, 48, 53]
def oneR : R := ⟨3, 1, 1, 300, 0⟩
theorem set_valid : validB 0 5 [oneR] = true := by decide +kernel
theorem set_file : fileL 5 [oneR] = sA ++ sB ++ sC := by decide +kernel
theorem set_yes : parseM (sA ++ sB ++ sC) = .ok (5, [oneR]) := by rw [← set_file]; exact parse_file (valid_iff.1 set_valid)
theorem set_no1 : parseM (sA ++ sB ++ sC2) = .error (3, 2, 4) := by kernel_rfl
theorem set_no2 : parseM (sA ++ sB) = .error (3, 1, 7) := by kernel_rfl
theorem set_no3 : parseM (sA ++ sB ++ sC ++ [120]) = .error (4, 1, 7) := by kernel_rfl
theorem set_no4 : parseM (sA ++ sSh ++ sC) = .error (2, 6, 3) := by kernel_rfl
theorem set_no5 : parseM sHd = .error (1, 20, 1) := by kernel_rfl
end Go.Proofs.YtomonhghioamfaaGreatDoor
namespace Go.Proofs.YtomonhghioamfaaGreatDoor
open Go.ChangeShapes Go.WideShapes Go.ChangeAt Go.RowKit Ky Rw Stl

theorem sl_no (S : ByteArray) (a b : Nat) (c : Int) (w : World) (hp : HasP w) (hs : S.size ≤ maxLen) (h : parseM S.data.toList = .error (a, b, c)) :
    Calls Tryz.prog 7 #[.string S] w fun e w' => e = .returned (.tuple #[stV 0 0 (.slice none 0 0), .agg #[.int .i64 (a : Int), .int .i64 (b : Int), .int .i64 c]]) ∧ Keeps w w' := by
  refine (se_parse S w hp hs).mono fun e w' ho => ?_
  rcases ho with ⟨s, L, v, h1, _⟩ | ⟨a', b', c', h1, h2, k⟩
  · rw [h] at h1; cases h1
  · rw [h] at h1
    cases h1
    exact ⟨h2, k⟩
theorem sl_yes (S : ByteArray) (s : Int) (L : List R) (w : World) (hp : HasP w) (hs : S.size ≤ maxLen) (h : parseM S.data.toList = .ok (s, L)) :
    Calls Tryz.prog 7 #[.string S] w fun e w' => ∃ v, e = .returned (.tuple #[stV 0 s v, .agg #[.int .i64 0, .int .i64 0, .int .i64 0]]) ∧ RowsIn w' v L ∧ Keeps w w' := by
  refine (se_parse S w hp hs).mono fun e w' ho => ?_
  rcases ho with ⟨s', L', v, h1, h2, h3, k⟩ | ⟨a', b', c', h1, _⟩
  · rw [h] at h1
    cases h1
    exact ⟨v, h2, h3, k⟩
  · rw [h] at h1; cases h1
/-- Both results of Parse, each in a box of the law's own. -/
theorem two_rj (w1 : World) (x0 x1 x2 y0 y1 y2 : Value) : ∀ W, Keeps ((w1.alloc (.cells #[x0, x1, x2] tSt)).alloc (.cells #[y0, y1, y2] tRj)) W →
    ((W.cell? ⟨w1.heap.size, 0, none⟩ = some x0 ∧ W.cell? ⟨w1.heap.size, 1, none⟩ = some x1 ∧ W.cell? ⟨w1.heap.size, 2, none⟩ = some x2) ∧ (W.cell? ⟨w1.heap.size + 1, 0, none⟩ = some y0 ∧ W.cell? ⟨w1.heap.size + 1, 1, none⟩ = some y1 ∧ W.cell? ⟨w1.heap.size + 1, 2, none⟩ = some y2)) ∧ Keeps w1 W := fun W k => by
  have s1 : (w1.alloc (.cells #[x0, x1, x2] tSt)).heap.size = w1.heap.size + 1 := by simp
  have n1 := heap_alloc_new (w1.alloc (.cells #[x0, x1, x2] tSt)) (.cells #[y0, y1, y2] tRj)
  rw [s1] at n1
  have k1 := Keeps.trans (ky_box (w1.alloc (.cells #[x0, x1, x2] tSt)) (.cells #[y0, y1, y2] tRj)) k
  have e0 := (k1.block w1.heap.size (by simp)).trans (heap_alloc_new w1 (.cells #[x0, x1, x2] tSt))
  have e1 := (k.block (w1.heap.size + 1) (by simp)).trans n1
  exact ⟨⟨(three_atG e0).1, (three_atG e1).1⟩, Keeps.trans (ky_box w1 _) k1⟩
theorem row_lit (w : World) (x : R) : RowsIn (w.alloc (.cells #[.int .i64 x.o, .int .i64 x.d, .int .i64 x.c, .int .i64 x.a, .int .i64 x.q] tRw)) (.slice (some ⟨w.heap.size, 0, none⟩) 1 1) [x] := by
  refine ⟨_, 1, rfl, by simp [maxLen], ⟨Nat.le_refl _, fun e => by cases e⟩, fun j y hy => ⟨_, rfl, ?_⟩⟩
  have hj : j = 0 := by
    have := (List.getElem?_eq_some_iff.1 hy).1
    simp at this; omega
  subst hj
  cases hy
  rw [addr_of]
  obtain ⟨a0, a1, a2, a3, a4⟩ := rw_cells w x _ (Keeps.refl _)
  exact ⟨a0, a1, a2, a3, a4⟩
theorem same_zero : sameB 0 0 0 0 [] [] = true := by decide
set_option maxHeartbeats 4000000 in
set_option maxRecDepth 100000 in
theorem sl_bad (S : ByteArray) (a b : Nat) (c : Int) (w : World) (hp : HasP w) (hs : S.size ≤ maxLen) (h : parseM S.data.toList = .error (a, b, c)) (A B : Int) (hA : A = (a : Int)) (hB : B = (b : Int)) :
    Calls Tryz.prog 17 #[.string S, .int .i64 A, .int .i64 B, .int .i64 c] w fun e w' => e = .returned (.bool true) ∧ Keeps w w' := by
  subst hA hB
  have C1 := Lib.hid (sl_no S a b c w hp hs h)
  have C2 : Hid (∀ W, Calls Tryz.prog 9 #[stV 0 0 (.slice none 0 0), stV 0 0 (.slice none 0 0)] W fun e w' => e = .returned (.bool true) ∧ Keeps W w') := Lib.hid fun W => same_zero ▸ rr_same 0 0 0 0 _ _ [] [] W (rows_nil W) (rows_nil W)
  clear h hp hs
  unfold stV at C1 C2
  go_enter Tryz.func17, Tryz.ntmps17
  go_wp2_with fail
  refine C1.out.mono ?_
  rintro e w1 ⟨rfl, k1⟩
  have K1 := Lib.hid k1
  have TW := Lib.hid (two_rj w1 (.int .i64 0) (.int .i64 0) (.slice none 0 0) (.int .i64 (a : Int)) (.int .i64 (b : Int)) (.int .i64 c))
  clear k1 C1
  go_wp2_with fail
  refine (C2.out _).mono ?_
  rintro e w2 ⟨rfl, k2⟩
  obtain ⟨⟨_, y0, y1, y2⟩, k3⟩ := TW.out _ k2
  have K3 := Lib.hid (Keeps.trans K1.out k3)
  clear k2 k3 C2 TW
  go_wp2
  go_ret
  exact ⟨rfl, K3.out⟩
set_option maxHeartbeats 16000000 in
set_option maxRecDepth 100000 in
theorem sl_settled (w : World) (hp : HasP w) : Calls Tryz.prog 5 #[] w fun e w' => e = .returned (.bool true) ∧ Keeps w w' := by
  obtain ⟨A, hA⟩ : ∃ A : ByteArray, A = ⟨#[72, 80, 65, 89, 77, 69, 78, 84, 32, 48, 48, 48, 48, 48, 48, 48, 48, 48, 53, 10]⟩ := ⟨_, rfl⟩
  obtain ⟨B, hB⟩ : ∃ A : ByteArray, A = ⟨#[68, 48, 48, 48, 51, 99, 104, 97, 114, 103, 101, 32, 32, 68, 48, 48, 48, 48, 48, 48, 48, 48, 48, 48, 48, 51, 48, 48, 10]⟩ := ⟨_, rfl⟩
  obtain ⟨C, hC⟩ : ∃ A : ByteArray, A = ⟨#[84, 48, 48, 48, 48, 48, 49, 48, 48, 48, 48, 48, 48, 48, 48, 48, 48, 48, 48, 48, 51, 48, 48, 10]⟩ := ⟨_, rfl⟩
  obtain ⟨AB, hAB⟩ : ∃ X, A ++ B = X := ⟨_, rfl⟩
  obtain ⟨ABC, hABC⟩ : ∃ X, AB ++ C = X := ⟨_, rfl⟩
  obtain ⟨ABD, hABD⟩ : ∃ X, AB ++ ⟨#[84, 48, 48, 48, 48, 48, 50, 48, 48, 48, 48, 48, 48, 48, 48, 48, 48, 48, 48, 48, 51, 48, 48, 10]⟩ = X := ⟨_, rfl⟩
  obtain ⟨ABX, hABX⟩ : ∃ X, ABC ++ ⟨#[120]⟩ = X := ⟨_, rfl⟩
  obtain ⟨AS, hAS⟩ : ∃ X, A ++ ⟨#[68, 48, 48, 48, 51, 115, 104, 105, 112, 32, 32, 32, 32, 68, 48, 48, 48, 48, 48, 48, 48, 48, 48, 48, 48, 51, 48, 48, 10]⟩ = X := ⟨_, rfl⟩
  obtain ⟨ASC, hASC⟩ : ∃ X, AS ++ C = X := ⟨_, rfl⟩
  have lA : A.data.toList = sA := by rw [hA]; rfl
  have lB : B.data.toList = sB := by rw [hB]; rfl
  have lC : C.data.toList = sC := by rw [hC]; rfl
  have lAB : AB.data.toList = sA ++ sB := by rw [← hAB, ByteArray.data_append, Array.toList_append, lA, lB]
  have lABC : ABC.data.toList = sA ++ sB ++ sC := by rw [← hABC, ByteArray.data_append, Array.toList_append, lAB, lC]
  have lABD : ABD.data.toList = sA ++ sB ++ sC2 := by rw [← hABD, ByteArray.data_append, Array.toList_append, lAB]; rfl
  have lABX : ABX.data.toList = sA ++ sB ++ sC ++ [120] := by rw [← hABX, ByteArray.data_append, Array.toList_append, lABC]
  have lAS : AS.data.toList = sA ++ sSh := by rw [← hAS, ByteArray.data_append, Array.toList_append, lA]; rfl
  have lASC : ASC.data.toList = sA ++ sSh ++ sC := by rw [← hASC, ByteArray.data_append, Array.toList_append, lAS, lC]
  have zA : A.size = 20 := by rw [hA]; rfl
  have zB : B.size = 29 := by rw [hB]; rfl
  have zC : C.size = 24 := by rw [hC]; rfl
  have zAB : AB.size = 49 := by rw [← hAB, ByteArray.size_append, zA, zB]
  have zABC : ABC.size = 73 := by rw [← hABC, ByteArray.size_append, zAB, zC]
  have zABD : ABD.size = 73 := by rw [← hABD, ByteArray.size_append, zAB]; rfl
  have zABX : ABX.size = 74 := by rw [← hABX, ByteArray.size_append, zABC]; rfl
  have zAS : AS.size = 49 := by rw [← hAS, ByteArray.size_append, zA]; rfl
  have zASC : ASC.size = 73 := by rw [← hASC, ByteArray.size_append, zAS, zC]
  have n1 : ¬ (9223372036854775807 < A.size + B.size) := by omega
  have n2 : ¬ (9223372036854775807 < AB.size + C.size) := by omega
  have n3 : ¬ (9223372036854775807 < AB.size + 24) := by omega
  have n4 : ¬ (9223372036854775807 < ABC.size + 1) := by omega
  have n5 : ¬ (9223372036854775807 < A.size + 29) := by omega
  have n6 : ¬ (9223372036854775807 < AS.size + C.size) := by omega
  have PT : Hid (prtS 0 5 [oneR] = ABC ∧ prtC 0 5 [oneR] = 0) := Lib.hid (by
    have hv : (0 : Int) = 0 ∧ validB 0 5 [oneR] = true := ⟨rfl, set_valid⟩
    unfold prtS Stl.prt prtC
    rw [if_pos hv, if_pos hv]
    exact ⟨bytes_inj (by rw [data_mk, lABC, set_file]), rfl⟩)
  have HP : Hid (∀ W, Keeps w W → HasP W) := Lib.hid fun W k => hp.keeps k
  have CY : Hid (∀ W, Keeps w W → Calls Tryz.prog 7 #[.string ABC] W fun e w' => ∃ v, e = .returned (.tuple #[stV 0 5 v, .agg #[.int .i64 0, .int .i64 0, .int .i64 0]]) ∧ RowsIn w' v [oneR] ∧ Keeps W w') := Lib.hid fun W k => sl_yes ABC 5 [oneR] W (hp.keeps k) (by unfold maxLen; omega) (by rw [lABC]; exact set_yes)
  have B1 : Hid (∀ W, Keeps w W → Calls Tryz.prog 17 #[.string ABD, .int .i64 3, .int .i64 2, .int .i64 4] W fun e w' => e = .returned (.bool true) ∧ Keeps W w') := Lib.hid fun W k => sl_bad ABD 3 2 4 W (hp.keeps k) (by unfold maxLen; omega) (by rw [lABD]; exact set_no1) 3 2 rfl rfl
  have B2 : Hid (∀ W, Keeps w W → Calls Tryz.prog 17 #[.string AB, .int .i64 3, .int .i64 1, .int .i64 7] W fun e w' => e = .returned (.bool true) ∧ Keeps W w') := Lib.hid fun W k => sl_bad AB 3 1 7 W (hp.keeps k) (by unfold maxLen; omega) (by rw [lAB]; exact set_no2) 3 1 rfl rfl
  have B3 : Hid (∀ W, Keeps w W → Calls Tryz.prog 17 #[.string ABX, .int .i64 4, .int .i64 1, .int .i64 7] W fun e w' => e = .returned (.bool true) ∧ Keeps W w') := Lib.hid fun W k => sl_bad ABX 4 1 7 W (hp.keeps k) (by unfold maxLen; omega) (by rw [lABX]; exact set_no3) 4 1 rfl rfl
  have B4 : Hid (∀ W, Keeps w W → Calls Tryz.prog 17 #[.string ASC, .int .i64 2, .int .i64 6, .int .i64 3] W fun e w' => e = .returned (.bool true) ∧ Keeps W w') := Lib.hid fun W k => sl_bad ASC 2 6 3 W (hp.keeps k) (by unfold maxLen; omega) (by rw [lASC]; exact set_no4) 2 6 rfl rfl
  have B5 : Hid (∀ W, Keeps w W → Calls Tryz.prog 17 #[.string ⟨#[72, 80, 65, 89, 77, 69, 78, 84, 32, 48, 48, 48, 48, 48, 48, 48, 48, 48, 53]⟩, .int .i64 1, .int .i64 20, .int .i64 1] W fun e w' => e = .returned (.bool true) ∧ Keeps W w') := Lib.hid fun W k => sl_bad ⟨#[72, 80, 65, 89, 77, 69, 78, 84, 32, 48, 48, 48, 48, 48, 48, 48, 48, 48, 53]⟩ 1 20 1 W (hp.keeps k) (by unfold maxLen; decide) set_no5 1 20 rfl rfl
  have RL := Lib.hid (row_lit w oneR)
  unfold oneR at RL
  have KR := Lib.hid (ky_box w (.cells #[.int .i64 3, .int .i64 1, .int .i64 1, .int .i64 300, .int .i64 0] tRw))
  have KS := Lib.hid (ky_box (w.alloc (.cells #[.int .i64 3, .int .i64 1, .int .i64 1, .int .i64 300, .int .i64 0] tRw)) (.cells #[.int .i64 0, .int .i64 5, .slice (some ⟨w.heap.size, 0, none⟩) 1 1] tSt))
  have CS := Lib.hid (st_cells (w.alloc (.cells #[.int .i64 3, .int .i64 1, .int .i64 1, .int .i64 300, .int .i64 0] tRw)) 0 5 (.slice (some ⟨w.heap.size, 0, none⟩) 1 1))
  unfold stBox at CS
  rw [show (w.alloc (.cells #[.int .i64 3, .int .i64 1, .int .i64 1, .int .i64 300, .int .i64 0] tRw)).heap.size = w.heap.size + 1 by simp] at CS
  clear lA lB lC lAB lABC lABD lABX lAS lASC zA zB zC zAB zABC zABD zABX zAS zASC hp
  have HA := Lib.hid hA
  have HB := Lib.hid hB
  have HC := Lib.hid hC
  clear hA hB hC
  go_enter Tryz.func5, Tryz.ntmps5
  go_wp2_with fail
  rw [← HA.out, ← HB.out, ← HC.out]
  have CP := Lib.hid (se_print 0 5 (.slice (some ⟨w.heap.size, 0, none⟩) 1 1) [oneR] _ (RL.out.keeps KS.out) (HP.out _ (Keeps.trans KR.out KS.out)))
  rw [PT.out.1, PT.out.2] at CP
  unfold stV at CP
  refine CP.out.mono ?_
  rintro e w1 ⟨rfl, k1⟩
  have K1 := Lib.hid (Keeps.trans (Keeps.trans KR.out KS.out) k1)
  have KS1 := Lib.hid k1
  clear k1 CP
  go_wp2_with fail
  unfold stV at CY
  refine (CY.out _ K1.out).mono ?_
  rintro e w2 ⟨v2, rfl, r2, k2⟩
  have R2 : Hid (∀ W, Keeps w2 W → RowsIn W v2 [oneR]) := Lib.hid fun W k => r2.keeps k
  obtain ⟨p2, c2, e2, _⟩ := r2
  subst e2
  have K2 := Lib.hid (Keeps.trans K1.out k2)
  have KS2 := Lib.hid (Keeps.trans KS1.out k2)
  clear k2 CY
  go_upto_region 5 with (fail)
  have TW := Lib.hid (two_rj w2 (.int .i64 0) (.int .i64 5) (.slice p2 1 c2) (.int .i64 0) (.int .i64 0) (.int .i64 0))
  obtain ⟨U, hU⟩ : ∃ U, (w2.alloc (.cells #[.int .i64 0, .int .i64 5, .slice p2 1 c2] tSt)).alloc (.cells #[.int .i64 0, .int .i64 0, .int .i64 0] tRj) = U := ⟨_, rfl⟩
  rw [hU] at TW ⊢
  clear hU
  obtain ⟨⟨⟨t0, t1, t2⟩, _⟩, ku⟩ := TW.out U (Keeps.refl _)
  have KU := Lib.hid ku
  obtain ⟨s0, s1, s2⟩ := CS.out U (Keeps.trans KS2.out ku)
  have CM : Hid (Calls Tryz.prog 9 #[stV 0 5 (.slice (some ⟨w.heap.size, 0, none⟩) 1 1), stV 0 5 (.slice p2 1 c2)] U fun e w' => e = .returned (.bool true) ∧ Keeps U w') := Lib.hid (by
    have := rr_same 0 5 0 5 (.slice (some ⟨w.heap.size, 0, none⟩) 1 1) (.slice p2 1 c2) [oneR] [oneR] U (RL.out.keeps (Keeps.trans KS.out (Keeps.trans KS2.out ku))) (R2.out U ku)
    rw [show sameB 0 5 0 5 [oneR] [oneR] = true by decide] at this
    exact this)
  unfold stV at CM
  clear ku
  go_wp2_with fail
  refine CM.out.mono ?_
  rintro e w3 ⟨rfl, k3⟩
  obtain ⟨⟨_, y0, y1, y2⟩, ku⟩ := TW.out w3 k3
  have K3 := Lib.hid (Keeps.trans K2.out ku)
  clear k3 ku CM t0 t1 t2 s0 s1 s2
  go_wp2_with fail
  refine (B1.out _ K3.out).mono ?_
  rintro e w4 ⟨rfl, k4⟩
  have K4 := Lib.hid (Keeps.trans K3.out k4)
  clear k4 B1 y0 y1 y2
  go_wp2_with fail
  refine (B2.out _ K4.out).mono ?_
  rintro e w5 ⟨rfl, k5⟩
  have K5 := Lib.hid (Keeps.trans K4.out k5)
  clear k5 B2
  go_wp2_with fail
  refine (B3.out _ K5.out).mono ?_
  rintro e w6 ⟨rfl, k6⟩
  have K6 := Lib.hid (Keeps.trans K5.out k6)
  clear k6 B3
  go_wp2_with fail
  refine (B4.out _ K6.out).mono ?_
  rintro e w7 ⟨rfl, k7⟩
  have K7 := Lib.hid (Keeps.trans K6.out k7)
  clear k7 B4
  go_wp2_with fail
  refine (B5.out _ K7.out).mono ?_
  rintro e w8 ⟨rfl, k8⟩
  have K8 := Lib.hid (Keeps.trans K7.out k8)
  clear k8 B5
  go_wp2
  go_ret
  exact ⟨rfl, K8.out⟩
end Go.Proofs.YtomonhghioamfaaGreatDoor
