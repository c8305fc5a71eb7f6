
/- The payment's files: what is printed is parsed; what is parsed is printed. -/
import Derived.Test.YtomonhghioamfaaGreatDoorStMath2
set_option linter.unusedVariables false
namespace Go.Proofs.YtomonhghioamfaaGreatDoor
open Go Ky Rw
namespace Stl

/-- All these lines are gone through. -/
inductive Runs : PS → List Bt → PS → Prop
  | nil (st : PS) : Runs st [] st
  | cons {st st1 st2 : PS} {l : Bt} {ls : List Bt} : step st l = .ok st1 → Runs st1 ls st2 → Runs st (l :: ls) st2
theorem Runs.run {st st' : PS} {ls : List Bt} (h : Runs st ls st') (r : List Bt) : runL st (ls ++ r) = runL st' r := by
  induction h with
  | nil st => rfl
  | cons h1 _ ih => rw [List.cons_append, runL, h1]; exact ih
theorem Runs.trans {a b c : PS} {l m : List Bt} (h : Runs a l b) (g : Runs b m c) : Runs a (l ++ m) c := by
  induction h with
  | nil st => exact g
  | cons h1 _ ih => exact Runs.cons h1 (ih g)
theorem Runs.one {a b : PS} {l : Bt} (h : step a l = .ok b) : Runs a [l] b := Runs.cons h (Runs.nil b)
theorem last_less {M : List R} {x : R} (h : ∀ y ∈ M, less y x = true) : ¬ ∃ y, M.getLast? = some y ∧ less y x = false := by
  rintro ⟨y, h1, h2⟩
  rw [h y (List.mem_of_getLast? h1)] at h2
  cases h2
theorem run_rows : ∀ (L M : List R) (n : Nat) (s : Int), Rw.Good 0 (M ++ L) → 0 < n → Runs ⟨n, s, M, false⟩ (L.map rowF) ⟨n + L.length, s, M ++ L, false⟩
  | [], M, n, s, _, _ => by rw [List.append_nil]; exact Runs.nil _
  | x :: L, M, n, s, h, hn => by
    have hx := h.each x (by simp)
    have hl := h.len
    rw [List.length_append, List.length_cons] at hl
    have hp := (List.pairwise_append.1 h.rise).2.2
    have e := step_row hx (st := ⟨n, s, M, false⟩) rfl hn (show M.length < 400 by omega)
    rw [if_neg (last_less fun y hy => hp y hy x (by simp))] at e
    have ih := run_rows L (M ++ [x]) (n + 1) s (by rw [List.append_assoc]; exact h) (by omega)
    rw [List.append_assoc] at ih
    have e2 : n + 1 + L.length = n + (x :: L).length := by rw [List.length_cons]; omega
    rw [e2] at ih
    exact Runs.cons e ih
theorem lines_line {W : List Int} {F : List Bt} {k : UInt8} {l b : Bt} (h : LineIs W F k l b) (u : Bt) : linesL (l ++ u) = l :: linesL u := by
  rw [h.line]
  exact lines_whole h.no10
def Fine (l : Bt) : Prop := ∃ W F k b, LineIs W F k l b
theorem lines_of : ∀ {Ls : List Bt} (u : Bt), (∀ l ∈ Ls, Fine l) → linesL (Ls.flatten ++ u) = Ls ++ linesL u
  | [], u, _ => rfl
  | l :: Ls, u, h => by
    obtain ⟨W, F, k, b, hb⟩ := h l (by simp)
    rw [List.flatten_cons, List.append_assoc, lines_line hb, lines_of u fun m hm => h m (by simp [hm])]
    rfl
def fLines (s : Int) (L : List R) : List Bt := headF s :: (L.map rowF ++ [trailF L])
theorem file_flat (s : Int) (L : List R) : (fLines s L).flatten = fileL s L := by
  unfold fLines fileL
  rw [List.flatten_cons, List.flatten_append, List.flatMap_def]
  simp
theorem fine_rows {L : List R} (h : ∀ x ∈ L, Row1 0 x) : ∀ l ∈ L.map rowF, Fine l := fun l hl => by
  obtain ⟨x, hx, rfl⟩ := List.mem_map.1 hl
  obtain ⟨b, hb⟩ := row_is (h x hx)
  exact ⟨_, _, _, _, hb⟩
theorem fine_head {s : Int} (h0 : 1 ≤ s) (h1 : s ≤ 1073741824) : Fine (headF s) := by
  obtain ⟨b, hb⟩ := head_is h0 h1
  exact ⟨_, _, _, _, hb⟩
theorem fine_trail {L : List R} (h : ∀ x ∈ L, Row1 0 x) (hl : L.length ≤ 400) : Fine (trailF L) := by
  obtain ⟨b, hb⟩ := trail_is h hl
  exact ⟨_, _, _, _, hb⟩
theorem fine_all {s : Int} {L : List R} (h : Valid 0 s L) : ∀ l ∈ fLines s L, Fine l := fun l hl => by
  unfold fLines at hl
  rcases List.mem_cons.1 hl with rfl | hl
  · exact fine_head h.s0 h.s1
  · rcases List.mem_append.1 hl with hl | hl
    · exact fine_rows h.good.each l hl
    · rw [List.mem_singleton.1 hl]
      exact fine_trail h.good.each h.good.len
theorem head_len {s : Int} (h0 : 1 ≤ s) (h1 : s ≤ 1073741824) : (headF s).length = 20 := by
  obtain ⟨b, hb⟩ := head_is h0 h1
  rw [hb.line, List.length_append, hb.len]
  rfl
theorem row_len {x : R} (h : Row1 0 x) : (rowF x).length = 29 := by
  obtain ⟨b, hb⟩ := row_is h
  rw [hb.line, List.length_append, hb.len]
  rfl
theorem trail_len {L : List R} (h : ∀ x ∈ L, Row1 0 x) (hl : L.length ≤ 400) : (trailF L).length = 24 := by
  obtain ⟨b, hb⟩ := trail_is h hl
  rw [hb.line, List.length_append, hb.len]
  rfl
theorem rows_len : ∀ {L : List R}, (∀ x ∈ L, Row1 0 x) → (L.flatMap rowF).length = 29 * L.length
  | [], _ => rfl
  | x :: L, h => by
    rw [List.flatMap_cons, List.length_append, row_len (h x (by simp)), rows_len fun y hy => h y (by simp [hy]), List.length_cons]
    omega
theorem file_len {s : Int} {L : List R} (h : Valid 0 s L) : (fileL s L).length = 44 + 29 * L.length := by
  unfold fileL
  rw [List.length_append, List.length_append, head_len h.s0 h.s1, rows_len h.good.each, trail_len h.good.each h.good.len]
  omega
theorem runs_head {s : Int} (h0 : 1 ≤ s) (h1 : s ≤ 1073741824) {L : List R} (g : Rw.Good 0 L) : Runs st0 (headF s :: L.map rowF) ⟨1 + L.length, s, L, false⟩ := by
  have e := step_head h0 h1
  have r := run_rows L [] 1 s (by simpa using g) (by omega)
  rw [List.nil_append] at r
  exact Runs.cons e r
/-- What is printed is parsed. -/
theorem parse_file {s : Int} {L : List R} (h : Valid 0 s L) : parseM (fileL s L) = .ok (s, L) := by
  have hl := file_len h
  have := h.good.len
  have hln := lines_of [] (fine_all h)
  rw [file_flat, List.append_nil, linesL_nil, List.append_nil] at hln
  unfold parseM
  rw [if_neg (by omega), hln]
  have r := runs_head h.s0 h.s1 h.good
  have t := step_trail h.good.each h.good.len (st := ⟨1 + L.length, s, L, false⟩) rfl (by show 0 < 1 + L.length; omega)
  rw [if_neg (by simp), if_neg (by simp)] at t
  have r2 := r.trans (Runs.one t)
  have e : fLines s L = headF s :: L.map rowF ++ [trailF L] := rfl
  rw [e]
  have := r2.run []
  rw [List.append_nil] at this
  rw [this]
  rfl

/-! ### What is parsed is printed -/
theorem pa_ok {W : List Int} {b : Bt} (hw : Fix.okW W = true) (h : (Fix.pa W b).2 = 0) : Fix.pr W (Fix.pa W b).1 = b ∧ (Fix.pa W b).1 = Fix.cutS W b ∧ b.length = Fix.sumW W := by
  by_cases hl : b.length = Fix.sumW W
  · cases ho : Fix.odd b with
    | some k => rw [Fix.pa_odd hw hl ho] at h; cases h
    | none =>
      rw [Fix.pa_yes hw hl ho]
      exact ⟨Fix.pr_pa hw hl ho, rfl, hl⟩
  · rw [Fix.pa_long hw hl] at h
    cases h
theorem trim_one {c : UInt8} (h : c ≠ 32) : Fix.trimR [c] = [c] := Fix.trimR_self (by unfold Fix.endB; simp [h])
theorem cut_first {V : List Int} {b : Bt} {c : UInt8} (hc : kindOf b = c) (h0 : c ≠ 0) (h32 : c ≠ 32) : Fix.cutS (1 :: V) b = [c] :: Fix.cutS V (b.drop 1) := by
  cases b with
  | nil => exact absurd hc.symm h0
  | cons a r =>
    have : a = c := hc
    subst this
    show Fix.trimR ((a :: r).take 1) :: _ = _
    rw [show (a :: r).take 1 = [a] from rfl, trim_one h32]
    rfl
theorem whole_is {l : Bt} (h : wholeB l = true) : l = bodyOf l ++ [10] := by
  unfold bodyOf
  rw [if_pos h]
  unfold wholeB at h
  rw [beq_iff_eq] at h
  obtain ⟨ys, rfl⟩ := List.getLast?_eq_some_iff.1 h
  rw [List.dropLast_concat]
theorem good_snoc {p : Int} {A : List R} {x : R} (g : Rw.Good p A) (hx : Row1 p x) (hl : A.length < 400) (h : ¬ ∃ y, A.getLast? = some y ∧ less y x = false) : Rw.Good p (A ++ [x]) := by
  refine ⟨g.p0, g.p2, by rw [List.length_append, List.length_singleton]; omega, fun y hy => ?_, ?_⟩
  · rcases List.mem_append.1 hy with hy | hy
    · exact g.each y hy
    · rw [List.mem_singleton.1 hy]; exact hx
  · rw [List.pairwise_append]
    refine ⟨g.rise, by simp, fun y hy z hz => ?_⟩
    rw [List.mem_singleton.1 hz]
    cases hA : A.getLast? with
    | none => rw [List.getLast?_eq_none_iff] at hA; rw [hA] at hy; cases hy
    | some w =>
      have hw : less w x = true := by
        cases hb : less w x with
        | true => rfl
        | false => exact absurd ⟨w, hA, hb⟩ h
      obtain ⟨ys, rfl⟩ := List.getLast?_eq_some_iff.1 hA
      rcases List.mem_append.1 hy with hy | hy
      · exact less_trans ((List.pairwise_append.1 g.rise).2.2 y hy w (by simp)) hw
      · rw [List.mem_singleton.1 hy]; exact hw
theorem headC_yes {F : List Bt} (h : ¬ (headC F).1 ≠ 0) : fa F 1 = sPay ∧ 1 ≤ numI (fa F 2) 10 ∧ numI (fa F 2) 10 ≤ 1073741824 := by
  unfold headC at h
  split at h
  · simp at h
  · rename_i h1
    split at h
    · simp at h
    · rename_i h2
      exact ⟨by simpa using h1, by omega, by omega⟩
theorem rowC_yes {F : List Bt} {A : List R} (h : ¬ (rowC F A).1 ≠ 0) : A.length < 400 ∧ Row1 0 (rowR F) ∧ fieldsD (rowR F) = [[68], fa F 1, fa F 2, fa F 3, fa F 4] ∧ ¬ ∃ y, A.getLast? = some y ∧ less y (rowR F) = false := by
  unfold rowC at h
  split at h
  · simp at h
  rename_i h1
  split at h
  · simp at h
  rename_i h2
  split at h
  · simp at h
  rename_i h3
  split at h
  · simp at h
  rename_i h4
  split at h
  · simp at h
  rename_i h5
  split at h
  · simp at h
  rename_i h6
  have hb : deedB (fa F 2) = true := by
    cases hd : deedB (fa F 2) with
    | true => rfl
    | false => exact absurd (Or.inl hd) h3
  obtain ⟨w1, w2, w3⟩ := deed_of hb
  have hd : deedV (fa F 2) = 1 ∨ deedV (fa F 2) = 4 := by
    by_cases a : deedV (fa F 2) = 1
    · exact Or.inl a
    · by_cases b : deedV (fa F 2) = 4
      · exact Or.inr b
      · exact absurd (Or.inr ⟨a, b⟩) h3
  obtain ⟨n1, _⟩ := num_yes (f := fa F 1) (w := 4) rfl (by omega)
  have ha : 0 ≤ numI (fa F 4) 14 := by
    by_cases a : 0 ≤ numI (fa F 4) 14
    · exact a
    · exact absurd (Or.inl (by omega)) h5
  have ha2 : numI (fa F 4) 14 ≤ 1099511627776 := by
    by_cases a : numI (fa F 4) 14 ≤ 1099511627776
    · exact a
    · exact absurd (Or.inr (Or.inl (by omega))) h5
  obtain ⟨n4, _⟩ := num_yes (f := fa F 4) (w := 14) rfl ha
  have hz : fa F 3 = [82] → numI (fa F 4) 14 = 0 := fun e => by
    by_cases a : 0 < numI (fa F 4) 14
    · exact absurd (Or.inr (Or.inr ⟨e, a⟩)) h5
    · omega
  have hlet : letter (rowR F).c = fa F 3 := by
    unfold rowR letter
    simp only
    by_cases e : fa F 3 = [82]
    · rw [if_pos e, if_pos rfl, e]
    · rw [if_neg e, if_neg (by decide)]
      by_cases f : fa F 3 = [68]
      · exact f.symm
      · exact absurd ⟨f, e⟩ h4
  refine ⟨by omega, ⟨⟨?_, ?_, w2, w3⟩, ?_, ?_, ?_, ha, ha2, by simp [rowR], by simp [rowR], ?_, by simp [rowR]⟩, ?_, h6⟩
  · show 0 < numI (fa F 1) 4; omega
  · show numI (fa F 1) 4 < 61; omega
  · show partyK (deedV (fa F 2)) = 0
    rcases hd with e | e <;> rw [e] <;> decide
  · show 1 ≤ (if fa F 3 = [82] then (2 : Int) else 1)
    split <;> omega
  · show (if fa F 3 = [82] then (2 : Int) else 1) ≤ 2
    split <;> omega
  · intro e
    refine ⟨rfl, ?_⟩
    show (if fa F 3 = [82] then (2 : Int) else 1) ≠ 2
    split
    · rename_i e3
      exact absurd (hz e3) e
    · omega
  · unfold fieldsD
    rw [hlet]
    show [[68], Mon.pad (numI (fa F 1) 4) 4, wordB (deedV (fa F 2)), fa F 3, Mon.pad (numI (fa F 4) 14) 14] = _
    rw [n1, w1, n4]
theorem trailC_yes {F : List Bt} {A : List R} (h : ¬ (trailC F A).1 ≠ 0) : fa F 1 = Mon.pad (A.length : Int) 6 ∧ fa F 2 = Mon.pad (totA A) 16 := by
  unfold trailC at h
  split at h
  · simp at h
  rename_i h1
  split at h
  · simp at h
  rename_i h2
  split at h
  · simp at h
  rename_i h3
  split at h
  · simp at h
  rename_i h4
  have e1 : numI (fa F 1) 6 = (A.length : Int) := by simpa using h2
  have e2 : numI (fa F 2) 16 = totA A := by simpa using h4
  exact ⟨(num_yes e1 (by omega)).1.symm, (num_yes e2 (by omega)).1.symm⟩
/-- What has been gone through. -/
def Inv (st : PS) (pre : Bt) : Prop :=
  (st.n = 0 ∧ st.rows = [] ∧ st.ended = false ∧ pre = []) ∨ (0 < st.n ∧ Valid 0 st.seq st.rows ∧ pre = headF st.seq ++ st.rows.flatMap rowF ++ (if st.ended = true then trailF st.rows else []))
theorem good_nil : Rw.Good 0 [] := ⟨by omega, by omega, by simp, by simp, by simp⟩
theorem three_of {F : List Bt} (h : F.length = 3) : F = [fa F 0, fa F 1, fa F 2] := by
  match F, h with
  | [a, b, c], _ => rfl
theorem five_of {F : List Bt} (h : F.length = 5) : F = [fa F 0, fa F 1, fa F 2, fa F 3, fa F 4] := by
  match F, h with
  | [a, b, c, d, e], _ => rfl
theorem step_inv {st st' : PS} {l pre : Bt} (h : step st l = .ok st') (hi : Inv st pre) : Inv st' (pre ++ l) := by
  unfold step at h
  split at h
  · cases h
  rename_i h1
  split at h
  · cases h
  rename_i h2
  split at h
  · cases h
  rename_i h3
  have hw : wholeB l = true := by
    cases hb : wholeB l with
    | true => rfl
    | false => exact absurd hb h3
  have hl := whole_is hw
  have h2' : (Fix.pa (widthsOf (kindOf (bodyOf l))) (bodyOf l)).2 = 0 := by simpa using h2
  have he : st.ended = false := by
    cases hb : st.ended with
    | false => rfl
    | true => exact absurd (Or.inl hb) h1
  split at h
  · rename_i hk
    have hn : st.n = 0 := by
      by_cases a : st.n = 0
      · exact a
      · exact absurd (Or.inr (Or.inr ⟨by omega, by rw [hk]; decide, by rw [hk]; decide⟩)) h1
    rw [hk] at h2'
    have hwid : widthsOf 72 = wH := by decide
    rw [hwid] at h2'
    obtain ⟨q1, q2, _⟩ := pa_ok okH h2'
    split at h
    · cases h
    rename_i hc
    obtain ⟨c1, c2, c3⟩ := headC_yes hc
    cases h
    rcases hi with ⟨_, i2, _, rfl⟩ | ⟨i1, _⟩
    · refine Or.inr ⟨by simp, ⟨c2, c3, ?_⟩, ?_⟩
      · show Rw.Good 0 st.rows
        rw [i2]; exact good_nil
      · show [] ++ l = headF _ ++ st.rows.flatMap rowF ++ _
        rw [i2, if_neg (by simp)]
        simp only [List.nil_append, List.flatMap_nil, List.append_nil]
        have hF := three_of (F := (Fix.pa wH (bodyOf l)).1) (by rw [q2, Fix.cutS_len]; rfl)
        have f0 : fa (Fix.pa wH (bodyOf l)).1 0 = [72] := by
          rw [q2]
          show fa (Fix.cutS (1 :: [8, 10]) (bodyOf l)) 0 = [72]
          rw [cut_first hk (by decide) (by decide)]
          rfl
        unfold headF
        have e2 := (num_yes (f := fa (Fix.pa wH (bodyOf l)).1 2) (w := 10) rfl (by omega)).1
        rw [e2, ← c1, ← f0, ← hF, q1, ← hl]
    · omega
  · rename_i hk
    have hn : 0 < st.n := by
      by_cases a : st.n = 0
      · exact absurd (Or.inr (Or.inl ⟨a, hk⟩)) h1
      · omega
    rcases hi with ⟨i1, _⟩ | ⟨_, i2, i3⟩
    · omega
    rw [he, if_neg (by simp), List.append_nil] at i3
    split at h
    · rename_i hk2
      rw [hk2] at h2'
      have hwid : widthsOf 68 = wD := by decide
      rw [hwid] at h2'
      obtain ⟨q1, q2, _⟩ := pa_ok okD h2'
      split at h
      · cases h
      rename_i hc
      obtain ⟨c1, c2, c3, c4⟩ := rowC_yes hc
      cases h
      refine Or.inr ⟨by simp, ⟨i2.s0, i2.s1, good_snoc i2.good c2 c1 c4⟩, ?_⟩
      show pre ++ l = headF st.seq ++ (st.rows ++ [_]).flatMap rowF ++ _
      rw [if_neg (by simp), List.append_nil, List.flatMap_append, i3, ← List.append_assoc]
      congr 1
      simp only [List.flatMap_cons, List.flatMap_nil, List.append_nil]
      have hF := five_of (F := (Fix.pa wD (bodyOf l)).1) (by rw [q2, Fix.cutS_len]; rfl)
      have f0 : fa (Fix.pa wD (bodyOf l)).1 0 = [68] := by
        rw [q2]
        show fa (Fix.cutS (1 :: [4, 8, 1, 14]) (bodyOf l)) 0 = [68]
        rw [cut_first hk2 (by decide) (by decide)]
        rfl
      show l = Fix.pr wD (fieldsD _) ++ [10]
      rw [c3, ← f0, ← hF, q1, ← hl]
    · rename_i hk2
      have hk3 : kindOf (bodyOf l) = 84 := by
        by_cases a : kindOf (bodyOf l) = 84
        · exact a
        · exact absurd (Or.inr (Or.inr ⟨hn, hk2, a⟩)) h1
      rw [hk3] at h2'
      have hwid : widthsOf 84 = wT := by decide
      rw [hwid] at h2'
      obtain ⟨q1, q2, _⟩ := pa_ok okT h2'
      split at h
      · cases h
      rename_i hc
      obtain ⟨c1, c2⟩ := trailC_yes hc
      cases h
      refine Or.inr ⟨by simp, i2, ?_⟩
      show pre ++ l = headF st.seq ++ st.rows.flatMap rowF ++ _
      rw [if_pos rfl, i3]
      congr 1
      have hF := three_of (F := (Fix.pa wT (bodyOf l)).1) (by rw [q2, Fix.cutS_len]; rfl)
      have f0 : fa (Fix.pa wT (bodyOf l)).1 0 = [84] := by
        rw [q2]
        show fa (Fix.cutS (1 :: [6, 16]) (bodyOf l)) 0 = [84]
        rw [cut_first hk3 (by decide) (by decide)]
        rfl
      unfold trailF
      rw [← c1, ← c2, ← f0, ← hF, q1, ← hl]
theorem run_inv : ∀ (ls : List Bt) (st : PS) (pre : Bt) (s : Int) (L : List R), runL st ls = .ok (s, L) → Inv st pre → Valid 0 s L ∧ fileL s L = pre ++ ls.flatten
  | [], st, pre, s, L, h, hi => by
    unfold runL at h
    split at h
    · rename_i he
      cases h
      rcases hi with ⟨_, _, i3, _⟩ | ⟨_, i2, i3⟩
      · rw [he] at i3; cases i3
      · rw [he, if_pos rfl] at i3
        exact ⟨i2, by rw [i3]; simp [fileL]⟩
    · cases h
  | l :: ls, st, pre, s, L, h, hi => by
    unfold runL at h
    split at h
    · cases h
    · rename_i st' hs
      obtain ⟨h1, h2⟩ := run_inv ls st' (pre ++ l) s L h (step_inv hs hi)
      exact ⟨h1, by rw [h2, List.flatten_cons, List.append_assoc]⟩
/-- What is parsed may be, and is printed as that text. -/
theorem file_parse {t : Bt} {s : Int} {L : List R} (h : parseM t = .ok (s, L)) : Valid 0 s L ∧ fileL s L = t := by
  unfold parseM at h
  split at h
  · cases h
  · have := run_inv _ st0 [] s L h (Or.inl ⟨rfl, rfl, rfl, rfl⟩)
    rw [lines_flat t.length t (Nat.le_refl _), List.nil_append] at this
    exact this
theorem headC_no {F : List Bt} (h : (headC F).1 ≠ 0) : 1 ≤ (headC F).2 := by
  unfold headC at h ⊢
  split
  · simp
  · split
    · simp
    · rename_i h1 h2; rw [if_neg h1, if_neg h2] at h; simp at h
theorem rowC_no {F : List Bt} {A : List R} (h : (rowC F A).1 ≠ 0) : 1 ≤ (rowC F A).2 := by
  unfold rowC at h ⊢
  repeat' split
  all_goals first | simp; done | skip
  all_goals simp_all
theorem trailC_no {F : List Bt} {A : List R} (h : (trailC F A).1 ≠ 0) : 1 ≤ (trailC F A).2 := by
  unfold trailC at h ⊢
  repeat' split
  all_goals first | simp; done | skip
  all_goals simp_all
theorem step_bad {st : PS} {l : Bt} {e : Rej} (h : step st l = .error e) : 1 ≤ e.1 ∧ 1 ≤ e.2.1 ∧ 1 ≤ e.2.2 := by
  unfold step at h
  split at h
  · cases h; simp
  split at h
  · rename_i h2
    cases h
    simp only
    omega
  split at h
  · cases h; simp
  split at h
  · split at h
    · rename_i hc
      cases h
      have := headC_no hc
      simp only
      omega
    · cases h
  split at h
  · split at h
    · rename_i hc
      cases h
      have := rowC_no hc
      simp only
      omega
    · cases h
  · split at h
    · rename_i hc
      cases h
      have := trailC_no hc
      simp only
      omega
    · cases h
theorem run_bad : ∀ (ls : List Bt) (st : PS) (e : Rej), runL st ls = .error e → 1 ≤ e.1 ∧ 1 ≤ e.2.1 ∧ 1 ≤ e.2.2
  | [], st, e, h => by
    unfold runL at h
    split at h
    · cases h
    · cases h; simp
  | l :: ls, st, e, h => by
    unfold runL at h
    split at h
    · rename_i e' hs
      cases h
      exact step_bad hs
    · exact run_bad ls _ e h
/-- A reject has a line, a column, and why. -/
theorem parse_bad {t : Bt} {e : Rej} (h : parseM t = .error e) : 1 ≤ e.1 ∧ 1 ≤ e.2.1 ∧ 1 ≤ e.2.2 := by
  unfold parseM at h
  split at h
  · cases h; simp
  · exact run_bad _ _ _ h
end Stl
end Go.Proofs.YtomonhghioamfaaGreatDoor
