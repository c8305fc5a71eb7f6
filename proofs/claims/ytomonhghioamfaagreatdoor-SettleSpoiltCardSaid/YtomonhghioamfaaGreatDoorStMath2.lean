
/- The payment's files: lines that are well formed, and how they are gone through. -/
import Derived.Test.YtomonhghioamfaaGreatDoorStMath
set_option linter.unusedVariables false
namespace Go.Proofs.YtomonhghioamfaaGreatDoor
open Go Ky Rw
namespace Stl

/-! ### Numbers, padded -/
theorem num_pad {n w : Int} (hn : n < top) (h : Mon.padB n w = true) : numI (Mon.pad n w) w = n := by
  obtain ⟨_, h2, h3⟩ := Mon.pad_back hn h
  unfold numI
  rw [h3, if_pos ⟨h2, rfl⟩]
theorem num_yes {f : Bt} {w n : Int} (h : numI f w = n) (h0 : 0 ≤ n) : Mon.pad n w = f ∧ Mon.padB n w = true := by
  unfold numI at h
  split at h
  · rename_i hc
    obtain ⟨h1, h2⟩ := hc
    rw [h] at h2
    refine ⟨h2, ?_⟩
    by_cases hp : Mon.padB n w = true
    · exact hp
    · unfold Mon.pad at h2
      rw [if_neg hp] at h2
      rw [← h2] at h1
      cases h1
  · omega
theorem padB_of {n w : Int} {k : Nat} (hw : w = (k : Int)) (h1 : 1 ≤ k) (h18 : k ≤ 18) (h0 : 0 ≤ n) (hn : n.toNat < 10 ^ k) (ht : n < top) : Mon.padB n w = true := by
  have hlt : n.toNat < topN := by simp only [top, topN] at *; omega
  have := Mon.cnt_le hlt h1 hn
  unfold Mon.padB
  simp only [Bool.and_eq_true, decide_eq_true_eq]
  omega
theorem pad_len {n w : Int} (h : Mon.padB n w = true) : (Mon.pad n w).length = w.toNat := by unfold Mon.pad; rw [if_pos h, Mon.dig_length]
theorem pad_dig {n w : Int} : ∀ c ∈ Mon.pad n w, Mon.isDig c = true := by
  unfold Mon.pad
  split
  · exact Mon.dig_all _ _
  · simp
theorem dig_ok {c : UInt8} (h : Mon.isDig c = true) : Fix.okB c = true ∧ c ≠ 32 := by
  unfold Mon.isDig at h
  simp only [Bool.and_eq_true, decide_eq_true_eq] at h
  refine ⟨(Fix.okB_iff c).2 (by omega), fun e => ?_⟩
  rw [e] at h
  revert h
  decide
theorem fit_pad {n w : Int} (h : Mon.padB n w = true) : Fix.fitB (Mon.pad n w) w = true := by
  have hl := pad_len h
  have hw : 1 ≤ w := by
    unfold Mon.padB at h
    simp only [Bool.and_eq_true, decide_eq_true_eq] at h
    omega
  unfold Fix.fitB
  simp only [Bool.and_eq_true, decide_eq_true_eq, Bool.not_eq_true', List.all_eq_true]
  refine ⟨⟨by omega, fun c hc => (dig_ok (pad_dig c hc)).1⟩, ?_⟩
  unfold Fix.endB
  rw [beq_eq_false_iff_ne]
  intro e
  exact (dig_ok (pad_dig _ (List.mem_of_getLast? e))).2 rfl

/-! ### Well-formed lines -/
theorem bodyOf_whole (b : Bt) : bodyOf (b ++ [10]) = b ∧ wholeB (b ++ [10]) = true := by
  have h : wholeB (b ++ [10]) = true := by simp [wholeB]
  exact ⟨by unfold bodyOf; rw [if_pos h, List.dropLast_concat], h⟩
theorem ok_no10 {b : Bt} (h : b.all Fix.okB = true) : ∀ c ∈ b, c ≠ 10 := fun c hc e => by
  have := List.all_eq_true.1 h c hc
  rw [e] at this
  revert this
  decide
theorem okH : Fix.okW wH = true := by decide
theorem okD : Fix.okW wD = true := by decide
theorem okT : Fix.okW wT = true := by decide
/-- A line of fields that fit. -/
structure LineIs (W : List Int) (F : List Bt) (k : UInt8) (l : Bt) (b : Bt) : Prop where
  line : l = b ++ [10]
  len : b.length = Fix.sumW W
  ok : b.all Fix.okB = true
  kind : kindOf b = k
  wid : widthsOf k = W
  okw : Fix.okW W = true
  pa : Fix.pa W b = (F, 0)
theorem LineIs.no10 {W : List Int} {F : List Bt} {k : UInt8} {l b : Bt} (h : LineIs W F k l b) : ∀ c ∈ b, c ≠ 10 := ok_no10 h.ok
theorem LineIs.body {W : List Int} {F : List Bt} {k : UInt8} {l b : Bt} (h : LineIs W F k l b) : bodyOf l = b ∧ wholeB l = true := by rw [h.line]; exact bodyOf_whole b
theorem line_of {W : List Int} {F : List Bt} {c : UInt8} {V : List Int} {E : List Bt} (hW : W = 1 :: V) (hF : F = [c] :: E) (hwid : widthsOf c = W) (h1 : Fix.okW W = true) (h2 : W.length = F.length) (h3 : Fix.fitsTo W F = true) : ∃ b, LineIs W F c (Fix.pr W F ++ [10]) b := by
  refine ⟨Fix.lineS W F, by rw [Fix.pr_yes h1 h2 h3], Fix.lineS_len W F h2 h3, Fix.lineS_ok W F h3, ?_, hwid, h1, Fix.pa_pr h1 h2 h3⟩
  subst hW hF
  rfl
theorem seq_pad {s : Int} (h0 : 1 ≤ s) (h1 : s ≤ 1073741824) : Mon.padB s 10 = true := padB_of (k := 10) rfl (by omega) (by omega) (by omega) (by omega) (by unfold top; omega)
theorem head_is {s : Int} (h0 : 1 ≤ s) (h1 : s ≤ 1073741824) : ∃ b, LineIs wH [[72], sPay, Mon.pad s 10] 72 (headF s) b := by
  refine line_of (V := [8, 10]) (E := [sPay, Mon.pad s 10]) rfl rfl (by decide) okH rfl ?_
  unfold wH
  simp only [Fix.fitsTo, Bool.and_eq_true]
  exact ⟨by decide, by decide, fit_pad (seq_pad h0 h1), trivial⟩
theorem row_pad {p : Int} {x : R} (h : Row1 p x) : Mon.padB x.o 4 = true ∧ Mon.padB x.a 14 = true :=
  ⟨padB_of (k := 4) rfl (by omega) (by omega) (by have := h.key.o0; omega) (by have := h.key.o1; omega) (by have := h.key.o1; unfold top; omega),
   padB_of (k := 14) rfl (by omega) (by omega) h.a0 (by have := h.a1; omega) (by have := h.a1; unfold top; omega)⟩
theorem pay_d {x : R} (h : Row1 0 x) : x.d = 1 ∨ x.d = 4 := by
  have hp := h.party
  rcases six h.key.d0 h.key.d1 with e | e | e | e | e | e
  all_goals rw [e] at hp ⊢
  all_goals simp [partyK] at hp ⊢
def fieldsD (x : R) : List Bt := [[68], Mon.pad x.o 4, wordB x.d, letter x.c, Mon.pad x.a 14]
theorem row_is {x : R} (h : Row1 0 x) : ∃ b, LineIs wD (fieldsD x) 68 (rowF x) b := by
  obtain ⟨p1, p2⟩ := row_pad h
  refine line_of (V := [4, 8, 1, 14]) (E := [Mon.pad x.o 4, wordB x.d, letter x.c, Mon.pad x.a 14]) rfl rfl (by decide) okD rfl ?_
  unfold wD fieldsD
  simp only [Fix.fitsTo, Bool.and_eq_true]
  refine ⟨by decide, fit_pad p1, ?_, ?_, fit_pad p2, trivial⟩
  · rcases pay_d h with e | e <;> rw [e] <;> decide
  · unfold letter; split <;> decide
theorem tot_nil : totA [] = 0 := rfl
theorem tot_cons (x : R) (L : List R) : totA (x :: L) = x.a + totA L := by simp [totA]
theorem tot_snoc (L : List R) (x : R) : totA (L ++ [x]) = totA L + x.a := by simp [totA]
theorem tot_le {p : Int} : ∀ {L : List R}, (∀ x ∈ L, Row1 p x) → 0 ≤ totA L ∧ totA L ≤ 1099511627776 * (L.length : Int)
  | [], _ => by simp [totA]
  | x :: L, h => by
    have h1 := h x (by simp)
    have := h1.a0
    have := h1.a1
    have h2 := tot_le (L := L) fun y hy => h y (by simp [hy])
    rw [tot_cons, List.length_cons]
    omega
theorem trail_pad {p : Int} {L : List R} (h : ∀ x ∈ L, Row1 p x) (hl : L.length ≤ 400) : Mon.padB (L.length : Int) 6 = true ∧ Mon.padB (totA L) 16 = true := by
  obtain ⟨h1, h2⟩ := tot_le h
  exact ⟨padB_of (k := 6) rfl (by omega) (by omega) (by omega) (by omega) (by unfold top; omega), padB_of (k := 16) rfl (by omega) (by omega) h1 (by omega) (by unfold top; omega)⟩
theorem trail_is {p : Int} {L : List R} (h : ∀ x ∈ L, Row1 p x) (hl : L.length ≤ 400) : ∃ b, LineIs wT [[84], Mon.pad (L.length : Int) 6, Mon.pad (totA L) 16] 84 (trailF L) b := by
  obtain ⟨p1, p2⟩ := trail_pad h hl
  refine line_of (V := [6, 16]) (E := [Mon.pad (L.length : Int) 6, Mon.pad (totA L) 16]) rfl rfl (by decide) okT rfl ?_
  unfold wT
  simp only [Fix.fitsTo, Bool.and_eq_true]
  exact ⟨by decide, fit_pad p1, fit_pad p2, trivial⟩

/-! ### Steps -/
theorem step_head {s : Int} (h0 : 1 ≤ s) (h1 : s ≤ 1073741824) : step st0 (headF s) = .ok ⟨1, s, [], false⟩ := by
  obtain ⟨b, h⟩ := head_is h0 h1
  obtain ⟨e1, e2⟩ := h.body
  have hn := num_pad (by unfold top; omega) (seq_pad h0 h1)
  unfold step
  rw [e1, h.kind, h.wid, h.pa, e2]
  have hc : headC [[72], sPay, Mon.pad s 10] = (0, 0) := by
    unfold headC
    have : fa [[72], sPay, Mon.pad s 10] 1 = sPay := rfl
    rw [if_neg (by simp [this])]
    have : fa [[72], sPay, Mon.pad s 10] 2 = Mon.pad s 10 := rfl
    rw [this, hn, if_neg (by omega)]
  rw [if_neg (by simp [st0]), if_neg (by simp), if_neg (by simp), if_pos rfl]
  rw [hc, if_neg (by simp)]
  have : fa [[72], sPay, Mon.pad s 10] 2 = Mon.pad s 10 := rfl
  rw [this, hn]
  rfl
theorem row_read {x : R} (h : Row1 0 x) : rowR (fieldsD x) = x := by
  obtain ⟨p1, p2⟩ := row_pad h
  have e1 : fa (fieldsD x) 1 = Mon.pad x.o 4 := rfl
  have e2 : fa (fieldsD x) 2 = wordB x.d := rfl
  have e3 : fa (fieldsD x) 3 = letter x.c := rfl
  have e4 : fa (fieldsD x) 4 = Mon.pad x.a 14 := rfl
  unfold rowR
  rw [e1, e2, e3, e4, num_pad (by have := h.key.o1; unfold top; omega) p1, num_pad (by have := h.a1; unfold top; omega) p2, (deed_word h.key.d0 h.key.d1).2]
  have hq : x.q = 0 := by
    by_cases hq : x.q = 0
    · exact hq
    · have := (h.zq hq).1
      simp at this
  have hc : (if letter x.c = [82] then (2 : Int) else 1) = x.c := by
    have := h.c1
    have := h.c2
    unfold letter
    by_cases e : x.c = 2
    · rw [if_pos e, if_pos rfl, e]
    · rw [if_neg e, if_neg (by decide)]; omega
  rw [hc]
  cases x
  simp only at hq
  rw [hq]
theorem rowC_is {x : R} (h : Row1 0 x) {A : List R} (hl : A.length < 400) : rowC (fieldsD x) A = if ∃ y, A.getLast? = some y ∧ less y x = false then (2, 6) else (0, 0) := by
  obtain ⟨p1, p2⟩ := row_pad h
  have e1 : fa (fieldsD x) 1 = Mon.pad x.o 4 := rfl
  have e2 : fa (fieldsD x) 2 = wordB x.d := rfl
  have e3 : fa (fieldsD x) 3 = letter x.c := rfl
  have e4 : fa (fieldsD x) 4 = Mon.pad x.a 14 := rfl
  have hd := deed_word h.key.d0 h.key.d1
  have ho := num_pad (by have := h.key.o1; unfold top; omega) p1
  have ha := num_pad (by have := h.a1; unfold top; omega) p2
  have := h.key.o0
  have := h.key.o1
  have := h.a0
  have := h.a1
  have := pay_d h
  unfold rowC
  rw [e1, e2, e3, e4, ho, ha, hd.1, hd.2, if_neg (by omega), if_neg (by omega), if_neg (by simp; omega), if_neg (by unfold letter; split <;> simp), if_neg ?_, row_read h]
  rintro (h1 | h1 | ⟨h1, h2⟩)
  · omega
  · omega
  · have hz := (h.za (by omega)).2
    unfold letter at h1
    rw [if_neg hz] at h1
    revert h1
    decide
theorem step_row {x : R} (h : Row1 0 x) {st : PS} (he : st.ended = false) (hn : 0 < st.n) (hl : st.rows.length < 400) :
    step st (rowF x) = if ∃ y, st.rows.getLast? = some y ∧ less y x = false then .error (st.n + 1, 2, 6) else .ok ⟨st.n + 1, st.seq, st.rows ++ [x], false⟩ := by
  obtain ⟨b, hb⟩ := row_is h
  obtain ⟨e1, e2⟩ := hb.body
  unfold step
  have hpa : Fix.pa (widthsOf 68) b = (fieldsD x, 0) := by rw [hb.wid]; exact hb.pa
  rw [e1, hb.kind, hpa, e2, if_neg (by simp [he]; omega), if_neg (by simp), if_neg (by simp), if_neg (by decide), if_pos rfl, hb.pa]
  dsimp only
  rw [rowC_is h hl, row_read h]
  by_cases hc : ∃ y, st.rows.getLast? = some y ∧ less y x = false
  · rw [if_pos hc, if_pos hc, if_pos (by simp)]
  · rw [if_neg hc, if_neg hc, if_neg (by simp)]
theorem step_trail {L : List R} (h : ∀ x ∈ L, Row1 0 x) (hl : L.length ≤ 400) {st : PS} (he : st.ended = false) (hn : 0 < st.n) :
    step st (trailF L) = if st.rows.length ≠ L.length then .error (st.n + 1, 2, 4) else if totA st.rows ≠ totA L then .error (st.n + 1, 8, 5) else .ok ⟨st.n + 1, st.seq, st.rows, true⟩ := by
  obtain ⟨b, hb⟩ := trail_is h hl
  obtain ⟨e1, e2⟩ := hb.body
  obtain ⟨p1, p2⟩ := trail_pad h hl
  obtain ⟨t1, t2⟩ := tot_le h
  have n1 := num_pad (by unfold top; omega) p1
  have n2 := num_pad (by unfold top; omega) p2
  unfold step
  have hpa : Fix.pa (widthsOf 84) b = ([[84], Mon.pad (L.length : Int) 6, Mon.pad (totA L) 16], 0) := by rw [hb.wid]; exact hb.pa
  have f1 : fa [[84], Mon.pad (L.length : Int) 6, Mon.pad (totA L) 16] 1 = Mon.pad (L.length : Int) 6 := rfl
  have f2 : fa [[84], Mon.pad (L.length : Int) 6, Mon.pad (totA L) 16] 2 = Mon.pad (totA L) 16 := rfl
  have hT : trailC [[84], Mon.pad (L.length : Int) 6, Mon.pad (totA L) 16] st.rows = if st.rows.length ≠ L.length then (2, 4) else if totA st.rows ≠ totA L then (8, 5) else (0, 0) := by
    unfold trailC
    rw [f1, f2, n1, n2, if_neg (show ¬ ((L.length : Int) < 0) by omega)]
    by_cases hc : st.rows.length = L.length
    · rw [if_neg (show ¬ ((L.length : Int) ≠ (st.rows.length : Int)) by omega), if_neg (show ¬ (totA L < 0) by omega), if_neg (show ¬ (st.rows.length ≠ L.length) by omega)]
      by_cases hd : totA st.rows = totA L
      · rw [if_neg (show ¬ (totA L ≠ totA st.rows) by omega), if_neg (show ¬ (totA st.rows ≠ totA L) by omega)]
      · rw [if_pos (show totA L ≠ totA st.rows by omega), if_pos hd]
    · rw [if_pos (show (L.length : Int) ≠ (st.rows.length : Int) by omega), if_pos hc]
  rw [e1, hb.kind, hpa, e2, if_neg (by simp [he]; omega), if_neg (by simp), if_neg (by simp), if_neg (by decide), if_neg (by decide), hb.pa]
  dsimp only
  rw [hT]
  by_cases hc : st.rows.length = L.length
  · rw [if_neg (show ¬ (st.rows.length ≠ L.length) by omega), if_neg (show ¬ (st.rows.length ≠ L.length) by omega)]
    by_cases hd : totA st.rows = totA L
    · rw [if_neg (show ¬ (totA st.rows ≠ totA L) by omega), if_neg (show ¬ (totA st.rows ≠ totA L) by omega), if_neg (by simp)]
    · rw [if_pos hd, if_pos hd, if_pos (by simp)]
  · rw [if_pos hc, if_pos hc, if_pos (by simp)]
end Stl
end Go.Proofs.YtomonhghioamfaaGreatDoor
