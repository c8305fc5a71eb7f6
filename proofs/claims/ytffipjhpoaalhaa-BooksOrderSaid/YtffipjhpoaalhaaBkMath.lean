
/- The plain mathematics of books (layer 9): postings, balances, what a Post comes to. -/
import Derived.Test.YtffipjhpoaalhaaCsvMath
set_option linter.unusedVariables false
namespace Go.Proofs.Ytffipjhpoaalhaa
namespace Bk

abbrev Bs := List UInt8
structure PM where
  id : Bs
  ord : Int
  deb : Int
  cre : Int
  amt : Int
deriving DecidableEq
def mayM (p : PM) : Bool := decide (p.id ≠ []) && decide (0 < p.ord) && decide (0 ≤ p.deb) && decide (p.deb ≤ 4) && decide (0 ≤ p.cre) && decide (p.cre ≤ 4) && decide (p.deb ≠ p.cre) && decide (0 ≤ p.amt)
structure May (p : PM) : Prop where
  id : p.id ≠ []
  ord : 0 < p.ord
  deb0 : 0 ≤ p.deb
  deb4 : p.deb ≤ 4
  cre0 : 0 ≤ p.cre
  cre4 : p.cre ≤ 4
  ne : p.deb ≠ p.cre
  amt : 0 ≤ p.amt
theorem may_iff {p : PM} : mayM p = true ↔ May p := by
  unfold mayM
  simp only [Bool.and_eq_true, decide_eq_true_eq]
  constructor
  · rintro ⟨⟨⟨⟨⟨⟨⟨h1, h2⟩, h3⟩, h4⟩, h5⟩, h6⟩, h7⟩, h8⟩
    exact ⟨h1, h2, h3, h4, h5, h6, h7, h8⟩
  · rintro ⟨h1, h2, h3, h4, h5, h6, h7, h8⟩
    exact ⟨⟨⟨⟨⟨⟨⟨h1, h2⟩, h3⟩, h4⟩, h5⟩, h6⟩, h7⟩, h8⟩
/-- What a posting does to a balance. -/
def hit (p : PM) (a o : Int) : Int := if o ≠ 0 ∧ p.ord ≠ o then 0 else if p.deb = a then p.amt else if p.cre = a then -p.amt else 0
def bal (l : List PM) (a o : Int) : Int := (l.map fun p => hit p a o).sum
theorem bal_nil (a o : Int) : bal [] a o = 0 := rfl
theorem bal_app (l m : List PM) (a o : Int) : bal (l ++ m) a o = bal l a o + bal m a o := by unfold bal; rw [List.map_append, List.sum_append]
theorem bal_snoc (l : List PM) (p : PM) (a o : Int) : bal (l ++ [p]) a o = bal l a o + hit p a o := by rw [bal_app]; simp [bal]
theorem bal_perm {l m : List PM} (h : l.Perm m) (a o : Int) : bal l a o = bal m a o := by
  induction h with
  | nil => rfl
  | cons x _ ih => unfold bal at *; simp only [List.map_cons, List.sum_cons, ih]
  | swap x y r => unfold bal; simp only [List.map_cons, List.sum_cons]; omega
  | trans _ _ h1 h2 => exact h1.trans h2
def in64 (n : Int) : Bool := decide (-9223372036854775808 ≤ n) && decide (n ≤ 9223372036854775807)
theorem in64_iff {n : Int} : in64 n = true ↔ -9223372036854775808 ≤ n ∧ n ≤ 9223372036854775807 := by unfold in64; simp
def fitsP (l : List PM) (p : PM) : Bool := in64 (bal (l ++ [p]) p.deb p.ord) && in64 (bal (l ++ [p]) p.cre p.ord) && in64 (bal (l ++ [p]) p.deb 0) && in64 (bal (l ++ [p]) p.cre 0)
def idOf (l : List PM) (s : Bs) : Option PM := l.find? fun q => q.id == s
def postM (l : List PM) (p : PM) : Int × List PM :=
  if mayM p = false then (2, l) else match idOf l p.id with
  | some q => (if q = p then 0 else 91, l)
  | none => if fitsP l p = true then (0, l ++ [p]) else (90, l)
/-- What holds of all that is there. -/
structure OkL (l : List PM) : Prop where
  may : ∀ p ∈ l, May p
  ids : l.Pairwise fun p q => p.id ≠ q.id
  fit : ∀ k, ∀ a o, in64 (bal (l.take k) a o) = true
theorem OkL.nil : OkL [] := ⟨fun p h => (by cases h), List.Pairwise.nil, fun k a o => by rw [List.take_nil, bal_nil]; decide⟩
theorem OkL.all {l : List PM} (h : OkL l) (a o : Int) : in64 (bal l a o) = true := by
  have := h.fit l.length a o
  rwa [List.take_length] at this
/-- Where a posting hits nothing. -/
theorem hit_off {p : PM} (h : May p) {a o : Int} (hn : ¬ ((a = p.deb ∨ a = p.cre) ∧ (o = p.ord ∨ o = 0))) : hit p a o = 0 := by
  unfold hit
  split
  · rfl
  · rename_i h1
    have ho : o = p.ord ∨ o = 0 := by
      rcases Classical.em (o = 0) with h | h
      · exact Or.inr h
      · refine Or.inl ?_
        rcases Classical.em (p.ord = o) with h2 | h2
        · exact h2.symm
        · exact absurd ⟨h, h2⟩ h1
    split
    · rename_i h2; exact absurd ⟨Or.inl h2.symm, ho⟩ hn
    · split
      · rename_i h2; exact absurd ⟨Or.inr h2.symm, ho⟩ hn
      · rfl
theorem fits_all {l : List PM} {p : PM} (h : OkL l) (hp : May p) (hf : fitsP l p = true) (a o : Int) : in64 (bal (l ++ [p]) a o) = true := by
  unfold fitsP at hf
  simp only [Bool.and_eq_true] at hf
  obtain ⟨⟨⟨h1, h2⟩, h3⟩, h4⟩ := hf
  by_cases hc : (a = p.deb ∨ a = p.cre) ∧ (o = p.ord ∨ o = 0)
  · obtain ⟨rfl | rfl, rfl | rfl⟩ := hc
    · exact h1
    · exact h3
    · exact h2
    · exact h4
  · rw [bal_snoc, hit_off hp hc, Int.add_zero]
    exact h.all a o
theorem id_none {l : List PM} {s : Bs} (h : idOf l s = none) : ∀ q ∈ l, q.id ≠ s := fun q hq e => by
  have := List.find?_eq_none.1 h q hq
  simp [e] at this
theorem id_some {l : List PM} {s : Bs} {q : PM} (h : idOf l s = some q) : q ∈ l ∧ q.id = s := ⟨List.mem_of_find?_eq_some h, by simpa using List.find?_some h⟩
theorem ok_snoc {l : List PM} {p : PM} (h : OkL l) (hp : May p) (hi : idOf l p.id = none) (hf : fitsP l p = true) : OkL (l ++ [p]) := by
  refine ⟨fun q hq => ?_, ?_, fun k a o => ?_⟩
  · rcases List.mem_append.1 hq with hq | hq
    · exact h.may q hq
    · simp at hq; subst hq; exact hp
  · rw [List.pairwise_append]
    refine ⟨h.ids, List.pairwise_singleton _ _, fun q hq r hr => ?_⟩
    simp at hr; subst hr
    exact id_none hi q hq
  · by_cases hk : k ≤ l.length
    · rw [List.take_append_of_le_length hk]; exact h.fit k a o
    · rw [List.take_of_length_le (by simp; omega)]; exact fits_all h hp hf a o
theorem ok_post {l : List PM} (h : OkL l) (p : PM) : OkL (postM l p).2 := by
  unfold postM
  split
  · exact h
  · rename_i hm
    have hp : May p := may_iff.1 (by simpa using hm)
    split
    · exact h
    · rename_i hi
      split
      · rename_i hf; exact ok_snoc h hp hi hf
      · exact h

/-! ### All accounts come to 0 -/
theorem hit_zero {p : PM} (h : May p) (o : Int) : hit p 0 o + hit p 1 o + hit p 2 o + hit p 3 o + hit p 4 o = 0 := by
  obtain ⟨_, _, h1, h2, h3, h4, h5, _⟩ := h
  unfold hit
  by_cases ho : o ≠ 0 ∧ p.ord ≠ o
  · simp [ho]
  · simp only [if_neg ho]
    have hd : p.deb = 0 ∨ p.deb = 1 ∨ p.deb = 2 ∨ p.deb = 3 ∨ p.deb = 4 := by omega
    have hc : p.cre = 0 ∨ p.cre = 1 ∨ p.cre = 2 ∨ p.cre = 3 ∨ p.cre = 4 := by omega
    rcases hd with e | e | e | e | e <;> rcases hc with e' | e' | e' | e' | e' <;> first | (exfalso; omega) | (simp [e, e']; done) | (simp [e, e']; omega)
theorem bal_zero {l : List PM} (h : ∀ p ∈ l, May p) (o : Int) : bal l 0 o + bal l 1 o + bal l 2 o + bal l 3 o + bal l 4 o = 0 := by
  induction l with
  | nil => rfl
  | cons p r ih =>
    have e : ∀ a, bal (p :: r) a o = hit p a o + bal r a o := fun a => by unfold bal; simp
    have h1 := hit_zero (h p (by simp)) o
    have h2 := ih fun q hq => h q (by simp [hq])
    rw [e, e, e, e, e]
    omega
/-- What all orders from 1 to 4 have is what is told of all. -/
theorem hit_orders {p : PM} (h : 0 < p.ord) (h4 : p.ord ≤ 4) (a : Int) : hit p a 1 + hit p a 2 + hit p a 3 + hit p a 4 = hit p a 0 := by
  have ho : p.ord = 1 ∨ p.ord = 2 ∨ p.ord = 3 ∨ p.ord = 4 := by omega
  unfold hit
  rcases ho with e | e | e | e <;> simp [e]
theorem bal_orders {l : List PM} (h : ∀ p ∈ l, 0 < p.ord ∧ p.ord ≤ 4) (a : Int) : bal l a 1 + bal l a 2 + bal l a 3 + bal l a 4 = bal l a 0 := by
  induction l with
  | nil => rfl
  | cons p r ih =>
    have e : ∀ o, bal (p :: r) a o = hit p a o + bal r a o := fun o => by unfold bal; simp
    have h1 := hit_orders (h p (by simp)).1 (h p (by simp)).2 a
    have h2 := ih fun q hq => h q (by simp [hq])
    rw [e, e, e, e, e]
    omega
/-- Amounts that are small come to small balances. -/
theorem bal_small {l : List PM} {M : Int} (h : ∀ p ∈ l, 0 ≤ p.amt ∧ p.amt ≤ M) (a o : Int) : -(M * l.length) ≤ bal l a o ∧ bal l a o ≤ M * l.length := by
  induction l with
  | nil => simp [bal]
  | cons p r ih =>
    have e : bal (p :: r) a o = hit p a o + bal r a o := by unfold bal; simp
    obtain ⟨h1, h2⟩ := ih fun q hq => h q (by simp [hq])
    obtain ⟨h3, h4⟩ := h p (by simp)
    have h5 : -M ≤ hit p a o ∧ hit p a o ≤ M := by
      unfold hit
      split
      · omega
      · split
        · omega
        · split <;> omega
    rw [e, List.length_cons]
    have h6 : M * ((r.length + 1 : Nat) : Int) = M * (r.length : Int) + M := by push_cast; rw [Int.mul_add]; simp
    rw [h6]
    omega
end Bk
end Go.Proofs.Ytffipjhpoaalhaa
