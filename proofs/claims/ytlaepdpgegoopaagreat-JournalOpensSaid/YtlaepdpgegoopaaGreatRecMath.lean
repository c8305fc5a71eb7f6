
/- Records: the mathematics; nothing of the program is read here. -/
import Derived.Test.YtlaepdpgegoopaaGreatSumsC
set_option linter.unusedVariables false
namespace Go.Proofs.YtlaepdpgegoopaaGreat.Rc
open Bit Crc
abbrev Bs := List UInt8

theorem be_beN : ∀ (k : Nat) (l : Bs), l.length = k → be k (beN l) = l
  | 0, l, h => by have := List.length_eq_zero_iff.1 h; subst this; rfl
  | k + 1, l, h => by
    have hne : l ≠ [] := by intro e; subst e; simp at h
    have e := List.dropLast_concat_getLast hne
    obtain ⟨d, hd⟩ : ∃ d, l.dropLast = d := ⟨_, rfl⟩
    obtain ⟨c, hc⟩ : ∃ c, l.getLast hne = c := ⟨_, rfl⟩
    rw [hd, hc] at e
    have hdl : d.length = k := by rw [← e] at h; simpa using h
    have hc2 := u8_lt c
    rw [← e, beN_snoc, be, show (beN d * 256 + c.toNat) / 256 = beN d by omega, be_beN k d hdl]
    congr 2
    exact u8_eq (by rw [b8_toNat]; omega)

/-- The record of a payload. -/
def recL (p : Bs) : Bs := sealL (be 4 p.length ++ p)
theorem recL_len (p : Bs) : (recL p).length = p.length + 8 := by rw [recL, sealL_len, List.length_append, be_length]; omega
/-- The number that stands in front; does a record stand there; its payload. -/
def gN (l : Bs) : Nat := beN (l.take 4)
def gB (l : Bs) : Bool := decide (8 ≤ l.length) && decide (gN l ≤ 65536) && decide (8 + gN l ≤ l.length) && (recL ((l.drop 4).take (gN l)) == l.take (8 + gN l))
def gT (l : Bs) : Bs := if gB l = true then (l.drop 4).take (gN l) else []
theorem gN_lt (l : Bs) : gN l < 4294967296 := by
  have h := beN_lt (l.take 4)
  have h2 : (l.take 4).length ≤ 4 := List.length_take_le _ _
  have h3 : (256 : Nat) ^ (l.take 4).length ≤ 256 ^ 4 := Nat.pow_le_pow_right (by omega) (by omega)
  have h4 : (256 : Nat) ^ 4 = 4294967296 := by decide
  unfold gN; omega
theorem g_no {l : Bs} (h : gB l = false) : gT l = [] := by simp [gT, h]
theorem g_yes {l : Bs} (h : gB l = true) : 8 ≤ l.length ∧ gN l ≤ 65536 ∧ 8 + gN l ≤ l.length ∧ recL ((l.drop 4).take (gN l)) = l.take (8 + gN l) ∧ gT l = (l.drop 4).take (gN l) := by
  have h' := h
  unfold gB at h
  simp only [Bool.and_eq_true, decide_eq_true_eq, beq_iff_eq] at h
  exact ⟨h.1.1.1, h.1.1.2, h.1.2, h.2, by simp [gT, h']⟩
theorem g_short {l : Bs} (h : l.length < 8) : gB l = false := by unfold gB; rw [decide_eq_false (by omega)]; simp
theorem g_big {l : Bs} (h : 65536 < gN l) : gB l = false := by unfold gB; rw [decide_eq_false (p := gN l ≤ 65536) (by omega)]; simp
theorem g_less {l : Bs} (h : l.length < 8 + gN l) : gB l = false := by unfold gB; rw [decide_eq_false (p := 8 + gN l ≤ l.length) (by omega)]; simp
theorem g_is {l : Bs} (h1 : 8 ≤ l.length) (h2 : gN l ≤ 65536) (h3 : 8 + gN l ≤ l.length) : gB l = (recL ((l.drop 4).take (gN l)) == l.take (8 + gN l)) := by
  unfold gB; rw [decide_eq_true h1, decide_eq_true h2, decide_eq_true h3]; simp
/-- What is sealed there. -/
theorem g_front {l : Bs} (h1 : 8 ≤ l.length) (h3 : 8 + gN l ≤ l.length) : frontL (l.take (8 + gN l)) = be 4 ((l.drop 4).take (gN l)).length ++ (l.drop 4).take (gN l) := by
  have hl : (l.take (8 + gN l)).length = 8 + gN l := by rw [List.length_take]; omega
  have hp : ((l.drop 4).take (gN l)).length = gN l := by rw [List.length_take, List.length_drop]; omega
  have h4 : (l.take 4).length = 4 := by rw [List.length_take]; omega
  have e : be 4 (gN l) = l.take 4 := be_beN 4 _ h4
  unfold frontL
  rw [hl, hp, e, List.take_take, show min (8 + gN l - 4) (8 + gN l) = 4 + gN l by omega, List.take_add]
theorem g_open {l : Bs} (h1 : 8 ≤ l.length) (h2 : gN l ≤ 65536) (h3 : 8 + gN l ≤ l.length) : opB (l.take (8 + gN l)) = gB l := by
  have hl : (l.take (8 + gN l)).length = 8 + gN l := by rw [List.length_take]; omega
  rw [g_is h1 h2 h3, opB, g_front h1 h3, hl, decide_eq_true (show 4 ≤ 8 + gN l by omega), Bool.true_and]
  rfl
theorem g_text {l : Bs} (h1 : 8 ≤ l.length) (h2 : gN l ≤ 65536) (h3 : 8 + gN l ≤ l.length) (h : gB l = true) : (opT (l.take (8 + gN l))).drop 4 = gT l ∧ (opT (l.take (8 + gN l))).length = 4 + gN l := by
  have hp : ((l.drop 4).take (gN l)).length = gN l := by rw [List.length_take, List.length_drop]; omega
  have ho : opB (l.take (8 + gN l)) = true := by rw [g_open h1 h2 h3, h]
  rw [op_yes ho, g_front h1 h3, (g_yes h).2.2.2.2, hp]
  constructor
  · rw [List.drop_append, be_length, List.drop_eq_nil_of_le (by rw [be_length]; omega)]; simp
  · rw [List.length_append, be_length, hp]
/-- A record is found where it stands, whatever is behind it. -/
theorem gN_rec (p b : Bs) (hp : p.length ≤ 65536) : gN (recL p ++ b) = p.length := by
  have e : (recL p ++ b).take 4 = be 4 p.length := by
    rw [List.take_append_of_le_length (by rw [recL_len]; omega), recL, sealL, List.append_assoc, List.take_append_of_le_length (by rw [be_length]; omega), List.take_of_length_le (by rw [be_length]; omega)]
  unfold gN
  rw [e, beN_be 4 _ (by have : (256 : Nat) ^ 4 = 4294967296 := by decide
                        omega)]
theorem rec_drop (p b : Bs) : ((recL p ++ b).drop 4).take p.length = p := by
  have hb := be_length 4 p.length
  have e : recL p ++ b = be 4 p.length ++ (p ++ (le4 (sumN (be 4 p.length ++ p)) ++ b)) := by rw [recL, sealL]; simp only [List.append_assoc]
  rw [e, show (4 : Nat) = (be 4 p.length).length from hb.symm]
  simp [hb]
theorem g_rec (p b : Bs) (hp : p.length ≤ 65536) : gB (recL p ++ b) = true ∧ gT (recL p ++ b) = p ∧ gN (recL p ++ b) = p.length := by
  have hn := gN_rec p b hp
  have hr : ((recL p ++ b).drop 4).take p.length = p := rec_drop p b
  have ht : (recL p ++ b).take (8 + p.length) = recL p := by
    rw [List.take_append_of_le_length (by rw [recL_len]; omega), List.take_of_length_le (by rw [recL_len]; omega)]
  have hb : gB (recL p ++ b) = true := by
    rw [g_is (by rw [List.length_append, recL_len]; omega) (by rw [hn]; exact hp) (by rw [hn, List.length_append, recL_len]; omega), hn, hr, ht]
    simp
  exact ⟨hb, by rw [(g_yes hb).2.2.2.2, hn, hr], hn⟩
theorem g_cut (p b : Bs) (hp : p.length ≤ 65536) {k : Nat} (hk : k < p.length + 8) : gB ((recL p ++ b).take k) = false := by
  by_cases h8 : k < 8
  · exact g_short (by rw [List.length_take]; omega)
  · refine g_less ?_
    have e : gN ((recL p ++ b).take k) = p.length := by
      rw [← gN_rec p b hp]; unfold gN; rw [List.take_take, Nat.min_eq_left (by omega)]
    rw [e, List.length_take]; omega

/-! ### One behind the other -/
inductive Trail (l : Bs) : List (Bs × Nat) → Nat → Prop
  | nil : Trail l [] 0
  | snoc {xs : List (Bs × Nat)} {a : Nat} : Trail l xs a → gB (l.drop a) = true → Trail l (xs ++ [(gT (l.drop a), a + 8 + gN (l.drop a))]) (a + 8 + gN (l.drop a))
theorem Trail.le {l : Bs} {xs : List (Bs × Nat)} {a : Nat} (h : Trail l xs a) : 8 * xs.length ≤ a ∧ a ≤ l.length := by
  induction h with
  | nil => exact ⟨by simp, by omega⟩
  | snoc h hg ih =>
    have := (g_yes hg).2.2.1
    rw [List.length_drop] at this
    simp only [List.length_append, List.length_cons, List.length_nil]
    omega
def steps (l : Bs) : Nat → List (Bs × Nat) × Nat
  | 0 => ([], 0)
  | n + 1 => if gB (l.drop (steps l n).2) = true then ((steps l n).1 ++ [(gT (l.drop (steps l n).2), (steps l n).2 + 8 + gN (l.drop (steps l n).2))], (steps l n).2 + 8 + gN (l.drop (steps l n).2)) else steps l n
theorem Trail.steps {l : Bs} {xs : List (Bs × Nat)} {a : Nat} (h : Trail l xs a) : steps l xs.length = (xs, a) := by
  induction h with
  | nil => rfl
  | snoc h hg ih =>
    rw [List.length_append, List.length_cons, List.length_nil, Rc.steps, ih, if_pos hg]
/-- All that is there. -/
def Done (l : Bs) (xs : List (Bs × Nat)) (a : Nat) : Prop := Trail l xs a ∧ gB (l.drop a) = false
theorem Done.stay {l : Bs} {xs : List (Bs × Nat)} {a : Nat} (h : Done l xs a) : ∀ n, xs.length ≤ n → Rc.steps l n = (xs, a) := by
  intro n
  induction n with
  | zero => intro hn; rw [show 0 = xs.length by omega]; exact h.1.steps
  | succ n ih =>
    intro hn
    by_cases e : xs.length = n + 1
    · rw [← e]; exact h.1.steps
    · have := ih (by omega)
      rw [Rc.steps, this, if_neg (by rw [h.2]; decide)]
theorem Done.unique {l : Bs} {xs ys : List (Bs × Nat)} {a b : Nat} (h : Done l xs a) (g : Done l ys b) : xs = ys ∧ a = b := by
  have e1 := h.stay (xs.length + ys.length) (by omega)
  have e2 := g.stay (xs.length + ys.length) (by omega)
  rw [e1] at e2
  exact ⟨congrArg Prod.fst e2, congrArg Prod.snd e2⟩
def lastE (xs : List (Bs × Nat)) : Nat := (xs.getLast?.map (·.2)).getD 0
theorem lastE_nil : lastE [] = 0 := rfl
theorem lastE_snoc (xs : List (Bs × Nat)) (x : Bs × Nat) : lastE (xs ++ [x]) = x.2 := by simp [lastE]
theorem Trail.last {l : Bs} {xs : List (Bs × Nat)} {a : Nat} (h : Trail l xs a) : lastE xs = a := by
  cases h with
  | nil => rfl
  | snoc h hg => rw [lastE_snoc]
def pays (xs : List (Bs × Nat)) : List Bs := xs.map (·.1)
theorem pays_snoc (xs : List (Bs × Nat)) (x : Bs × Nat) : pays (xs ++ [x]) = pays xs ++ [x.1] := by simp [pays]

/-! ### Rows of records -/
def rowL : List Bs → Bs
  | [] => []
  | p :: r => recL p ++ rowL r
theorem rowL_snoc (r : List Bs) (p : Bs) : rowL (r ++ [p]) = rowL r ++ recL p := by
  induction r with
  | nil => simp [rowL]
  | cons q r ih => rw [List.cons_append, rowL, rowL, ih, List.append_assoc]
theorem rowL_append (r q : List Bs) : rowL (r ++ q) = rowL r ++ rowL q := by
  induction r with
  | nil => simp [rowL]
  | cons p r ih => rw [List.cons_append, rowL, rowL, ih, List.append_assoc]
/-- The records of a row that is in front. -/
theorem trail_row (b : Bs) : ∀ (r : List Bs), (∀ p ∈ r, p.length ≤ 65536) → ∃ xs, Trail (rowL r ++ b) xs (rowL r).length ∧ pays xs = r := by
  intro r
  suffices H : ∀ (k : Nat), k ≤ r.length → (∀ p ∈ r, p.length ≤ 65536) → ∃ xs, Trail (rowL r ++ b) xs (rowL (r.take k)).length ∧ pays xs = r.take k from by
    intro hr
    have := H r.length (Nat.le_refl _) hr
    rwa [List.take_length] at this
  intro k
  induction k with
  | zero => intro _ _; exact ⟨[], Trail.nil, rfl⟩
  | succ k ih =>
    intro hk hr
    obtain ⟨xs, h1, h2⟩ := ih (by omega) hr
    obtain ⟨p, hp⟩ : ∃ p, r[k]? = some p := ⟨_, List.getElem?_eq_getElem (by omega)⟩
    have hmem : p ∈ r := List.mem_of_getElem? hp
    have et : r.take (k + 1) = r.take k ++ [p] := by rw [List.take_add_one, hp]; rfl
    have ed : (rowL r ++ b).drop (rowL (r.take k)).length = recL p ++ (rowL (r.drop (k + 1)) ++ b) := by
      have e : r = r.take k ++ (p :: r.drop (k + 1)) := by
        have := (List.take_append_drop (k + 1) r).symm
        rw [et, List.append_assoc] at this
        exact this
      have e2 : rowL r = rowL (r.take k) ++ (recL p ++ rowL (r.drop (k + 1))) := by
        conv => lhs; rw [e]
        rw [rowL_append, rowL]
      rw [e2, List.append_assoc, List.drop_append_of_le_length (Nat.le_refl _), List.drop_length]
      simp
    obtain ⟨g1, g2, g3⟩ := g_rec p (rowL (r.drop (k + 1)) ++ b) (hr p hmem)
    have := Trail.snoc h1 (by rw [ed]; exact g1)
    rw [ed, g2, g3] at this
    have el : (rowL (r.take (k + 1))).length = (rowL (r.take k)).length + 8 + p.length := by rw [et, rowL_snoc, List.length_append, recL_len]; omega
    exact ⟨_, by rw [el]; exact this, by rw [pays_snoc, h2, et]⟩
/-- Of a row that is cut off just the records that are whole are there. -/
theorem done_cut (r : List Bs) (hr : ∀ p ∈ r, p.length ≤ 65536) (m k : Nat) (hm : m ≤ r.length) (h1 : (rowL (r.take m)).length ≤ k) (h2 : m < r.length → k < (rowL (r.take (m + 1))).length) (h3 : k ≤ (rowL r).length) :
    ∃ xs, Done ((rowL r).take k) xs (rowL (r.take m)).length ∧ pays xs = r.take m := by
  have e0 : rowL r = rowL (r.take m) ++ rowL (r.drop m) := by rw [← rowL_append, List.take_append_drop]
  have e1 : (rowL r).take k = rowL (r.take m) ++ (rowL (r.drop m)).take (k - (rowL (r.take m)).length) := by
    rw [e0, List.take_append, List.take_of_length_le h1]
  obtain ⟨xs, t1, t2⟩ := trail_row ((rowL (r.drop m)).take (k - (rowL (r.take m)).length)) (r.take m) (fun p hp => hr p (List.mem_of_mem_take hp))
  refine ⟨xs, ⟨by rw [e1]; exact t1, ?_⟩, t2⟩
  rw [e1, List.drop_append_of_le_length (Nat.le_refl _), List.drop_length, List.nil_append]
  by_cases hlt : m < r.length
  · obtain ⟨p, hp⟩ : ∃ p, r[m]? = some p := ⟨_, List.getElem?_eq_getElem hlt⟩
    have et : r.take (m + 1) = r.take m ++ [p] := by rw [List.take_add_one, hp]; rfl
    have hk := h2 hlt
    rw [et, rowL_snoc, List.length_append, recL_len] at hk
    have ed : r.drop m = p :: r.drop (m + 1) := by
      obtain ⟨hl, he⟩ := List.getElem?_eq_some_iff.1 hp
      rw [← he]; exact List.drop_eq_getElem_cons hl
    rw [ed, rowL]
    exact g_cut p _ (hr p (List.mem_of_getElem? hp)) (by omega)
  · have : r.drop m = [] := List.drop_eq_nil_of_le (by omega)
    rw [this]
    exact g_short (by simp [rowL])
end Go.Proofs.YtlaepdpgegoopaaGreat.Rc
