
/- The plain mathematics of orders (layer 11). -/
import Derived.Test.YtkffpmeocfhcpaaDoorBitsMath
import Derived.Test.YtkffpmeocfhcpaaDoorKyMath
set_option linter.unusedVariables false
namespace Go.Proofs.YtkffpmeocfhcpaaDoor
open Bit Ky Go.RowKit
namespace Od

/-- A letter, a digit, - or _. -/
def nmI (c : Int) : Bool := decide ((65 ≤ c ∧ c ≤ 90) ∨ (97 ≤ c ∧ c ≤ 122) ∨ (48 ≤ c ∧ c ≤ 57) ∨ c = 45 ∨ c = 95)
def nameB (l : List UInt8) : Bool := l.all fun c => nmI c.toNat
theorem nameB_nil : nameB [] = true := rfl
theorem nameB_snoc (l : List UInt8) (c : UInt8) : nameB (l ++ [c]) = (nameB l && nmI c.toNat) := by simp [nameB]
theorem nameB_no {l : List UInt8} {k : Nat} (h : k < l.length) (hc : nmI (l[k]).toNat = false) : nameB l = false := by
  unfold nameB
  rw [List.all_eq_false]
  exact ⟨l[k], List.getElem_mem _, by rw [hc]; decide⟩
theorem nmI_high {c : Int} (h : 128 ≤ c) : nmI c = false := by
  unfold nmI
  exact decide_eq_false (by omega)

/-- What an order may be. -/
structure Fit (i : Int) (r s : ByteArray) (q a : Int) : Prop where
  i0 : 1 ≤ i
  i1 : i ≤ 60
  q0 : 1 ≤ q
  q1 : q ≤ 999
  a0 : 1 ≤ a
  a1 : a ≤ 1099511627776
  r0 : 1 ≤ r.size
  s0 : 1 ≤ s.size
  r1 : r.size ≤ 16
  s1 : s.size ≤ 8
  nr : nameB r.data.toList = true
  ns : nameB s.data.toList = true
def inB (i q a : Int) (r s : ByteArray) : Bool := decide (1 ≤ i ∧ i ≤ 60 ∧ 1 ≤ q ∧ q ≤ 999 ∧ 1 ≤ a ∧ a ≤ 1099511627776 ∧ 1 ≤ r.size ∧ 1 ≤ s.size)
def checkO (i : Int) (r s : ByteArray) (q a : Int) : Int :=
  if inB i q a r s = true then (if r.size ≤ 16 ∧ s.size ≤ 8 then (if nameB r.data.toList = true ∧ nameB s.data.toList = true then 0 else 2) else 3) else 2
theorem check_fit {i : Int} {r s : ByteArray} {q a : Int} : checkO i r s q a = 0 ↔ Fit i r s q a := by
  unfold checkO inB
  simp only [decide_eq_true_eq]
  constructor
  · intro h
    split at h
    · rename_i h1
      split at h
      · rename_i h2
        split at h
        · rename_i h3
          obtain ⟨a1, a2, a3, a4, a5, a6, a7, a8⟩ := h1
          exact ⟨a1, a2, a3, a4, a5, a6, a7, a8, h2.1, h2.2, h3.1, h3.2⟩
        · exact absurd h (by decide)
      · exact absurd h (by decide)
    · exact absurd h (by decide)
  · intro h
    rw [if_pos ⟨h.i0, h.i1, h.q0, h.q1, h.a0, h.a1, h.r0, h.s0⟩, if_pos ⟨h.r1, h.s1⟩, if_pos ⟨h.nr, h.ns⟩]
theorem check_arg {i : Int} {r s : ByteArray} {q a : Int} (h : ¬ (1 ≤ i ∧ i ≤ 60 ∧ 1 ≤ q ∧ q ≤ 999 ∧ 1 ≤ a ∧ a ≤ 1099511627776 ∧ 1 ≤ r.size ∧ 1 ≤ s.size)) : checkO i r s q a = 2 := by
  unfold checkO inB
  rw [if_neg (by simpa using h)]
theorem check_long {i : Int} {r s : ByteArray} {q a : Int} (h : 1 ≤ i ∧ i ≤ 60 ∧ 1 ≤ q ∧ q ≤ 999 ∧ 1 ≤ a ∧ a ≤ 1099511627776 ∧ 1 ≤ r.size ∧ 1 ≤ s.size) (g : ¬ (r.size ≤ 16 ∧ s.size ≤ 8)) : checkO i r s q a = 3 := by
  unfold checkO inB
  rw [if_pos (by simpa using h), if_neg g]
theorem check_name {i : Int} {r s : ByteArray} {q a : Int} (h : 1 ≤ i ∧ i ≤ 60 ∧ 1 ≤ q ∧ q ≤ 999 ∧ 1 ≤ a ∧ a ≤ 1099511627776 ∧ 1 ≤ r.size ∧ 1 ≤ s.size) (g : r.size ≤ 16 ∧ s.size ≤ 8) (n : ¬ (nameB r.data.toList = true ∧ nameB s.data.toList = true)) : checkO i r s q a = 2 := by
  unfold checkO inB
  rw [if_pos (by simpa using h), if_pos g, if_neg n]
/-- The four answers of Check. -/
theorem check_ways (i : Int) (r s : ByteArray) (q a : Int) : checkO i r s q a = 0 ∨ checkO i r s q a = 2 ∨ checkO i r s q a = 3 := by
  unfold checkO
  split
  · split
    · split <;> simp
    · simp
  · simp

/-- An order's bytes. -/
def rawO (i : Int) (r s : ByteArray) (q a : Int) : List UInt8 := sev i.toNat ++ text r.data.toList ++ text s.data.toList ++ sev q.toNat ++ sev a.toNat
def putO (i : Int) (r s : ByteArray) (q a : Int) : List UInt8 := if checkO i r s q a = 0 then rawO i r s q a else []
theorem putO_yes {i : Int} {r s : ByteArray} {q a : Int} (h : Fit i r s q a) : putO i r s q a = rawO i r s q a := by unfold putO; rw [if_pos (check_fit.2 h)]
theorem putO_no {i : Int} {r s : ByteArray} {q a : Int} (h : ¬ checkO i r s q a = 0) : putO i r s q a = [] := by unfold putO; rw [if_neg h]
theorem raw_ne {i : Int} {r s : ByteArray} {q a : Int} : 1 ≤ (rawO i r s q a).length := by
  unfold rawO
  have := sev_pos i.toNat
  simp only [List.length_append]
  omega
theorem raw_le {i : Int} {r s : ByteArray} {q a : Int} (h : Fit i r s q a) : (rawO i r s q a).length ≤ 74 := by
  unfold rawO
  have ht : topN = 18446744073709551616 := rfl
  have e1 := sev_le (n := i.toNat) (by have := h.i1; omega)
  have e2 := sev_le (n := q.toNat) (by have := h.q1; omega)
  have e3 := sev_le (n := a.toNat) (by have := h.a1; omega)
  have e4 := sev_le (n := r.data.toList.length) (by rw [len_data]; have := h.r1; omega)
  have e5 := sev_le (n := s.data.toList.length) (by rw [len_data]; have := h.s1; omega)
  have e6 := h.r1
  have e7 := h.s1
  rw [← len_data] at e6 e7
  simp only [List.length_append, text]
  omega

/-! ### What bytes say -/
def g1 (l : List UInt8) : Nat := rdV l
def g2 (l : List UInt8) : ByteArray := ⟨(ctT (rdR l)).toArray⟩
def g3 (l : List UInt8) : ByteArray := ⟨(ctT (ctR (rdR l))).toArray⟩
def g4 (l : List UInt8) : Nat := rdV (ctR (ctR (rdR l)))
def g5 (l : List UInt8) : Nat := rdV (rdR (ctR (ctR (rdR l))))
theorem read_raw {i : Int} {r s : ByteArray} {q a : Int} (h : Fit i r s q a) (b : List UInt8) :
    (g1 (rawO i r s q a ++ b) : Int) = i ∧ g2 (rawO i r s q a ++ b) = r ∧ g3 (rawO i r s q a ++ b) = s ∧ (g4 (rawO i r s q a ++ b) : Int) = q ∧ (g5 (rawO i r s q a ++ b) : Int) = a := by
  have ht : topN = 18446744073709551616 := rfl
  have e : rawO i r s q a ++ b = sev i.toNat ++ (text r.data.toList ++ (text s.data.toList ++ (sev q.toNat ++ (sev a.toNat ++ b)))) := by simp [rawO]
  obtain ⟨_, v1, r1⟩ := rd_sev (n := i.toNat) (by have := h.i1; omega) (text r.data.toList ++ (text s.data.toList ++ (sev q.toNat ++ (sev a.toNat ++ b))))
  obtain ⟨_, v2, r2⟩ := ct_text (l := r.data.toList) (by rw [len_data]; have := h.r1; omega) (text s.data.toList ++ (sev q.toNat ++ (sev a.toNat ++ b)))
  obtain ⟨_, v3, r3⟩ := ct_text (l := s.data.toList) (by rw [len_data]; have := h.s1; omega) (sev q.toNat ++ (sev a.toNat ++ b))
  obtain ⟨_, v4, r4⟩ := rd_sev (n := q.toNat) (by have := h.q1; omega) (sev a.toNat ++ b)
  obtain ⟨_, v5, r5⟩ := rd_sev (n := a.toNat) (by have := h.a1; omega) b
  have := h.i0
  have := h.q0
  have := h.a0
  unfold g1 g2 g3 g4 g5
  rw [e, v1, r1, v2, r2, v3, r3, v4, r4, v5]
  exact ⟨by omega, by simp, by simp, by omega, by omega⟩
/-- Is it an order's bytes? -/
def okO (l : List UInt8) : Bool := decide (checkO (g1 l) (g2 l) (g3 l) (g4 l) (g5 l) = 0) && (rawO (g1 l) (g2 l) (g3 l) (g4 l) (g5 l) == l)
theorem ok_iff {l : List UInt8} : okO l = true ↔ Fit (g1 l) (g2 l) (g3 l) (g4 l) (g5 l) ∧ rawO (g1 l) (g2 l) (g3 l) (g4 l) (g5 l) = l := by
  unfold okO
  simp only [Bool.and_eq_true, decide_eq_true_eq, beq_iff_eq, check_fit]
theorem ok_raw {i : Int} {r s : ByteArray} {q a : Int} (h : Fit i r s q a) : okO (rawO i r s q a) = true := by
  obtain ⟨e1, e2, e3, e4, e5⟩ := read_raw h []
  rw [List.append_nil] at e1 e2 e3 e4 e5
  refine ok_iff.2 ?_
  rw [e1, e2, e3, e4, e5]
  exact ⟨h, rfl⟩
theorem ok_more {i : Int} {r s : ByteArray} {q a : Int} (h : Fit i r s q a) {b : List UInt8} (hb : b ≠ []) : okO (rawO i r s q a ++ b) = false := by
  cases ho : okO (rawO i r s q a ++ b) with
  | false => rfl
  | true =>
    obtain ⟨_, h2⟩ := ok_iff.1 ho
    obtain ⟨e1, e2, e3, e4, e5⟩ := read_raw h b
    rw [e1, e2, e3, e4, e5] at h2
    have := congrArg List.length h2
    rw [List.length_append] at this
    have hl : 0 < b.length := List.length_pos_iff.2 hb
    omega
theorem ok_cut {i : Int} {r s : ByteArray} {q a : Int} (h : Fit i r s q a) {k : Nat} (hk : k < (rawO i r s q a).length) : okO ((rawO i r s q a).take k) = false := by
  cases ho : okO ((rawO i r s q a).take k) with
  | false => rfl
  | true =>
    obtain ⟨hf, h2⟩ := ok_iff.1 ho
    have hne : (rawO i r s q a).drop k ≠ [] := by
      intro e
      have := congrArg List.length e
      rw [List.length_drop] at this
      simp at this
      omega
    have := ok_more hf hne
    rw [h2, List.take_append_drop, ok_raw h] at this
    cases this
theorem wraps {n : Nat} {m : Int} (h1 : 1 ≤ wrap64 n) (h2 : wrap64 n ≤ m) (hm : m ≤ 1099511627776) (hn : n < topN) : wrap64 n = n := by
  rw [i64w_def] at h1 h2 ⊢
  have ht : topN = 18446744073709551616 := rfl
  have ht2 : top = 9223372036854775808 := rfl
  rw [ht, ht2] at h1 h2 ⊢
  rw [ht] at hn
  omega
theorem wraps_small {n : Nat} {m : Int} (h2 : (n : Int) ≤ m) (hm : m ≤ 1099511627776) : wrap64 n = n := i64w (by unfold top; omega) (by unfold top; omega)
/-- The numbers, as int. -/
theorem fit_wrap {n1 n4 n5 : Nat} {r s : ByteArray} (h1 : n1 < topN) (h4 : n4 < topN) (h5 : n5 < topN) (h : Fit (wrap64 n1) r s (wrap64 n4) (wrap64 n5)) : Fit n1 r s n4 n5 := by
  have e1 := wraps h.i0 h.i1 (by decide) h1
  have e4 := wraps h.q0 h.q1 (by decide) h4
  have e5 := wraps h.a0 h.a1 (by decide) h5
  rw [e1, e4, e5] at h
  exact h

/-! ### What parties are asked -/
def asks (i : Int) (r s : ByteArray) (q a : Int) (d : Int) : Bool := decide (checkO i r s q a = 0) && decide (0 ≤ d ∧ d < 6)
def mayM (t o d : Int) (s : ByteArray) (q a c : Int) : Bool :=
  checkK o d && decide (t = partyK d) && decide (c = 0) &&
    (if t = 0 then decide (s.size = 0) && decide (q = 0) && decide (1 ≤ a) && decide (a ≤ 1099511627776)
     else decide (1 ≤ s.size) && decide (s.size ≤ 8) && nameB s.data.toList && decide (1 ≤ q) && decide (q ≤ 999) && decide (a = 0))
end Od
end Go.Proofs.YtkffpmeocfhcpaaDoor
