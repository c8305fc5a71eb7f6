
/- NetOnce: the mathematics of counting. -/
import Derived.Test.YtajphjlfefhajaaNtMath
set_option linter.unusedVariables false
namespace Go.Proofs.Ytajphjlfefhajaa
namespace Nt
/-- How often a number is there. -/
def cnt (l : List Mg) (j : Nat) : Int := ((l.filter fun m => decide (m.q = (j : Int))).length : Int)
def one (m : Mg) (j : Nat) : Int := if m.q = (j : Int) then 1 else 0
theorem cnt_nil (j : Nat) : cnt [] j = 0 := rfl
theorem cnt_app (l l' : List Mg) (j : Nat) : cnt (l ++ l') j = cnt l j + cnt l' j := by
  unfold cnt
  rw [List.filter_append, List.length_append]; push_cast; rfl
theorem cnt_one (m : Mg) (j : Nat) : cnt [m] j = one m j := by
  unfold cnt one
  by_cases h : m.q = (j : Int)
  · simp [h]
  · simp [h]
theorem split_at {l : List Mg} {i : Nat} {m : Mg} (h : l[i]? = some m) : l = l.take i ++ ([m] ++ l.drop (i + 1)) := by
  obtain ⟨hi, e⟩ := List.getElem?_eq_some_iff.1 h
  have : l.drop i = m :: l.drop (i + 1) := by rw [List.drop_eq_getElem_cons hi, e]
  rw [List.singleton_append, ← this, List.take_append_drop]
theorem cnt_del {l : List Mg} {i : Nat} {m : Mg} (h : l[i]? = some m) (j : Nat) : cnt (l.take i ++ l.drop (i + 1)) j = cnt l j - one m j := by
  have e : cnt l j = cnt (l.take i) j + (one m j + cnt (l.drop (i + 1)) j) := by
    rw [← cnt_one, ← cnt_app, ← cnt_app, ← split_at h]
  rw [cnt_app, e]; omega
theorem cnt_set {l : List Mg} {i : Nat} {m : Mg} (h : l[i]? = some m) (x : Mg) (j : Nat) : cnt (l.set i x) j = cnt l j - one m j + one x j := by
  have e : cnt l j = cnt (l.take i) j + (one m j + cnt (l.drop (i + 1)) j) := by
    rw [← cnt_one, ← cnt_app, ← cnt_app, ← split_at h]
  have hi := (List.getElem?_eq_some_iff.1 h).1
  have e2 : l.set i x = l.take i ++ ([x] ++ l.drop (i + 1)) := by rw [List.set_eq_take_append_cons_drop, if_pos hi]; rfl
  rw [e2, cnt_app, cnt_app, cnt_one, e]; omega
theorem cnt_turn {l : List Mg} {i k : Nat} {x y : Mg} (hx : l[i]? = some x) (hy : l[k]? = some y) (j : Nat) : cnt ((l.set i y).set k x) j = cnt l j := by
  have hi := (List.getElem?_eq_some_iff.1 hx).1
  by_cases e : i = k
  · subst e
    rw [hx] at hy
    cases hy
    have h2 : (l.set i x)[i]? = some x := by rw [List.getElem?_set_self hi]
    rw [cnt_set h2, cnt_set hx]; omega
  · have h2 : (l.set i y)[k]? = some y := by rw [List.getElem?_set_ne e]; exact hy
    rw [cnt_set h2, cnt_set hx]; omega
theorem cnt_pos (l : List Mg) (j : Nat) : 0 ≤ cnt l j := by unfold cnt; omega
/-- What there is: what is wanted of each number is what was got of it, and what is on its way. -/
structure On (N k : Nat) (l : List Mg) (want got : List Int) : Prop where
  wl : want.length = N
  gl : got.length = N
  each : ∀ m ∈ l, 0 ≤ m.q ∧ m.q < (N : Int)
  few : l.length ≤ k
  bal : ∀ j, j < N → want.getD j 0 = got.getD j 0 + cnt l j
  wb : ∀ j, j < N → -(k : Int) ≤ want.getD j 0 ∧ want.getD j 0 ≤ (k : Int)
  gb : ∀ j, j < N → 0 ≤ got.getD j 0 ∧ got.getD j 0 ≤ (k : Int)
theorem getD_set {l : List Int} {i j : Nat} {v : Int} (hi : i < l.length) : (l.set i v).getD j 0 = if i = j then v else l.getD j 0 := by
  rw [List.getD_eq_getElem?_getD, List.getD_eq_getElem?_getD]
  by_cases e : i = j
  · subst e
    rw [List.getElem?_set_self hi, if_pos rfl]; rfl
  · rw [List.getElem?_set_ne e, if_neg e]
theorem on_start (N : Nat) : On N 0 [] (List.replicate N 0) (List.replicate N 0) where
  wl := by simp
  gl := by simp
  each := fun m hm => by simp at hm
  few := by simp
  bal := fun j hj => by rw [cnt_nil]; omega
  wb := fun j hj => by simp [List.getD_eq_getElem?_getD, hj]
  gb := fun j hj => by simp [List.getD_eq_getElem?_getD, hj]
variable {N k : Nat} {l : List Mg} {want got : List Int}
theorem On.more (h : On N k l want got) : On N (k + 1) l want got :=
  ⟨h.wl, h.gl, h.each, by have := h.few; omega, h.bal, fun j hj => by have := h.wb j hj; omega, fun j hj => by have := h.gb j hj; omega⟩
theorem one_self {m : Mg} {q j : Nat} (h : m.q = (q : Int)) : one m j = if q = j then 1 else 0 := by
  unfold one
  rw [h]
  by_cases e : q = j
  · subst e; simp
  · rw [if_neg e, if_neg (by omega)]
/-- One more on its way, wanted once more. -/
theorem On.put (h : On N k l want got) {m : Mg} {q : Nat} (hm : m.q = (q : Int)) (hq : q < N) : On N (k + 1) (l ++ [m]) (want.set q (want.getD q 0 + 1)) got where
  wl := by rw [List.length_set]; exact h.wl
  gl := h.gl
  each := fun x hx => by
    rcases List.mem_append.1 hx with hx | hx
    · exact h.each x hx
    · rw [List.mem_singleton.1 hx, hm]; omega
  few := by rw [List.length_append]; have := h.few; simp; omega
  bal := fun j hj => by
    rw [getD_set (by rw [h.wl]; exact hq), cnt_app, cnt_one, one_self hm]
    have := h.bal j hj
    by_cases e : q = j
    · subst e; rw [if_pos rfl, if_pos rfl]; omega
    · rw [if_neg e, if_neg e]; omega
  wb := fun j hj => by
    rw [getD_set (by rw [h.wl]; exact hq)]
    have h1 := h.wb j hj
    have h2 := h.wb q hq
    split <;> omega
  gb := fun j hj => by have := h.gb j hj; omega
/-- One that is taken out, and got. -/
theorem On.got1 (h : On N k l want got) {m : Mg} {i q : Nat} (hi : l[i]? = some m) (hm : m.q = (q : Int)) (hq : q < N) : On N (k + 1) (l.take i ++ l.drop (i + 1)) want (got.set q (got.getD q 0 + 1)) where
  wl := h.wl
  gl := by rw [List.length_set]; exact h.gl
  each := fun x hx => by
    rcases List.mem_append.1 hx with hx | hx
    · exact h.each x (List.mem_of_mem_take hx)
    · exact h.each x (List.mem_of_mem_drop hx)
  few := by rw [List.length_append, List.length_take, List.length_drop]; have := h.few; omega
  bal := fun j hj => by
    rw [getD_set (by rw [h.gl]; exact hq), cnt_del hi, one_self hm]
    have := h.bal j hj
    by_cases e : q = j
    · subst e; rw [if_pos rfl, if_pos rfl]; omega
    · rw [if_neg e, if_neg e]; omega
  wb := fun j hj => by have := h.wb j hj; omega
  gb := fun j hj => by
    rw [getD_set (by rw [h.gl]; exact hq)]
    have h1 := h.gb j hj
    have h2 := h.gb q hq
    split <;> omega
/-- One that is taken out, and wanted no more. -/
theorem On.drop1 (h : On N k l want got) {m : Mg} {i q : Nat} (hi : l[i]? = some m) (hm : m.q = (q : Int)) (hq : q < N) : On N (k + 1) (l.take i ++ l.drop (i + 1)) (want.set q (want.getD q 0 - 1)) got where
  wl := by rw [List.length_set]; exact h.wl
  gl := h.gl
  each := fun x hx => by
    rcases List.mem_append.1 hx with hx | hx
    · exact h.each x (List.mem_of_mem_take hx)
    · exact h.each x (List.mem_of_mem_drop hx)
  few := by rw [List.length_append, List.length_take, List.length_drop]; have := h.few; omega
  bal := fun j hj => by
    rw [getD_set (by rw [h.wl]; exact hq), cnt_del hi, one_self hm]
    have := h.bal j hj
    by_cases e : q = j
    · subst e; rw [if_pos rfl, if_pos rfl]; omega
    · rw [if_neg e, if_neg e]; omega
  wb := fun j hj => by
    rw [getD_set (by rw [h.wl]; exact hq)]
    have h1 := h.wb j hj
    have h2 := h.wb q hq
    split <;> omega
  gb := fun j hj => by have := h.gb j hj; omega
theorem mem_set2 {l : List Mg} {i : Nat} {x y : Mg} (h : y ∈ l.set i x) : y ∈ l ∨ y = x := List.mem_or_eq_of_mem_set h
theorem On.turn1 (h : On N k l want got) {x y : Mg} {i j : Nat} (hx : l[i]? = some x) (hy : l[j]? = some y) : On N (k + 1) ((l.set i y).set j x) want got where
  wl := h.wl
  gl := h.gl
  each := fun z hz => by
    rcases mem_set2 hz with hz | rfl
    · rcases mem_set2 hz with hz | rfl
      · exact h.each z hz
      · exact h.each _ (List.mem_of_getElem? hy)
    · exact h.each _ (List.mem_of_getElem? hx)
  few := by rw [List.length_set, List.length_set]; have := h.few; omega
  bal := fun n hn => by rw [cnt_turn hx hy]; exact h.bal n hn
  wb := fun n hn => by have := h.wb n hn; omega
  gb := fun n hn => by have := h.gb n hn; omega
/-- At the end: what was got is what was wanted. -/
theorem On.ends (h : On N k [] want got) {j : Nat} (hj : j < N) : got.getD j 0 = want.getD j 0 := by
  have := h.bal j hj
  rw [cnt_nil] at this
  omega
end Nt
end Go.Proofs.Ytajphjlfefhajaa
