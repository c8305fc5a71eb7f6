
/- Rows that came in, gathered in a slice of the call's own, an empty one exchanged for one with an empty text. -/
import Derived.Test.YtjhhkfigdamaeaaDoorCsvMem
import Derived.Test.YtjhhkfigdamaeaaDoorCsvLaws
set_option linter.unusedVariables false
namespace Go.Proofs.YtjhhkfigdamaeaaDoor
open Go.ChangeShapes Go.WideShapes Go.ChangeAt Go.RowKit Csv

/-- An element: what came in, or a row of one empty text, laid since. -/
def Elem (w W : World) (vW v' : Value) (r : List Bs) : Prop :=
  StrsAt w v' r ∨ ∃ g : Nat, v' = .slice (some ⟨g, 0, none⟩) 1 1 ∧ r = [[]] ∧ W.cell? ⟨g, 0, none⟩ = some (sv []) ∧ vW.ownBlock ≠ some g

/-- The first k are gathered. -/
def Want (w W : World) (vW : Value) (L : List (List Bs)) (k : Nat) : Prop :=
  ∃ vals : List Value, W.ownsRow w.heap.size tR 1 vW k vals ∧ ∀ (j : Nat) (r : List Bs), j < k → L[j]? = some r → ∃ v' : Value, vals[j]? = some v' ∧ Elem w W vW v' (norm r)

theorem Want.start (w W : World) (L : List (List Bs)) : Want w W (.slice none 0 0) L 0 := ⟨[], World.ownsRow_nil _ _ _ _, fun j r h => by omega⟩

theorem Elem.step {w W W' : World} {vW vW' v' : Value} {r : List Bs} (h : Elem w W vW v' r) (hg : W.grownBy W' vW.ownBlock) (hat : vW'.ownBlock = vW.ownBlock ∨ vW'.ownBlock = some W.heap.size) : Elem w W' vW' v' r := by
  rcases h with h | ⟨g, h1, h2, h3, h4⟩
  · exact Or.inl h
  · refine Or.inr ⟨g, h1, h2, hg.cell h3 (fun e => h4 e.symm), ?_⟩
    rcases hat with e | e
    · rw [e]; exact h4
    · rw [e]
      intro e2
      have := World.block_lt_of_cell? W _ h3
      simp only [Option.some.injEq] at e2
      simp only at this
      omega
theorem Elem.alloc {w W : World} {vW v' : Value} {r : List Bs} (h : Elem w W vW v' r) (o : Obj) : Elem w (W.alloc o) vW v' r := by
  rcases h with h | ⟨g, h1, h2, h3, h4⟩
  · exact Or.inl h
  · exact Or.inr ⟨g, h1, h2, cell_keeps ((Below.refl _ _).alloc (Nat.le_refl _) _) h3, h4⟩
theorem Elem.set {w W : World} {gW n c i : Nat} {u v' : Value} {r : List Bs} (h : Elem w W (.slice (some ⟨gW, 0, none⟩) n c) v' r) : Elem w (W.setCell ⟨gW, i, none⟩ u) (.slice (some ⟨gW, 0, none⟩) n c) v' r := by
  rcases h with h | ⟨g, h1, h2, h3, h4⟩
  · exact Or.inl h
  · refine Or.inr ⟨g, h1, h2, ?_, h4⟩
    rw [World.cell?_setCell_other (h := by intro e; apply h4; simp only [Value.ownBlock]; injection e with e1 _ _; rw [e1])]
    exact h3

/-- One more is gathered, as it came in. -/
def Grown (w W : World) (gW cap k : Nat) (vr : Value) (L : List (List Bs)) : Prop :=
  ∃ vals : List Value, W.ownsRow w.heap.size tR 1 (.slice (some ⟨gW, 0, none⟩) (k + 1) cap) (k + 1) (vals ++ [vr]) ∧ vals.length = k ∧
    ∀ (j : Nat) (r : List Bs), j < k → L[j]? = some r → ∃ v' : Value, vals[j]? = some v' ∧ Elem w W (.slice (some ⟨gW, 0, none⟩) (k + 1) cap) v' (norm r)

theorem grown_of {w W W' : World} {vW vr : Value} {vals : List Value} {gW cap k : Nat} {L : List (List Bs)} (hel : ∀ (j : Nat) (r : List Bs), j < k → L[j]? = some r → ∃ v' : Value, vals[j]? = some v' ∧ Elem w W vW v' (norm r))
    (hl : vals.length = k) (ho : W'.ownsRow w.heap.size tR 1 (.slice (some ⟨gW, 0, none⟩) (k + 1) cap) (k + 1) (vals ++ [vr])) (hg : W.grownBy W' vW.ownBlock)
    (hat : (Value.slice (some ⟨gW, 0, none⟩) (k + 1) cap).ownBlock = vW.ownBlock ∨ (Value.slice (some ⟨gW, 0, none⟩) (k + 1) cap).ownBlock = some W.heap.size) : Grown w W' gW cap k vr L := by
  refine ⟨vals, ho, hl, fun j r hj hr => ?_⟩
  obtain ⟨v', h1, h2⟩ := hel j r hj hr
  exact ⟨v', h1, h2.step hg hat⟩
theorem Grown.cell {w W : World} {gW cap k : Nat} {vr : Value} {L : List (List Bs)} (h : Grown w W gW cap k vr L) : W.cell? ⟨gW, k, none⟩ = some vr ∧ W.frozen? ⟨gW, k, none⟩ = false ∧ gW < W.heap.size := by
  obtain ⟨vals, ho, hl, _⟩ := h
  refine ⟨?_, ho.frozenAt k, (ho.lt gW rfl).2⟩
  rw [ho.cellAt k (by omega), ← hl]; simp
theorem Grown.below {w W : World} {gW cap k : Nat} {vr : Value} {L : List (List Bs)} (h : Grown w W gW cap k vr L) : w.heap.size ≤ gW := by
  obtain ⟨vals, ho, _⟩ := h; exact (ho.lt gW rfl).1
theorem Grown.keep {w W : World} {gW cap k : Nat} {vr : Value} {L : List (List Bs)} {r : List Bs} (h : Grown w W gW cap k vr L) (hr : L[k]? = some r) (hs : StrsAt w vr r) (hne : r ≠ []) : Want w W (.slice (some ⟨gW, 0, none⟩) (k + 1) cap) L (k + 1) := by
  obtain ⟨vals, ho, hl, hel⟩ := h
  refine ⟨_, ho, fun j q hj hq => ?_⟩
  by_cases hjk : j < k
  · obtain ⟨v', h1, h2⟩ := hel j q hjk hq
    exact ⟨v', by rw [List.getElem?_append_left (by omega)]; exact h1, h2⟩
  · obtain rfl : j = k := by omega
    rw [hr] at hq
    cases hq
    refine ⟨vr, by rw [← hl]; simp, Or.inl ?_⟩
    unfold norm; rw [if_neg hne]; exact hs
theorem Grown.fresh {w W : World} {gW cap k : Nat} {vr : Value} {L : List (List Bs)} (h : Grown w W gW cap k vr L) (hr : L[k]? = some []) :
    Want w ((W.setCell ⟨gW, k, none⟩ (.slice (some ⟨W.heap.size, 0, none⟩) 1 1)).alloc (.cells #[.string ⟨#[]⟩] tS)) (.slice (some ⟨gW, 0, none⟩) (k + 1) cap) L (k + 1) := by
  have hgl := h.cell.2.2
  obtain ⟨vals, ho, hl, hel⟩ := h
  refine ⟨_, (ho.stored k (.slice (some ⟨W.heap.size, 0, none⟩) 1 1)).1.alloc _, fun j q hj hq => ?_⟩
  by_cases hjk : j < k
  · obtain ⟨v', h1, h2⟩ := hel j q hjk hq
    refine ⟨v', ?_, h2.set.alloc _⟩
    rw [List.getElem?_set_ne (by omega), List.getElem?_append_left (by omega)]; exact h1
  · obtain rfl : j = k := by omega
    rw [hr] at hq
    cases hq
    refine ⟨.slice (some ⟨W.heap.size, 0, none⟩) 1 1, ?_, Or.inr ⟨W.heap.size, rfl, rfl, ?_, ?_⟩⟩
    · rw [List.getElem?_set_self (by simp; omega)]
    · have h := cell_one_new (W.setCell ⟨gW, j, none⟩ (.slice (some ⟨W.heap.size, 0, none⟩) 1 1)) (.string ⟨#[]⟩) tS 0 (.string ⟨#[]⟩) rfl
      have e0 : (⟨(W.setCell ⟨gW, j, none⟩ (.slice (some ⟨W.heap.size, 0, none⟩) 1 1)).heap.size, 0, none⟩ : Addr).add 0 = ⟨W.heap.size, 0, none⟩ := by simp [Addr.add]
      rw [e0] at h
      exact h
    · simp only [Value.ownBlock, ne_eq, Option.some.injEq]; omega

/-- All are gathered. -/
theorem Want.rows {w W : World} {vW : Value} {L : List (List Bs)} (h : Want w W vW L L.length) (hk : Keeps w W) : RowsAt W vW (L.map norm) := by
  obtain ⟨vals, ho, hel⟩ := h
  have hm := own_max ho
  have hh := ho
  rcases ho.2 with ⟨rfl, h0⟩ | ⟨g, cap, cur, rfl, hb, hg, g1, g2, g3, g4⟩
  · have : L = [] := List.length_eq_zero_iff.1 h0
    subst this
    exact RowsAt.nil W
  · refine ⟨_, cap, by rw [List.length_map], by rw [List.length_map]; exact hm, fun j q hq => ?_⟩
    rw [List.getElem?_map] at hq
    obtain ⟨r, hr, rfl⟩ := Option.map_eq_some_iff.1 hq
    have hj : j < L.length := (List.getElem?_eq_some_iff.1 hr).1
    obtain ⟨v', h1, h2⟩ := hel j r hj hr
    refine ⟨_, v', rfl, hh.cells rfl j v' h1, ?_⟩
    rcases h2 with h2 | ⟨g', e1, e2, e3, _⟩
    · exact h2.keeps hk
    · subst e1
      rw [e2]
      refine ⟨_, _, rfl, by simp [maxLen], fun i x hx => ?_⟩
      have hi : i = 0 := by
        have := (List.getElem?_eq_some_iff.1 hx).1
        simp at this; omega
      subst hi
      simp at hx
      subst hx
      refine ⟨_, rfl, ?_⟩
      have e0 : (⟨g', 0, none⟩ : Addr).add 0 = ⟨g', 0, none⟩ := by simp [Addr.add]
      rw [e0]; exact e3

theorem Want.cap {w W : World} {p : Option Addr} {n c k : Nat} {L : List (List Bs)} (h : Want w W (.slice p n c) L k) : k ≤ c := by
  obtain ⟨vals, ho, _⟩ := h
  rcases ho.2 with ⟨h1, h0⟩ | ⟨g, cap, cur, h1, _, _, g1, _⟩
  · omega
  · injection h1 with _ _ e; omega

/-- The first n of them. -/
theorem RowsAt.first {W : World} {p : Option Addr} {c n : Nat} {L K : List (List Bs)} (h : RowsAt W (.slice p L.length c) L) (hk : K = L.take n) (hn : n ≤ L.length) (c' : Nat) : RowsAt W (.slice p n c') K := by
  obtain ⟨p', c2, he, hm, h1⟩ := h
  injection he with e1 _ _
  subst e1
  have hl : K.length = n := by rw [hk, List.length_take]; omega
  refine ⟨p, c', by rw [hl], by omega, fun j r hr => ?_⟩
  have hj : j < n := by rw [← hl]; exact (List.getElem?_eq_some_iff.1 hr).1
  rw [hk, List.getElem?_take, if_pos hj] at hr
  exact h1 j r hr
end Go.Proofs.YtjhhkfigdamaeaaDoor
