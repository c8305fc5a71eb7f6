
/- Rows of texts in memory: as a call reads them, as a call builds them. -/
import Derived.Test.YtnkcbefamajghaaDoorArith
import Derived.Test.YtnkcbefamajghaaDoorCsvMath
import Derived.Laws.OwnMore
import Derived.Maps.AppendAt
import Derived.Deep.OwnRows
set_option linter.unusedVariables false
namespace Go.Proofs.YtnkcbefamajghaaDoor
open Go.ChangeShapes Go.WideShapes Go.ChangeAt Go.RowKit Csv

abbrev tS : TypeId := 9
abbrev tR : TypeId := 43

/-- A text, as a value; a row of texts. -/
abbrev sv (x : Bs) : Value := .string ⟨x.toArray⟩
def svs (r : List Bs) : List Value := r.map sv
theorem svs_len (r : List Bs) : (svs r).length = r.length := by simp [svs]
theorem svs_snoc (r : List Bs) (x : Bs) : svs r ++ [sv x] = svs (r ++ [x]) := by simp [svs]

/-- What is read of a row; of rows. -/
def StrsAt (w : World) (v : Value) (xs : List Bs) : Prop :=
  ∃ p c, v = .slice p xs.length c ∧ xs.length ≤ maxLen ∧ ∀ j x, xs[j]? = some x → ∃ a : Addr, p = some a ∧ w.cell? (a.add j) = some (sv x)
def RowsAt (w : World) (v : Value) (L : List (List Bs)) : Prop :=
  ∃ p c, v = .slice p L.length c ∧ L.length ≤ maxLen ∧ ∀ j r, L[j]? = some r → ∃ (a : Addr) (v' : Value), p = some a ∧ w.cell? (a.add j) = some v' ∧ StrsAt w v' r

theorem cell_keeps {w w' : World} (k : Keeps w w') {a : Addr} {v : Value} (h : w.cell? a = some v) : w'.cell? a = some v := by
  rw [k.cell (World.block_lt_of_cell? w a h)]; exact h
theorem StrsAt.keeps {w w' : World} {v : Value} {xs : List Bs} (h : StrsAt w v xs) (k : Keeps w w') : StrsAt w' v xs := by
  obtain ⟨p, c, h1, h2, h3⟩ := h
  refine ⟨p, c, h1, h2, fun j x hx => ?_⟩
  obtain ⟨a, ha, hc⟩ := h3 j x hx
  exact ⟨a, ha, cell_keeps k hc⟩
theorem RowsAt.keeps {w w' : World} {v : Value} {L : List (List Bs)} (h : RowsAt w v L) (k : Keeps w w') : RowsAt w' v L := by
  obtain ⟨p, c, h1, h2, h3⟩ := h
  refine ⟨p, c, h1, h2, fun j r hr => ?_⟩
  obtain ⟨a, v', ha, hc, hs⟩ := h3 j r hr
  exact ⟨a, v', ha, cell_keeps k hc, hs.keeps k⟩
theorem RowsAt.nil (w : World) : RowsAt w (.slice none 0 0) [] := ⟨none, 0, rfl, by simp [maxLen], fun j r h => by simp at h⟩
theorem StrsAt.nil (w : World) : StrsAt w (.slice none 0 0) [] := ⟨none, 0, rfl, by simp [maxLen], fun j r h => by simp at h⟩

theorem grown_of_keeps {w w' : World} (k : Keeps w w') : w.grownBy w' none := ⟨k.os, k.tape, k.output, k.size, fun i hi _ => k.block i hi⟩

theorem own_max {w : World} {B : Nat} {e : TypeId} {v : Value} {n : Nat} {xs : List Value} (h : w.ownsRow B e 1 v n xs) : n ≤ maxLen := by
  rcases h.2 with ⟨_, rfl⟩ | ⟨g, cap, cur, _, _, _, h1, h2, _⟩
  · simp
  · exact Nat.le_trans h1 h2
theorem own_strs {w : World} {B : Nat} {v : Value} {r : List Bs} (h : w.ownsRow B tS 1 v r.length (svs r)) : StrsAt w v r := by
  have hm := own_max h
  have hh := h
  rcases h.2 with ⟨rfl, h0⟩ | ⟨g, cap, cur, rfl, hb, hg, h1, h2, h3, h4⟩
  · have : r = [] := List.length_eq_zero_iff.1 h0
    subst this
    exact StrsAt.nil w
  · refine ⟨_, _, rfl, hm, fun j x hx => ⟨_, rfl, ?_⟩⟩
    exact hh.cells rfl j (sv x) (by simp [svs, hx])
/-- Rows of different types lie in different blocks. -/
theorem own_ne {w : World} {B B' : Nat} {v v' : Value} {n n' : Nat} {xs xs' : List Value} {e e' : TypeId} (h : w.ownsRow B e 1 v n xs) (h' : w.ownsRow B' e' 1 v' n' xs') (hne : e ≠ e') : v.ownBlock = none ∨ v.ownBlock ≠ v'.ownBlock := by
  rcases h.2 with ⟨rfl, _⟩ | ⟨g, cap, cur, rfl, hb, hg, _⟩
  · exact Or.inl rfl
  · right
    rcases h'.2 with ⟨rfl, _⟩ | ⟨g', cap', cur', rfl, hb', hg', _⟩
    · simp [Value.ownBlock]
    · simp only [Value.ownBlock, ne_eq, Option.some.injEq]
      rintro rfl
      rw [hg] at hg'
      simp only [Option.some.injEq, Obj.cells.injEq] at hg'
      exact hne hg'.2.1

/-- Rows that a call builds: those that are done, the one under way; each in a block of its own. -/
def Built (w : World) (B : Nat) (vR vr : Value) (L : List (List Bs)) (row : List Bs) : Prop :=
  ∃ vals : List Value, w.ownsRow B tR 1 vR L.length vals ∧ w.ownsRow B tS 1 vr row.length (svs row) ∧
    ∀ (j : Nat) (r : List Bs), L[j]? = some r → ∃ v' : Value, vals[j]? = some v' ∧ w.ownsRow B tS 1 v' r.length (svs r) ∧ (∀ g, vr.ownBlock = some g → v'.ownBlock ≠ some g) ∧ ∀ (i : Nat) (u : Value) (g : Nat), i ≠ j → vals[i]? = some u → u.ownBlock = some g → v'.ownBlock ≠ some g

theorem Built.nil (w : World) (B : Nat) : Built w B (.slice none 0 0) (.slice none 0 0) [] [] :=
  ⟨[], World.ownsRow_nil _ _ _ _, World.ownsRow_nil _ _ _ _, fun j r h => by simp at h⟩
theorem Built.keeps {w w' : World} {B : Nat} {vR vr : Value} {L : List (List Bs)} {row : List Bs} (h : Built w B vR vr L row) (k : Keeps w w') : Built w' B vR vr L row := by
  obtain ⟨vals, h1, h2, h3⟩ := h
  have hg := grown_of_keeps k
  have hn : ∀ v : Value, v.ownBlock = none ∨ v.ownBlock ≠ none := fun v => by cases v.ownBlock <;> simp
  refine ⟨vals, h1.kept hg (hn _), h2.kept hg (hn _), fun j r hr => ?_⟩
  obtain ⟨v', e1, e2, e3⟩ := h3 j r hr
  exact ⟨v', e1, e2.kept hg (hn _), e3⟩
theorem Built.field {w w' : World} {B : Nat} {vR vr vr' : Value} {L : List (List Bs)} {row : List Bs} {x : Bs} (h : Built w B vR vr L row)
    (ho : w'.ownsRow B tS 1 vr' (row.length + 1) (svs row ++ [sv x])) (hg : w.grownBy w' vr.ownBlock) (hat : vr'.ownBlock = vr.ownBlock ∨ vr'.ownBlock = some w.heap.size) : Built w' B vR vr' L (row ++ [x]) := by
  obtain ⟨vals, h1, h2, h3⟩ := h
  refine ⟨vals, h1.kept hg (own_ne h1 h2 (by decide)), by rw [← svs_snoc, List.length_append]; exact ho, fun j r hr => ?_⟩
  obtain ⟨v', e1, e2, e3⟩ := h3 j r hr
  have hne : v'.ownBlock = none ∨ v'.ownBlock ≠ vr.ownBlock := by
    cases hv : vr.ownBlock with
    | none => cases v'.ownBlock <;> simp
    | some g => exact Or.inr (e3.1 g hv)
  refine ⟨v', e1, e2.kept hg hne, fun g hg' => ?_, e3.2⟩
  rcases hat with ha | ha
  · exact e3.1 g (by rw [← ha]; exact hg')
  · intro e
    have := (e2.lt g e).2
    rw [ha] at hg'
    simp only [Option.some.injEq] at hg'
    omega
theorem built_row {w w' : World} {B : Nat} {vR vR' vr : Value} {L : List (List Bs)} {row : List Bs} {vals : List Value} (h1 : w.ownsRow B tR 1 vR L.length vals) (h2 : w.ownsRow B tS 1 vr row.length (svs row))
    (h3 : ∀ (j : Nat) (r : List Bs), L[j]? = some r → ∃ v' : Value, vals[j]? = some v' ∧ w.ownsRow B tS 1 v' r.length (svs r) ∧ (∀ g, vr.ownBlock = some g → v'.ownBlock ≠ some g) ∧ ∀ (i : Nat) (u : Value) (g : Nat), i ≠ j → vals[i]? = some u → u.ownBlock = some g → v'.ownBlock ≠ some g)
    (ho : w'.ownsRow B tR 1 vR' (L.length + 1) (vals ++ [vr])) (hg : w.grownBy w' vR.ownBlock) : Built w' B vR' (.slice none 0 0) (L ++ [row]) [] := by
  have hl : vals.length = L.length := by have := h1.1; omega
  refine ⟨vals ++ [vr], by rw [List.length_append]; exact ho, World.ownsRow_nil _ _ _ _, fun j r hr => ?_⟩
  by_cases hj : j < L.length
  · rw [List.getElem?_append_left hj] at hr
    obtain ⟨v', e1, e2, e3⟩ := h3 j r hr
    refine ⟨v', by rw [List.getElem?_append_left (by omega)]; exact e1, e2.kept hg (own_ne e2 h1 (by decide)), fun g hg' => by simp [Value.ownBlock] at hg', fun i u g hne hu hg' => ?_⟩
    by_cases hi : i < vals.length
    · rw [List.getElem?_append_left hi] at hu
      exact e3.2 i u g hne hu hg'
    · have hi2 : i = vals.length := by
        have := (List.getElem?_eq_some_iff.1 hu).1
        simp at this; omega
      subst hi2
      simp at hu
      subst hu
      exact e3.1 g hg'
  · have hj2 : j = L.length := by
      have := (List.getElem?_eq_some_iff.1 hr).1
      simp at this; omega
    subst hj2
    simp at hr
    subst hr
    refine ⟨vr, by rw [← hl]; simp, h2.kept hg (own_ne h2 h1 (by decide)), fun g hg' => by simp [Value.ownBlock] at hg', fun i u g hne hu hg' hg2 => ?_⟩
    have hi : i < vals.length := by
      have := (List.getElem?_eq_some_iff.1 hu).1
      simp at this; omega
    rw [List.getElem?_append_left hi] at hu
    obtain ⟨v', e1, _, e3⟩ := h3 i (L[i]'(by omega)) (List.getElem?_eq_getElem _)
    rw [hu] at e1
    cases e1
    exact e3.1 g hg2 hg'
theorem Built.rows {w : World} {B : Nat} {vR vr : Value} {L : List (List Bs)} {row : List Bs} (h : Built w B vR vr L row) : RowsAt w vR L := by
  obtain ⟨vals, h1, h2, h3⟩ := h
  have hm := own_max h1
  have hh := h1
  rcases h1.2 with ⟨rfl, h0⟩ | ⟨g, cap, cur, rfl, hb, hg, g1, g2, g3, g4⟩
  · have : L = [] := List.length_eq_zero_iff.1 h0
    subst this
    exact RowsAt.nil w
  · refine ⟨_, _, rfl, hm, fun j r hr => ?_⟩
    obtain ⟨v', e1, e2, e3⟩ := h3 j r hr
    exact ⟨_, v', rfl, hh.cells rfl j v' e1, own_strs e2⟩
theorem Built.len {w : World} {B : Nat} {vR vr : Value} {L : List (List Bs)} {row : List Bs} (h : Built w B vR vr L row) : w.ownsRow B tS 1 vr row.length (svs row) := by
  obtain ⟨vals, h1, h2, h3⟩ := h; exact h2
theorem Built.below {w : World} {B : Nat} {vR vr : Value} {L : List (List Bs)} {row : List Bs} (h : Built w B vR vr L row) : ∀ g, vR.ownBlock = some g → B ≤ g := by
  obtain ⟨vals, h1, h2, h3⟩ := h; exact fun g hg => (h1.lt g hg).1
theorem Built.below' {w : World} {B : Nat} {vR vr : Value} {L : List (List Bs)} {row : List Bs} (h : Built w B vR vr L row) : ∀ g, vr.ownBlock = some g → B ≤ g := by
  obtain ⟨vals, h1, h2, h3⟩ := h; exact fun g hg => (h2.lt g hg).1
end Go.Proofs.YtnkcbefamajghaaDoor
