
/- Rows that a literal lays: of rows, of texts, of integers. -/
import Derived.Test.YtbemkcnikoiecaaFixedC
set_option linter.unusedVariables false
namespace Go.Proofs.Ytbemkcnikoiecaa
open Go.ChangeShapes Go.WideShapes Go.ChangeAt Go.RowKit Csv

theorem kept_alloc {w w' : World} (h : Keeps w w') (o : Obj) : Keeps w (w'.alloc o) := h.alloc h.size o
theorem addr_of (b j : Nat) : (⟨b, 0, none⟩ : Addr).add j = ⟨b, j, none⟩ := by
  by_cases h : j = 0
  · subst h; rfl
  · simp [Addr.add, h]
/-- A row of one row, laid. -/
theorem lay_one {w w' : World} {v : Value} {r : List Bs} (h : StrsAt w v r) (hk : Keeps w w') (t : TypeId) {b : Nat} (hb : b = w'.heap.size) : RowsAt (w'.alloc (.cells #[v] t)) (.slice (some ⟨b, 0, none⟩) 1 1) [r] := by
  subst hb
  refine ⟨_, _, rfl, by simp [maxLen], fun j q hq => ?_⟩
  have hj : j = 0 := by
    have := (List.getElem?_eq_some_iff.1 hq).1
    simp at this; omega
  subst hj
  simp at hq
  subst hq
  exact ⟨_, v, rfl, cell_one_new _ _ _ 0 v rfl, (h.keeps hk).keeps ((Below.refl _ _).alloc (Nat.le_refl _) _)⟩
/-- A row of texts, laid. -/
theorem lay_row {w' : World} {cs : Array Value} {r : List Bs} (t : TypeId) {b n : Nat} (hb : b = w'.heap.size) (hcs : cs = (svs r).toArray) (hn : n = r.length) (hm : r.length ≤ maxLen) : StrsAt (w'.alloc (.cells cs t)) (.slice (some ⟨b, 0, none⟩) n n) r := by
  subst hb hcs hn
  refine ⟨_, _, rfl, hm, fun j x hx => ⟨_, rfl, ?_⟩⟩
  have hl : j < r.length := (List.getElem?_eq_some_iff.1 hx).1
  rw [addr_of, World.cell?_alloc_at _ _ _ _ rfl]
  simp [svs, hx]
/-- A row of integers, laid. -/
def ivs (r : List Int) : List Value := r.map iv
theorem lay_ints {w' : World} {cs : Array Value} {r : List Int} (t : TypeId) {b n : Nat} (hb : b = w'.heap.size) (hcs : cs = (ivs r).toArray) (hn : n = r.length) (hm : r.length ≤ maxLen) : IntsAt (w'.alloc (.cells cs t)) (.slice (some ⟨b, 0, none⟩) n n) r := by
  subst hb hcs hn
  refine ⟨_, _, rfl, hm, fun j x hx => ⟨_, rfl, ?_⟩⟩
  have hl : j < r.length := (List.getElem?_eq_some_iff.1 hx).1
  rw [addr_of, World.cell?_alloc_at _ _ _ _ rfl]
  simp [ivs, hx]
theorem own_ints {w : World} {B : Nat} {v : Value} {r : List Int} {t : TypeId} (h : w.ownsRow B t 1 v r.length (ivs r)) : IntsAt w v r := by
  have hm := own_max h
  have hh := h
  rcases h.2 with ⟨rfl, h0⟩ | ⟨g, cap, cur, rfl, hb, hg, h1, h2, h3, h4⟩
  · have : r = [] := List.length_eq_zero_iff.1 h0
    subst this
    exact IntsAt.nil w
  · refine ⟨_, _, rfl, hm, fun j x hx => ⟨_, rfl, ?_⟩⟩
    exact hh.cells rfl j (iv x) (by simp [ivs, hx])
theorem ivs_snoc (r : List Int) (x : Int) : ivs r ++ [iv x] = ivs (r ++ [x]) := by simp [ivs]
theorem ivs_len (r : List Int) : (ivs r).length = r.length := by simp [ivs]
end Go.Proofs.Ytbemkcnikoiecaa
