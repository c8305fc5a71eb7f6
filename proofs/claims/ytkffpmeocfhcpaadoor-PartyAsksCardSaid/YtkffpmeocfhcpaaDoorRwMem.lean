
/- Rows in memory: as they are read; as a call appends them; statements by value. -/
import Derived.Test.YtkffpmeocfhcpaaDoorRwMath
import Derived.Test.YtkffpmeocfhcpaaDoorStructRow
import Derived.Test.YtkffpmeocfhcpaaDoorKyRefC
import Derived.Lib.SmallJoins
set_option linter.unusedVariables false
namespace Go.Proofs.YtkffpmeocfhcpaaDoor
open Go.ChangeShapes Go.WideShapes Go.ChangeAt Go.RowKit Bit Ky Rw Csv

abbrev tRw : TypeId := 45
abbrev tRs : TypeId := 38
abbrev tSt : TypeId := 48
def rwVals (x : R) : List Value := [.int .i64 x.o, .int .i64 x.d, .int .i64 x.c, .int .i64 x.a, .int .i64 x.q]
def rwV (x : R) : Value := .agg #[.int .i64 x.o, .int .i64 x.d, .int .i64 x.c, .int .i64 x.a, .int .i64 x.q]
def rowK : RowK R where
  t := tRw
  ts := tRs
  sz := 5
  bytes := 40
  zero := .agg #[.int .i64 0, .int .i64 0, .int .i64 0, .int .i64 0, .int .i64 0]
  cells := rwVals
  under := Tryd.underlying38
  info := by kernel_rfl
  zsize := rfl
  pos := by omega
  small := by omega
  len := fun x => rfl
  one := fun x u hu => by
    simp only [rwVals, List.mem_cons, List.not_mem_nil, or_false] at hu
    rcases hu with rfl | rfl | rfl | rfl | rfl <;> rfl
/-- A row in five cells. -/
def RowAt (w : World) (a : Addr) (x : R) : Prop :=
  w.cell? a = some (.int .i64 x.o) ∧ w.cell? ⟨a.block, a.off + 1, none⟩ = some (.int .i64 x.d) ∧ w.cell? ⟨a.block, a.off + 2, none⟩ = some (.int .i64 x.c) ∧ w.cell? ⟨a.block, a.off + 3, none⟩ = some (.int .i64 x.a) ∧ w.cell? ⟨a.block, a.off + 4, none⟩ = some (.int .i64 x.q)
theorem RowAt.keeps {w w' : World} {a : Addr} {x : R} (h : RowAt w a x) (k : Keeps w w') : RowAt w' a x := ⟨cell_keeps k h.1, cell_keeps k h.2.1, cell_keeps k h.2.2.1, cell_keeps k h.2.2.2.1, cell_keeps k h.2.2.2.2⟩
/-- Rows, as they are read. -/
def RowsIn (w : World) (v : Value) (L : List R) : Prop :=
  ∃ p c, v = .slice p L.length c ∧ L.length ≤ maxLen ∧ (L.length ≤ c ∧ (p = none → c = 0)) ∧ ∀ j x, L[j]? = some x → ∃ a : Addr, p = some a ∧ RowAt w (a.add (j * 5)) x
theorem RowsIn.keeps {w w' : World} {v : Value} {L : List R} (h : RowsIn w v L) (k : Keeps w w') : RowsIn w' v L := by
  obtain ⟨p, c, h1, h2, hc, h3⟩ := h
  refine ⟨p, c, h1, h2, hc, fun j x hx => ?_⟩
  obtain ⟨a, ha, hr⟩ := h3 j x hx
  exact ⟨a, ha, hr.keeps k⟩
theorem rows_nil (w : World) : RowsIn w (.slice none 0 0) [] := ⟨none, 0, rfl, by simp [maxLen], ⟨by simp, fun _ => rfl⟩, fun j x hx => by simp at hx⟩
theorem own_rows {B : Nat} {w : World} {v : Value} {L : List R} (h : rowK.Own B w v L) (hm : L.length ≤ 100000) : RowsIn w v L := by
  rcases h.2 with ⟨rfl, h0⟩ | ⟨g, cap, cur, rfl, hb, hgb, r1, r2, r3, r4⟩
  · have : L = [] := List.length_eq_zero_iff.1 h0
    subst this
    exact rows_nil w
  · refine ⟨_, cap, rfl, by unfold maxLen; omega, ⟨r1, fun e => by cases e⟩, fun j x hx => ⟨_, rfl, ?_⟩⟩
    have at_ : ∀ i u, (rwVals x)[i]? = some u → w.cell? ⟨g, j * 5 + i, none⟩ = some u := fun i u hu => RowK.own_at rowK h hx hu
    rw [addr_of]
    exact ⟨at_ 0 _ rfl, at_ 1 _ rfl, at_ 2 _ rfl, at_ 3 _ rfl, at_ 4 _ rfl⟩
/-- As a source of an append. -/
theorem RowsIn.src {w : World} {v : Value} {L : List R} (h : RowsIn w v L) : rowK.Src w v L := by
  obtain ⟨p, c, rfl, _, hc, hr⟩ := h
  refine ⟨p, c, rfl, fun e => ⟨?_, hc.2 e⟩, fun a ha j u hu => ?_⟩
  · cases L with
    | nil => rfl
    | cons x r =>
      obtain ⟨a, ha, _⟩ := hr 0 x rfl
      rw [e] at ha
      cases ha
  · obtain ⟨k, t, rfl, ht⟩ : ∃ k t, j = k * 5 + t ∧ t < 5 := ⟨j / 5, j % 5, by omega, by omega⟩
    have hk : k < L.length := by
      have h1 := (List.getElem?_eq_some_iff.1 hu).1
      rw [rowK.row_len] at h1
      have e5 : rowK.sz = 5 := rfl
      rw [e5] at h1
      omega
    have hx : L[k]? = some L[k] := List.getElem?_eq_getElem hk
    obtain ⟨b, hb, hrow⟩ := hr k _ hx
    rw [ha] at hb
    cases hb
    have hv : (rwVals L[k])[t]? = some u := by
      have hlt : t < (rwVals L[k]).length := ht
      have e := rowK.row_at hx (j := t) (u := (rwVals L[k])[t]) (List.getElem?_eq_getElem hlt)
      have e5 : rowK.sz = 5 := rfl
      rw [e5, hu] at e
      cases e
      exact List.getElem?_eq_getElem hlt
    obtain ⟨h0, h1, h2, h3, h4⟩ := hrow
    have ea : ∀ t, 0 < t → a.add (k * 5 + t) = ⟨(a.add (k * 5)).block, (a.add (k * 5)).off + t, none⟩ := fun t h0 => by
      unfold Addr.add
      rw [if_neg (show ¬ k * 5 + t = 0 by omega)]
      by_cases hz : k * 5 = 0
      · rw [if_pos hz, hz, Nat.zero_add]
      · rw [if_neg hz, Nat.add_assoc]
    have hv' : ∀ n, (rwVals L[k])[n]? = some u → n = t → w.cell? (a.add (k * 5 + t)) = some u := by
      rintro n hn rfl
      rcases (show n = 0 ∨ n = 1 ∨ n = 2 ∨ n = 3 ∨ n = 4 from by omega) with rfl | rfl | rfl | rfl | rfl
      · rw [Nat.add_zero, h0]; exact hn
      · rw [ea 1 (by omega), h1]; exact hn
      · rw [ea 2 (by omega), h2]; exact hn
      · rw [ea 3 (by omega), h3]; exact hn
      · rw [ea 4 (by omega), h4]; exact hn
    exact hv' t hv rfl
/-- A statement, as a value. -/
def stV (p s : Int) (v : Value) : Value := .agg #[.int .i64 p, .int .i64 s, v]
def stBox (p s : Int) (v : Value) : Obj := .cells #[.int .i64 p, .int .i64 s, v] tSt
theorem st_cells (w : World) (p s : Int) (v : Value) : ∀ W, Keeps (w.alloc (stBox p s v)) W → W.cell? ⟨w.heap.size, 0, none⟩ = some (.int .i64 p) ∧ W.cell? ⟨w.heap.size, 1, none⟩ = some (.int .i64 s) ∧ W.cell? ⟨w.heap.size, 2, none⟩ = some v := fun W k => by
  have e := (k.block _ (by simp)).trans (heap_alloc_new w (stBox p s v))
  exact ⟨Joins.cell_of_block e 0, Joins.cell_of_block e 1, Joins.cell_of_block e 2⟩
theorem rw_cells (w : World) (x : R) : ∀ W, Keeps (w.alloc (.cells #[.int .i64 x.o, .int .i64 x.d, .int .i64 x.c, .int .i64 x.a, .int .i64 x.q] tRw)) W → W.cell? ⟨w.heap.size, 0, none⟩ = some (.int .i64 x.o) ∧ W.cell? ⟨w.heap.size, 1, none⟩ = some (.int .i64 x.d) ∧ W.cell? ⟨w.heap.size, 2, none⟩ = some (.int .i64 x.c) ∧ W.cell? ⟨w.heap.size, 3, none⟩ = some (.int .i64 x.a) ∧ W.cell? ⟨w.heap.size, 4, none⟩ = some (.int .i64 x.q) := fun W k => by
  have e := (k.block _ (by simp)).trans (heap_alloc_new w _)
  exact ⟨Joins.cell_of_block e 0, Joins.cell_of_block e 1, Joins.cell_of_block e 2, Joins.cell_of_block e 3, Joins.cell_of_block e 4⟩
end Go.Proofs.YtkffpmeocfhcpaaDoor
