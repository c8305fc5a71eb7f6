
/- Small things about blocks, rows and lines, for settle's Parse (the document's, the program's). -/
import Derived.Test.YtomonhghioamfaaGreatDoorStRefE
import Derived.Test.YtomonhghioamfaaGreatDoorFixedPar
import Derived.Test.YtomonhghioamfaaGreatDoorStMath3
import Derived.Test.YtomonhghioamfaaGreatDoorRowsLaid
import Derived.Test.YtomonhghioamfaaGreatDoorKyRefG
import Derived.Test.YtomonhghioamfaaGreatDoorHeldSteps
import Derived.Deep.DeepCutAuto
import Derived.Deep.LoopGhost
set_option linter.unusedVariables false
namespace Go.Proofs.YtomonhghioamfaaGreatDoor
open Go.ChangeShapes Go.WideShapes Go.ChangeAt Go.RowKit Ky Rw Stl

/-- What Parse answers, as values. -/
def SetOut (l : List UInt8) (w : World) (e : Ending) (w' : World) : Prop :=
  (∃ s L v, parseM l = .ok (s, L) ∧ e = .returned (.tuple #[stV 0 s v, .agg #[.int .i64 0, .int .i64 0, .int .i64 0]]) ∧ RowsIn w' v L ∧ Keeps w w') ∨
  (∃ a b c, parseM l = .error (a, b, c) ∧ e = .returned (.tuple #[stV 0 0 (.slice none 0 0), .agg #[.int .i64 (a : Int), .int .i64 (b : Int), .int .i64 c]]) ∧ Keeps w w')
abbrev tRj : TypeId := 35
abbrev zSt : Obj := .cells #[.int .i64 0, .int .i64 0, .slice none 0 0] tSt
abbrev zRj : Obj := .cells #[.int .i64 0, .int .i64 0, .int .i64 0] tRj
theorem three_setG {W : World} {n : Nat} {t : TypeId} {x0 x1 x2 : Value} (h : W.heap[n]? = some (.cells #[x0, x1, x2] t (0, 0))) (a0 a1 a2 : Value) :
    (((W.setCell ⟨n, 0, none⟩ a0).setCell ⟨n, 1, none⟩ a1).setCell ⟨n, 2, none⟩ a2).heap[n]? = some (.cells #[a0, a1, a2] t (0, 0)) :=
  Joins.block_setCell (i := 2) (Joins.block_setCell (i := 1) (Joins.block_setCell (i := 0) h a0) a1) a2
theorem three_atG {W : World} {n : Nat} {t : TypeId} {x0 x1 x2 : Value} (h : W.heap[n]? = some (.cells #[x0, x1, x2] t (0, 0))) :
    (W.cell? ⟨n, 0, none⟩ = some x0 ∧ W.cell? ⟨n, 1, none⟩ = some x1 ∧ W.cell? ⟨n, 2, none⟩ = some x2) ∧ (W.frozen? ⟨n, 0, none⟩ = false ∧ W.frozen? ⟨n, 1, none⟩ = false ∧ W.frozen? ⟨n, 2, none⟩ = false) :=
  ⟨⟨Joins.cell_of_block h 0, Joins.cell_of_block h 1, Joins.cell_of_block h 2⟩, Joins.unfrozen_of_block h 0, Joins.unfrozen_of_block h 1, Joins.unfrozen_of_block h 2⟩
theorem three_far {W : World} {n m : Nat} (h : m ≠ n) (a0 a1 a2 : Value) : (((W.setCell ⟨n, 0, none⟩ a0).setCell ⟨n, 1, none⟩ a1).setCell ⟨n, 2, none⟩ a2).heap[m]? = W.heap[m]? := by
  rw [Below.heap_setCell _ ⟨n, 2, none⟩ _ _ h, Below.heap_setCell _ ⟨n, 1, none⟩ _ _ h, Below.heap_setCell _ ⟨n, 0, none⟩ _ _ h]
theorem three_keepsG {w W : World} {n : Nat} (h : Keeps w W) (hn : w.heap.size ≤ n) (a0 a1 a2 : Value) : Keeps w (((W.setCell ⟨n, 0, none⟩ a0).setCell ⟨n, 1, none⟩ a1).setCell ⟨n, 2, none⟩ a2) :=
  ((h.setCell (p := ⟨n, 0, none⟩) hn a0).setCell (p := ⟨n, 1, none⟩) hn a1).setCell (p := ⟨n, 2, none⟩) hn a2
/-- Both results stored, side by side. -/
abbrev sixW (W : World) (r : Nat) (a0 a1 a2 b0 b1 b2 : Value) : World := ((((((W.setCell ⟨r, 0, none⟩ a0).setCell ⟨r, 1, none⟩ a1).setCell ⟨r, 2, none⟩ a2).setCell ⟨r + 1, 0, none⟩ b0).setCell ⟨r + 1, 1, none⟩ b1).setCell ⟨r + 1, 2, none⟩ b2)
theorem six_set {W : World} {r : Nat} {t u : TypeId} {x0 x1 x2 y0 y1 y2 : Value} (h : W.heap[r]? = some (.cells #[x0, x1, x2] t (0, 0))) (g : W.heap[r + 1]? = some (.cells #[y0, y1, y2] u (0, 0))) (a0 a1 a2 b0 b1 b2 : Value) :
    ((sixW W r a0 a1 a2 b0 b1 b2).cell? ⟨r, 0, none⟩ = some a0 ∧ (sixW W r a0 a1 a2 b0 b1 b2).cell? ⟨r, 1, none⟩ = some a1 ∧ (sixW W r a0 a1 a2 b0 b1 b2).cell? ⟨r, 2, none⟩ = some a2) ∧
    ((sixW W r a0 a1 a2 b0 b1 b2).cell? ⟨r + 1, 0, none⟩ = some b0 ∧ (sixW W r a0 a1 a2 b0 b1 b2).cell? ⟨r + 1, 1, none⟩ = some b1 ∧ (sixW W r a0 a1 a2 b0 b1 b2).cell? ⟨r + 1, 2, none⟩ = some b2) := by
  have e0 := (three_far (W := ((W.setCell ⟨r, 0, none⟩ a0).setCell ⟨r, 1, none⟩ a1).setCell ⟨r, 2, none⟩ a2) (n := r + 1) (m := r) (by omega) b0 b1 b2).trans (three_setG h a0 a1 a2)
  have e1 := three_setG ((three_far (W := W) (n := r) (m := r + 1) (by omega) a0 a1 a2).trans g) b0 b1 b2
  exact ⟨(three_atG e0).1, (three_atG e1).1⟩
theorem six_keeps {w W : World} {r : Nat} (h : Keeps w W) (hn : w.heap.size ≤ r) (a0 a1 a2 b0 b1 b2 : Value) : Keeps w (sixW W r a0 a1 a2 b0 b1 b2) := three_keepsG (three_keepsG h hn a0 a1 a2) (Nat.le_succ_of_le hn) b0 b1 b2
theorem line_pos : ∀ (n : Nat) (l : List UInt8), l.length ≤ n → ∀ x ∈ linesL l, 1 ≤ x.length
  | n, [], _ => by simp [linesL_nil]
  | 0, _ :: _, h => by simp at h
  | n + 1, c :: r, h => by
    have := lineT_lt (l := c :: r) (by simp)
    simp only [List.length_cons] at this h
    rw [linesL_cons (by simp)]
    intro x hx
    rcases List.mem_cons.1 hx with rfl | hx
    · exact lineH_pos (by simp)
    · exact line_pos n _ (by omega) x hx
theorem lines_count : ∀ (n : Nat) (l : List UInt8), l.length ≤ n → (linesL l).length ≤ l.length
  | n, [], _ => by simp [linesL_nil]
  | 0, _ :: _, h => by simp at h
  | n + 1, c :: r, h => by
    have := lineT_lt (l := c :: r) (by simp)
    simp only [List.length_cons] at this h
    rw [linesL_cons (by simp), List.length_cons, List.length_cons]
    have := lines_count n (lineT (c :: r)) (by omega)
    omega
/-- All that lay ahead stays, but for one block. -/
structure QK (w1 : World) (b : Nat) (W : World) : Prop where
  size : w1.heap.size ≤ W.heap.size
  same : ∀ g, g < w1.heap.size → g ≠ b → W.heap[g]? = w1.heap[g]?
theorem QK.refl (w1 : World) (b : Nat) : QK w1 b w1 := ⟨Nat.le_refl _, fun _ _ _ => rfl⟩
theorem QK.keeps {w1 W W' : World} {b : Nat} (h : QK w1 b W) (k : Keeps W W') : QK w1 b W' :=
  ⟨Nat.le_trans h.size k.size, fun g hg hn => (k.block g (Nat.lt_of_lt_of_le hg h.size)).trans (h.same g hg hn)⟩
/-- The lines, read. -/
theorem lines_read {B b : Nat} {w1 : World} {p : Option Addr} {n c : Nat} {LS : List (List UInt8)} (h : strK.Own B w1 (.slice p n c) LS) (hb : b < B) : ∀ W, QK w1 b W → ∀ i l, LS[i]? = some l → ∃ a : Addr, p = some a ∧ W.cell? (a.add i) = some (sv l) := fun W q i l hl => by
  rcases h.2 with ⟨e, h0⟩ | ⟨g, cap, cur, e, hB, hg, _⟩
  · have : LS = [] := List.length_eq_zero_iff.1 h0
    rw [this] at hl
    cases hl
  · simp only [Value.slice.injEq] at e
    obtain ⟨rfl, rfl, rfl⟩ := e
    refine ⟨_, rfl, ?_⟩
    have hlt : g < w1.heap.size := (Array.getElem?_eq_some_iff.1 hg).1
    have hc := strK.own_at (g := g) (n := LS.length) (c := c) h hl (j := 0) (u := sv l) rfl
    have e1 : strK.sz = 1 := rfl
    rw [e1, Nat.mul_one, Nat.add_zero] at hc
    rw [addr_of]
    unfold World.cell? at hc ⊢
    rw [q.same g hlt (by omega)]
    exact hc
theorem body_le (l : List UInt8) : (bodyOf l).length ≤ l.length := by unfold bodyOf; split <;> simp
theorem QK.set {w1 W : World} {b i : Nat} (h : QK w1 b W) (v : Value) : QK w1 b (W.setCell ⟨b, i, none⟩ v) :=
  ⟨Nat.le_trans h.size ((Below.refl 0 W).setCell (p := ⟨b, i, none⟩) (Nat.zero_le _) v).size, fun g hg hn => (Below.heap_setCell _ ⟨b, i, none⟩ _ _ hn).trans (h.same g hg hn)⟩
theorem QK.grown {w1 W W' : World} {b : Nat} {r : Option Nat} (h : QK w1 b W) (g : W.grownBy W' r) (hr : ∀ j, r = some j → w1.heap.size ≤ j) : QK w1 b W' :=
  ⟨Nat.le_trans h.size g.size, fun k hk hn => (g.block k (Nat.lt_of_lt_of_le hk h.size) (fun e => by have := hr k e.symm; omega)).trans (h.same k hk hn)⟩
theorem own_set {B b i : Nat} {W : World} {v : Value} {L : List R} (h : rowK.Own B W v L) (hb : b < B) (u : Value) : rowK.Own B (W.setCell ⟨b, i, none⟩ u) v L :=
  rowK.own_local h fun g hg => Below.heap_setCell _ ⟨b, i, none⟩ _ _ (Nat.ne_of_gt (Nat.lt_of_lt_of_le hb (rowK.own_lt h g hg).1))
theorem cutS_short : ∀ (W : List Int) (l : List UInt8), (∀ n ∈ W, n ≤ 1000) → ∀ f ∈ Fix.cutS W l, f.length ≤ 1000
  | [], l, _, f, hf => by cases hf
  | n :: W, l, h, f, hf => by
    rcases List.mem_cons.1 hf with rfl | hf
    · have h1 := Fix.trimR_len (l.take n.toNat)
      have h2 := h n (by simp)
      rw [List.length_take] at h1
      omega
    · exact cutS_short W _ (fun n hn => h n (by simp [hn])) f hf
theorem pa_short {W : List Int} {b : List UInt8} (hw : Fix.okW W = true) (hn : ∀ n ∈ W, n ≤ 1000) (h : (Fix.pa W b).2 = 0) : Short (Fix.pa W b).1 ∧ (Fix.pa W b).1.length = W.length := by
  have e := (pa_ok hw h).2.1
  rw [e]
  refine ⟨fun i => ?_, Fix.cutS_len _ _⟩
  unfold fa
  cases hf : (Fix.cutS W b)[i]? with
  | none => simp
  | some f => exact cutS_short W b hn f (List.mem_of_getElem? hf)
theorem step_n {st st' : PS} {l : List UInt8} (h : Stl.step st l = .ok st') : st'.n = st.n + 1 := by
  unfold Stl.step at h
  repeat' split at h
  all_goals first | (cases h; rfl) | cases h
theorem rsrc_row {w : World} {b : Nat} {x : R} (h : w.heap[b]? = some (.cells #[.int .i64 x.o, .int .i64 x.d, .int .i64 x.c, .int .i64 x.a, .int .i64 x.q] tRw (0, 0))) : rowK.Src w (.slice (some ⟨b, 0, none⟩) 1 1) [x] := by
  refine ⟨_, 1, rfl, (fun e => by cases e), fun a ha j u hu => ?_⟩
  cases ha
  rw [addr_of, Joins.cell_of_block h j]
  have e : rowK.row [x] = [.int .i64 x.o, .int .i64 x.d, .int .i64 x.c, .int .i64 x.a, .int .i64 x.q] := rfl
  rw [e] at hu
  rw [← hu]
  simp
theorem grown_cells {W W' : World} {v : Value} {g : Nat} {a b c d e : Int} (h : W.cell? ⟨g, 0, none⟩ = some (.int .i64 a) ∧ W.cell? ⟨g, 1, none⟩ = some (.int .i64 b) ∧ W.cell? ⟨g, 2, none⟩ = some (.int .i64 c) ∧ W.cell? ⟨g, 3, none⟩ = some (.int .i64 d) ∧ W.cell? ⟨g, 4, none⟩ = some (.int .i64 e)) (k : W.grownBy W' v.ownBlock) (hne : some g ≠ v.ownBlock) :
    W'.cell? ⟨g, 0, none⟩ = some (.int .i64 a) ∧ W'.cell? ⟨g, 1, none⟩ = some (.int .i64 b) ∧ W'.cell? ⟨g, 2, none⟩ = some (.int .i64 c) ∧ W'.cell? ⟨g, 3, none⟩ = some (.int .i64 d) ∧ W'.cell? ⟨g, 4, none⟩ = some (.int .i64 e) := by
  have lt : g < W.heap.size := World.block_lt_of_cell? W _ h.1
  have q : ∀ t, W'.cell? ⟨g, t, none⟩ = W.cell? ⟨g, t, none⟩ := fun t => by unfold World.cell?; rw [k.block g lt hne]
  rw [q, q, q, q, q]
  exact h
theorem set_cells {W : World} {g t i : Nat} {u : Value} {a b c d e : Int} (h : W.cell? ⟨g, 0, none⟩ = some (.int .i64 a) ∧ W.cell? ⟨g, 1, none⟩ = some (.int .i64 b) ∧ W.cell? ⟨g, 2, none⟩ = some (.int .i64 c) ∧ W.cell? ⟨g, 3, none⟩ = some (.int .i64 d) ∧ W.cell? ⟨g, 4, none⟩ = some (.int .i64 e)) (hne : g ≠ t) :
    (W.setCell ⟨t, i, none⟩ u).cell? ⟨g, 0, none⟩ = some (.int .i64 a) ∧ (W.setCell ⟨t, i, none⟩ u).cell? ⟨g, 1, none⟩ = some (.int .i64 b) ∧ (W.setCell ⟨t, i, none⟩ u).cell? ⟨g, 2, none⟩ = some (.int .i64 c) ∧ (W.setCell ⟨t, i, none⟩ u).cell? ⟨g, 3, none⟩ = some (.int .i64 d) ∧ (W.setCell ⟨t, i, none⟩ u).cell? ⟨g, 4, none⟩ = some (.int .i64 e) := by
  have q : ∀ j, (W.setCell ⟨t, i, none⟩ u).cell? ⟨g, j, none⟩ = W.cell? ⟨g, j, none⟩ := fun j => by unfold World.cell?; rw [Below.heap_setCell W ⟨t, i, none⟩ u g hne]
  rw [q, q, q, q, q]
  exact h
end Go.Proofs.YtomonhghioamfaaGreatDoor
