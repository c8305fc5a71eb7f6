
/- Rows of structs, whatever their kind: read, copied, appended, also in a region that draws its order. -/
import Derived.Test.YtbemkcnikoiecaaRowsLaid
import Derived.OwnWalk
import Derived.RegionTactic
import Derived.Deep.RegionLaw
import Derived.Deep.AppendLies
set_option linter.unusedVariables false
namespace Go.Proofs.Ytbemkcnikoiecaa
open Go.ChangeShapes Go.WideShapes Go.ChangeAt Go.RowKit Csv

/-- A kind of elements: its type and its slice's, how many cells and bytes, and the cells of each. -/
structure RowK (α : Type) where
  t : TypeId
  ts : TypeId
  sz : Nat
  bytes : Nat
  zero : Value
  cells : α → List Value
  under : Try.prog.underlying ts = some (.slice t)
  info : (Try.prog.info? t).map (fun i => (i.zero, i.size, i.bytes)) = some (some zero, sz, bytes)
  zsize : zero.cells.size = sz
  pos : 0 < sz
  small : bytes ≤ 1000
  len : ∀ x, (cells x).length = sz
  one : ∀ x, ∀ u ∈ cells x, u.oneCell' = true
namespace RowK
variable {α : Type} (K : RowK α) {w w' : World}
def row (l : List α) : List Value := l.flatMap K.cells
theorem row_len (l : List α) : (K.row l).length = l.length * K.sz := by
  induction l with
  | nil => simp [row]
  | cons x r ih =>
    have : K.row (x :: r) = K.cells x ++ K.row r := rfl
    rw [this, List.length_append, K.len, ih, List.length_cons, Nat.add_mul, Nat.one_mul, Nat.add_comm]
theorem row_app (l m : List α) : K.row (l ++ m) = K.row l ++ K.row m := by unfold row; rw [List.flatMap_append]
theorem row_one (l : List α) : ∀ u ∈ K.row l, u.oneCell' = true := by
  intro u hu
  obtain ⟨x, _, hu⟩ := List.mem_flatMap.1 hu
  exact K.one x u hu
/-- The cells of an element in a row. -/
theorem row_at {l : List α} {k : Nat} {x : α} (h : l[k]? = some x) {j : Nat} {u : Value} (hu : (K.cells x)[j]? = some u) : (K.row l)[k * K.sz + j]? = some u := by
  have hj : j < K.sz := by have := (List.getElem?_eq_some_iff.1 hu).1; rwa [K.len] at this
  induction l generalizing k with
  | nil => simp at h
  | cons y r ih =>
    have e : K.row (y :: r) = K.cells y ++ K.row r := rfl
    rw [e]
    cases k with
    | zero =>
      simp at h; subst h
      rw [Nat.zero_mul, Nat.zero_add, List.getElem?_append_left (by rw [K.len]; exact hj)]; exact hu
    | succ k =>
      have h' : r[k]? = some x := by simpa using h
      rw [List.getElem?_append_right (by rw [K.len, Nat.add_mul]; omega), K.len]
      rw [show (k + 1) * K.sz + j - K.sz = k * K.sz + j by rw [Nat.add_mul]; omega]
      exact ih h'
/-- Elements that are read from a place on. -/
def Src (w : World) (v : Value) (l : List α) : Prop := ∃ p c, v = .slice p l.length c ∧ (p = none → l = [] ∧ c = 0) ∧ ∀ a, p = some a → ∀ j u, (K.row l)[j]? = some u → w.cell? (a.add j) = some u
theorem Src.keeps {v : Value} {l : List α} (h : K.Src w v l) (k : Keeps w w') : K.Src w' v l := by
  obtain ⟨p, c, h1, h2, h3⟩ := h
  exact ⟨p, c, h1, h2, fun a ha j u hu => cell_keeps k (h3 a ha j u hu)⟩
def Own (B : Nat) (w : World) (v : Value) (l : List α) : Prop := w.ownsRow B K.t K.sz v l.length (K.row l)
theorem own_nil (B : Nat) (w : World) : K.Own B w (.slice none 0 0) [] := World.ownsRow_nil _ _ _ _
theorem own_src {B : Nat} {v : Value} {l : List α} (h : K.Own B w v l) : K.Src w v l := by
  have hh : w.ownsRow B K.t K.sz v l.length (K.row l) := h
  rcases hh.2 with ⟨rfl, h0⟩ | ⟨g, cap, cur, rfl, hb, hg, r1, r2, r3, r4⟩
  · exact ⟨none, 0, by rw [h0], fun _ => ⟨List.length_eq_zero_iff.1 h0, rfl⟩, fun a ha => by cases ha⟩
  · exact ⟨_, cap, rfl, (fun e => by cases e), fun a ha j u hu => by cases ha; exact hh.cells rfl j u hu⟩
theorem own_shape {B n : Nat} {v : Value} {xs : List Value} (h : w.ownsRow B K.t K.sz v n xs) : ∃ p c, v = .slice p n c := by
  rcases h.2 with ⟨rfl, rfl⟩ | ⟨g, cap, cur, rfl, _⟩
  · exact ⟨_, _, rfl⟩
  · exact ⟨_, _, rfl⟩
theorem parts : ∃ i, Try.prog.info? K.t = some i ∧ i.zero = some K.zero ∧ i.size = K.sz ∧ i.bytes = K.bytes := info_parts K.info
/-- 'append(v, src...)'. -/
theorem app_row (w : World) (B : Nat) (v : Value) (l : List α) (src : Value) (m : List α) (hown : K.Own B w v l) (hs : K.Src w src m) (hn : l.length + m.length ≤ 100000) (hB : B ≤ w.heap.size) :
    ∃ p' c' w', (Builtin.append_ #[K.ts, K.ts] K.ts #[v, src]).run Try.prog w = .ok (.slice p' (l.length + m.length) c') w' ∧ K.Own B w' (.slice p' (l.length + m.length) c') (l ++ m) ∧ w.grownBy w' v.ownBlock := by
  obtain ⟨i, hi, hz, hsz, hb⟩ := K.parts
  obtain ⟨p, c, rfl, h1, h2⟩ := hs
  cases p with
  | none =>
    obtain ⟨rfl, rfl⟩ := h1 rfl
    have hr := run_append_owned_none (P := Try.prog) w B K.ts K.ts K.t i K.sz K.under hi v l.length (K.row l) hown
    obtain ⟨p', c', rfl⟩ := K.own_shape hown
    exact ⟨p', c', w, hr, by simpa using hown, ⟨rfl, rfl, rfl, Nat.le_refl _, fun _ _ _ => rfl⟩⟩
  | some a =>
    obtain ⟨v', w', q1, q2, q3, _⟩ := run_append_own (P := Try.prog) w B K.ts K.ts K.t i _ K.sz K.bytes K.under hi hz hsz hb K.zsize K.pos v l.length (K.row l) hown a m.length c (K.row m) (K.row_len m) (h2 a rfl) (K.row_one m) (by unfold maxLen; omega) (by
      have := K.small
      calc (l.length + m.length) * K.bytes ≤ 100000 * 1000 := Nat.mul_le_mul hn this
        _ ≤ 140737488355328 := by omega) hB
    obtain ⟨p', c', rfl⟩ := K.own_shape q2
    exact ⟨p', c', w', q1, by unfold Own; rw [K.row_app, List.length_append]; exact q2, q3⟩
/-- A copy of a row. -/
theorem copy_row (w : World) (src : Value) (m : List α) (hs : K.Src w src m) (hn : m.length ≤ 100000) :
    ∃ p' c' w', (Builtin.append_ #[K.ts, K.ts] K.ts #[.slice none 0 0, src]).run Try.prog w = .ok (.slice p' m.length c') w' ∧ K.Own w.heap.size w' (.slice p' m.length c') m ∧ Keeps w w' := by
  obtain ⟨p', c', w', q1, q2, q3⟩ := K.app_row w w.heap.size (.slice none 0 0) [] src m (K.own_nil _ _) hs (by simpa using hn) (Nat.le_refl _)
  simp only [List.length_nil, Nat.zero_add, List.nil_append] at q1 q2
  exact ⟨p', c', w', q1, q2, ⟨q3.os, q3.tape, q3.output, q3.size, fun i hi => q3.block i hi (by simp [Value.ownBlock])⟩⟩
theorem own_local {B : Nat} {v : Value} {l : List α} (h : K.Own B w v l) (hk : ∀ g, v.ownBlock = some g → w'.heap[g]? = w.heap[g]?) : K.Own B w' v l := by
  obtain ⟨h1, h2⟩ := h
  refine ⟨h1, ?_⟩
  rcases h2 with h2 | ⟨g, cap, cur, rfl, hb, hg, r⟩
  · exact Or.inl h2
  · exact Or.inr ⟨g, cap, cur, rfl, hb, (hk g rfl).trans hg, r⟩
theorem own_base {B B' : Nat} {v : Value} {l : List α} (h : K.Own B w v l) (hB : ∀ g, v.ownBlock = some g → B' ≤ g) : K.Own B' w v l := by
  obtain ⟨h1, h2⟩ := h
  refine ⟨h1, ?_⟩
  rcases h2 with h2 | ⟨g, cap, cur, rfl, hb, hg, r⟩
  · exact Or.inl h2
  · exact Or.inr ⟨g, cap, cur, rfl, hB g rfl, hg, r⟩
theorem own_lt {B : Nat} {v : Value} {l : List α} (h : K.Own B w v l) : ∀ g, v.ownBlock = some g → B ≤ g ∧ g < w.heap.size := fun g hg => World.ownsRow.lt (show w.ownsRow B K.t K.sz v l.length (K.row l) from h) g hg
theorem own_tag {B : Nat} {v : Value} {l : List α} (h : K.Own B w v l) {g : Nat} (hg : v.ownBlock = some g) : ∃ c, w.heap[g]? = some (.cells c K.t (0, 0)) := by
  rcases h.2 with ⟨rfl, _⟩ | ⟨g', cap, cur, rfl, hb, hg', r⟩
  · cases hg
  · cases hg; exact ⟨_, hg'⟩
theorem own_keeps {B : Nat} {v : Value} {l : List α} (h : K.Own B w v l) (k : Keeps w w') : K.Own B w' v l := K.own_local h fun g hg => k.block g (K.own_lt h g hg).2
/-- An element's cells, by its place. -/
theorem own_at {B g n c : Nat} {l : List α} (h : K.Own B w (.slice (some ⟨g, 0, none⟩) n c) l) {k : Nat} {x : α} (hx : l[k]? = some x) {j : Nat} {u : Value} (hu : (K.cells x)[j]? = some u) : w.cell? ⟨g, k * K.sz + j, none⟩ = some u := by
  have hh : w.ownsRow B K.t K.sz (.slice (some ⟨g, 0, none⟩) n c) l.length (K.row l) := h
  have := hh.cells (g := g) rfl _ u (K.row_at hx hu)
  rwa [addr_of] at this
end RowK
/-- 'append' in a region that draws its order, whose run is known. -/
theorem stepAppendKnown {P : Program} {w : World} {ops : Array Oper} {o : Oper} {a : Act} {K : Act → World → Prop} {Q : Exit → Act → World → Prop} {E : Prop} (hgd : o.guard = none) (sl x : Operand) (t u : TypeId)
    (ho : o.op = .call { callee := .builtin .append, args := #[sl, x], argTypes := #[t, u] }) (v y v' : Value) (w' : World) (hs : a.eval sl = v) (hx : a.eval x = y)
    (hr : (Builtin.append_ #[t, u] o.type #[v, y]).run P w = .ok v' w') (h : K (a.put o.dst v') w') : if Region.wanted o (yielded ops a.tmps) = true then Oper.wp P o a w K Q else E := by
  have hw : Region.wanted o (yielded ops a.tmps) = true := by simp [Region.wanted, hgd]
  rw [if_pos hw]
  unfold Oper.wp execOp
  simp only [ho, resolve, invoke, builtin, Sem.run_bind, Sem.run_pure, Result.andThen_ok, List.map_toArray, List.map_cons, List.map_nil, hs, hx, hr]
  exact h
/-- 'append(nil, src...)', 'append(v, src...)' of such rows, in a region that draws. -/
theorem stepCopyK {α : Type} (R : RowK α) {w : World} {ops : Array Oper} {o : Oper} {a : Act} {K : Act → World → Prop} {Q : Exit → Act → World → Prop} {E : Prop} (hgd : o.guard = none) (sl x : Operand)
    (ho : o.op = .call { callee := .builtin .append, args := #[sl, x], argTypes := #[R.ts, R.ts] }) (ht : o.type = R.ts) (w0 : World) (k0 : Below w0.heap.size w0 w) (src : Value) (M : List α) (m : Nat) (hm : M.length = m) (hs : a.eval sl = .slice none 0 0) (hx : a.eval x = src) (hsrc : R.Src w0 src M) (hn : M.length ≤ 100000)
    (h : ∀ p' c' w', R.Own w0.heap.size w' (.slice p' m c') M → Below w0.heap.size w0 w' → (∀ b, b < w.heap.size → w'.heap[b]? = w.heap[b]?) → K (a.put o.dst (.slice p' m c')) w') : if Region.wanted o (yielded ops a.tmps) = true then Oper.wp Try.prog o a w K Q else E := by
  subst hm
  obtain ⟨p', c', w', h1, h2, h3⟩ := R.copy_row w src M (RowK.Src.keeps R hsrc k0) hn
  exact stepAppendKnown hgd sl x _ _ ho _ _ _ w' hs hx (by rw [ht]; exact h1) (h p' c' w' (R.own_base h2 fun g hg => Nat.le_trans k0.size (R.own_lt h2 g hg).1) ⟨h3.os.trans k0.os, h3.tape.trans k0.tape, h3.output.trans k0.output, Nat.le_trans k0.size h3.size, fun i hi => (h3.block i (Nat.lt_of_lt_of_le hi k0.size)).trans (k0.block i hi)⟩ h3.block)
theorem stepAppK {α : Type} (R : RowK α) {w : World} {ops : Array Oper} {o : Oper} {a : Act} {K : Act → World → Prop} {Q : Exit → Act → World → Prop} {E : Prop} (hgd : o.guard = none) (sl x : Operand)
    (ho : o.op = .call { callee := .builtin .append, args := #[sl, x], argTypes := #[R.ts, R.ts] }) (ht : o.type = R.ts) (w0 w1 : World) (k1 : Below w0.heap.size w0 w1) (k0 : Below w1.heap.size w1 w) (v src : Value) (L M : List α) (m : Nat) (hm : L.length + M.length = m) (hs : a.eval sl = v) (hx : a.eval x = src) (hown : R.Own w0.heap.size w1 v L) (hsrc : R.Src w src M) (hn : L.length + M.length ≤ 100000)
    (h : ∀ p' c' w', R.Own w0.heap.size w' (.slice p' m c') (L ++ M) → Below w0.heap.size w0 w' → K (a.put o.dst (.slice p' m c')) w') : if Region.wanted o (yielded ops a.tmps) = true then Oper.wp Try.prog o a w K Q else E := by
  have k : Below w0.heap.size w0 w := ⟨k0.os.trans k1.os, k0.tape.trans k1.tape, k0.output.trans k1.output, Nat.le_trans k1.size k0.size, fun i hi => (k0.block i (Nat.lt_of_lt_of_le hi k1.size)).trans (k1.block i hi)⟩
  subst hm
  obtain ⟨p', c', w', h1, h2, h3⟩ := R.app_row w w0.heap.size v L src M (R.own_keeps hown k0) hsrc hn k.size
  refine stepAppendKnown hgd sl x _ _ ho _ _ _ w' hs hx (by rw [ht]; exact h1) (h p' c' w' h2 (Below.grown k h3 k.size fun j hj => (R.own_lt hown j hj).1))
/-- 'append' whose run is known, at the operation. -/
theorem wpAppKnown {P : Program} {w : World} {ops : Array Oper} {rest : List Oper} {o : Oper} {a : Act} {Q : Exit → Act → World → Prop} (hgd : o.guard = none) (sl x : Operand) (t u : TypeId)
    (ho : o.op = .call { callee := .builtin .append, args := #[sl, x], argTypes := #[t, u] }) (v y v' : Value) (w' : World) (hs : a.eval sl = v) (hx : a.eval x = y)
    (hr : (Builtin.append_ #[t, u] o.type #[v, y]).run P w = .ok v' w') (h : wpList P ops Q rest (a.put o.dst v') w') : wpList P ops Q (o :: rest) a w := by
  refine wpList_plain hgd fun K hK => ?_
  unfold Oper.wp execOp
  simp only [ho, resolve, invoke, builtin, Sem.run_bind, Sem.run_pure, Result.andThen_ok, List.map_toArray, List.map_cons, List.map_nil, hs, hx, hr]
  exact hK _ _ h
/-- 'append' in a region that draws its order, to a row that is there. -/
theorem stepAppOwnK {α : Type} (R : RowK α) {w : World} {ops : Array Oper} {o : Oper} {a : Act} {K : Act → World → Prop} {Q : Exit → Act → World → Prop} {E : Prop} (hgd : o.guard = none) (sl x : Operand)
    (ho : o.op = .call { callee := .builtin .append, args := #[sl, x], argTypes := #[R.ts, R.ts] }) (ht : o.type = R.ts) (B : Nat) (hB : B ≤ w.heap.size) (v src : Value) (L M : List α) (m : Nat) (hm : L.length + M.length = m) (hs : a.eval sl = v) (hx : a.eval x = src) (hown : R.Own B w v L) (hsrc : R.Src w src M) (hn : L.length + M.length ≤ 100000)
    (h : ∀ p' c' w', R.Own B w' (.slice p' m c') (L ++ M) → w.grownBy w' v.ownBlock → K (a.put o.dst (.slice p' m c')) w') : if Region.wanted o (yielded ops a.tmps) = true then Oper.wp Try.prog o a w K Q else E := by
  subst hm
  obtain ⟨p', c', w', h1, h2, h3⟩ := R.app_row w B v L src M hown hsrc hn hB
  exact stepAppendKnown hgd sl x _ _ ho _ _ _ w' hs hx (by rw [ht]; exact h1) (h p' c' w' h2 h3)
end Go.Proofs.Ytbemkcnikoiecaa
