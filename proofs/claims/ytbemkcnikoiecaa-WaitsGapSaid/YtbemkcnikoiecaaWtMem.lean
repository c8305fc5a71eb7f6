
/- Waits, and keys, in memory: rows of them. -/
import Derived.Test.YtbemkcnikoiecaaStructRow
import Derived.Test.YtbemkcnikoiecaaHeldSteps
import Derived.Test.YtbemkcnikoiecaaWtMath
import Derived.Test.YtbemkcnikoiecaaKyRefC
import Derived.Lib.SmallJoins
import Derived.WalkKit
import Derived.LoopN
import Derived.BigQuiet
import Derived.Deep.RegionHeld3
import Derived.Deep.QuietTactic
import Derived.Deep.Cut
import Derived.Deep.LoopGhost
import Derived.Deep.DeepCutAuto
set_option linter.unusedVariables false
namespace Go.Proofs.Ytbemkcnikoiecaa
open Go.ChangeShapes Go.WideShapes Go.ChangeAt Go.RowKit Csv Ky
namespace Wt
abbrev tRw : TypeId := 61
abbrev tPw : TypeId := 55
abbrev tRws : TypeId := 26
abbrev tPws : TypeId := 46
abbrev tKs : TypeId := 37
def wtVals (x : W5) : List Value := [.int .i64 x.o, .int .i64 x.d, .int .i64 x.t, .int .i64 x.n, .bool x.p]
def wtV (x : W5) : Value := .agg #[.int .i64 x.o, .int .i64 x.d, .int .i64 x.t, .int .i64 x.n, .bool x.p]
def wtBox (t : TypeId) (x : W5) : Obj := .cells #[.int .i64 x.o, .int .i64 x.d, .int .i64 x.t, .int .i64 x.n, .bool x.p] t
def kyVals (x : Int × Int) : List Value := [.int .i64 x.1, .int .i64 x.2]
theorem wt_one (x : W5) : ∀ u ∈ wtVals x, u.oneCell' = true := fun u hu => by
  simp only [wtVals, List.mem_cons, List.not_mem_nil, or_false] at hu
  rcases hu with rfl | rfl | rfl | rfl | rfl <;> rfl
/-- The document's waits. -/
def rwK : RowK W5 where
  t := tRw
  ts := tRws
  sz := 5
  bytes := 40
  zero := .agg #[.int .i64 0, .int .i64 0, .int .i64 0, .int .i64 0, .bool false]
  cells := wtVals
  under := Try.underlying26
  info := by kernel_rfl
  zsize := rfl
  pos := by omega
  small := by omega
  len := fun x => rfl
  one := wt_one
/-- The program's waits. -/
def pwK : RowK W5 where
  t := tPw
  ts := tPws
  sz := 5
  bytes := 40
  zero := .agg #[.int .i64 0, .int .i64 0, .int .i64 0, .int .i64 0, .bool false]
  cells := wtVals
  under := Try.underlying46
  info := by kernel_rfl
  zsize := rfl
  pos := by omega
  small := by omega
  len := fun x => rfl
  one := wt_one
/-- Keys. -/
def keK : RowK (Int × Int) where
  t := tKy
  ts := tKs
  sz := 2
  bytes := 16
  zero := .agg #[.int .i64 0, .int .i64 0]
  cells := kyVals
  under := Try.underlying37
  info := by kernel_rfl
  zsize := rfl
  pos := by omega
  small := by omega
  len := fun x => rfl
  one := fun x u hu => by
    simp only [kyVals, List.mem_cons, List.not_mem_nil, or_false] at hu
    rcases hu with rfl | rfl <;> rfl
theorem wbox (w : World) (o : Obj) : Keeps w (w.alloc o) := (Below.refl _ w).alloc (Nat.le_refl _) _
theorem wdrew (w : World) : Keeps w w.drew := ⟨rfl, rfl, rfl, Nat.le_refl _, fun _ _ => rfl⟩
theorem wdrewN {w w' : World} (h : Keeps w w') (n : Nat) : Keeps w (w'.drewN n) := Below.trans h ⟨rfl, rfl, rfl, Nat.le_refl _, fun _ _ => rfl⟩
theorem wbox_lt {W : World} {r : Nat} {o : Obj} (h : W.heap[r]? = some o) : r < W.heap.size := (Array.getElem?_eq_some_iff.1 h).1
theorem wbox_keep {W X : World} {r : Nat} {o : Obj} (h : W.heap[r]? = some o) (k : Keeps W X) : X.heap[r]? = some o := (k.block r (wbox_lt h)).trans h
/-- An element's cell of a row that is read. -/
theorem src_at {α : Type} (K : RowK α) {w : World} {a : Addr} {n c : Nat} {l : List α} (h : K.Src w (.slice (some a) n c) l) {k : Nat} {x : α} (hx : l[k]? = some x) {j : Nat} {u : Value} (hu : (K.cells x)[j]? = some u) : w.cell? ((a.add (k * K.sz)).add j) = some u := by
  obtain ⟨p, c', e, _, h3⟩ := h
  simp only [Value.slice.injEq] at e
  have := h3 a e.1.symm _ u (K.row_at hx hu)
  rw [← this]
  congr 1
  unfold Addr.add
  split <;> split <;> (try split) <;> simp_all <;> omega
theorem src_slice {α : Type} (K : RowK α) {w : World} {v : Value} {l : List α} (h : K.Src w v l) : ∃ p c, v = .slice p l.length c := by
  obtain ⟨p, c, e, _⟩ := h
  exact ⟨p, c, e⟩
theorem src_some {α : Type} (K : RowK α) {w : World} {p : Option Addr} {n c : Nat} {l : List α} (h : K.Src w (.slice p n c) l) {k : Nat} {x : α} (hx : l[k]? = some x) : ∃ a, p = some a := by
  obtain ⟨p', c', e, h1, h3⟩ := h
  simp only [Value.slice.injEq] at e
  obtain ⟨rfl, _, _⟩ := e
  cases p with
  | none => rw [(h1 rfl).1] at hx; simp at hx
  | some a => exact ⟨a, rfl⟩
/-- A wait in five cells. -/
def WtAt (w : World) (a : Addr) (x : W5) : Prop :=
  w.cell? a = some (.int .i64 x.o) ∧ w.cell? ⟨a.block, a.off + 1, none⟩ = some (.int .i64 x.d) ∧ w.cell? ⟨a.block, a.off + 2, none⟩ = some (.int .i64 x.t) ∧ w.cell? ⟨a.block, a.off + 3, none⟩ = some (.int .i64 x.n) ∧ w.cell? ⟨a.block, a.off + 4, none⟩ = some (.bool x.p)
theorem waddr (a : Addr) {j : Nat} (h : 0 < j) : a.add j = ⟨a.block, a.off + j, none⟩ := by
  unfold Addr.add
  rw [if_neg (by omega)]
theorem src_rw {w : World} {a : Addr} {n c : Nat} {l : List W5} (h : rwK.Src w (.slice (some a) n c) l) {k : Nat} {x : W5} (hx : l[k]? = some x) : WtAt w (a.add (k * 5)) x := by
  have g : ∀ j u, (wtVals x)[j]? = some u → w.cell? ((a.add (k * 5)).add j) = some u := fun j u hu => src_at rwK h hx hu
  have g0 := g 0 _ rfl
  refine ⟨g0, ?_, ?_, ?_, ?_⟩
  · rw [← waddr _ (by omega)]; exact g 1 _ rfl
  · rw [← waddr _ (by omega)]; exact g 2 _ rfl
  · rw [← waddr _ (by omega)]; exact g 3 _ rfl
  · rw [← waddr _ (by omega)]; exact g 4 _ rfl
theorem src_pw {w : World} {a : Addr} {n c : Nat} {l : List W5} (h : pwK.Src w (.slice (some a) n c) l) {k : Nat} {x : W5} (hx : l[k]? = some x) : WtAt w (a.add (k * 5)) x := by
  have g : ∀ j u, (wtVals x)[j]? = some u → w.cell? ((a.add (k * 5)).add j) = some u := fun j u hu => src_at pwK h hx hu
  have g0 := g 0 _ rfl
  refine ⟨g0, ?_, ?_, ?_, ?_⟩
  · rw [← waddr _ (by omega)]; exact g 1 _ rfl
  · rw [← waddr _ (by omega)]; exact g 2 _ rfl
  · rw [← waddr _ (by omega)]; exact g 3 _ rfl
  · rw [← waddr _ (by omega)]; exact g 4 _ rfl
theorem src_ke {w : World} {a : Addr} {n c : Nat} {l : List (Int × Int)} (h : keK.Src w (.slice (some a) n c) l) {k : Nat} {x : Int × Int} (hx : l[k]? = some x) : w.cell? (a.add (k * 2)) = some (.int .i64 x.1) ∧ w.cell? ⟨(a.add (k * 2)).block, (a.add (k * 2)).off + 1, none⟩ = some (.int .i64 x.2) := by
  have g : ∀ j u, (kyVals x)[j]? = some u → w.cell? ((a.add (k * 2)).add j) = some u := fun j u hu => src_at keK h hx hu
  have g0 := g 0 _ rfl
  exact ⟨g0, by rw [← waddr _ (by omega)]; exact g 1 _ rfl⟩
theorem wt_src1 (w : World) (x : W5) : rwK.Src (w.alloc (.cells #[.int .i64 x.o, .int .i64 x.d, .int .i64 x.t, .int .i64 x.n, .bool x.p] tRw)) (.slice (some ⟨w.heap.size, 0, none⟩) 1 1) [x] := by
  refine ⟨_, 1, rfl, (fun e => by cases e), fun a ha j u hu => ?_⟩
  cases ha
  have e : rwK.row [x] = wtVals x := by unfold RowK.row; simp [rwK]
  rw [e] at hu
  have h := Joins.cell_of_block (heap_alloc_new w (.cells #[.int .i64 x.o, .int .i64 x.d, .int .i64 x.t, .int .i64 x.n, .bool x.p] tRw)) j
  rw [addr_of]
  rw [h]
  unfold wtVals at hu
  simpa using hu
theorem ke_src1 (w : World) (o d : Int) : keK.Src (w.alloc (.cells #[.int .i64 o, .int .i64 d] tKy)) (.slice (some ⟨w.heap.size, 0, none⟩) 1 1) [(o, d)] := by
  refine ⟨_, 1, rfl, (fun e => by cases e), fun a ha j u hu => ?_⟩
  cases ha
  have e : keK.row [(o, d)] = kyVals (o, d) := by unfold RowK.row; simp [keK]
  rw [e] at hu
  have h := Joins.cell_of_block (heap_alloc_new w (.cells #[.int .i64 o, .int .i64 d] tKy)) j
  rw [addr_of]
  rw [h]
  unfold kyVals at hu
  simpa using hu
/-- The box of a wait, of a key: what they hold. -/
theorem wt_box_cells {X : World} {n : Nat} {t : TypeId} {x : W5} (hX : X.heap[n]? = some (wtBox t x)) : (X.cell? ⟨n, 0, none⟩ = some (.int .i64 x.o) ∧ X.cell? ⟨n, 1, none⟩ = some (.int .i64 x.d) ∧ X.cell? ⟨n, 2, none⟩ = some (.int .i64 x.t) ∧ X.cell? ⟨n, 3, none⟩ = some (.int .i64 x.n) ∧ X.cell? ⟨n, 4, none⟩ = some (.bool x.p)) ∧
    (X.frozen? ⟨n, 0, none⟩ = false ∧ X.frozen? ⟨n, 1, none⟩ = false ∧ X.frozen? ⟨n, 2, none⟩ = false ∧ X.frozen? ⟨n, 3, none⟩ = false ∧ X.frozen? ⟨n, 4, none⟩ = false) := by
  refine ⟨by simp [World.cell?, hX, wtBox], by simp [World.frozen?, hX, wtBox]⟩
def keBox (o d : Int) : Obj := .cells #[.int .i64 o, .int .i64 d] tKy
theorem ke_box_cells {X : World} {n : Nat} {o d : Int} (hX : X.heap[n]? = some (keBox o d)) : X.cell? ⟨n, 0, none⟩ = some (.int .i64 o) ∧ X.cell? ⟨n, 1, none⟩ = some (.int .i64 d) := by
  simp [World.cell?, hX, keBox]
theorem own_grown {α : Type} (K : RowK α) {w W W' : World} {v : Value} {l : List α} (k : Keeps w W) (ho : K.Own w.heap.size W v l) (g : W.grownBy W' v.ownBlock) : Keeps w W' :=
  ⟨g.os.trans k.os, g.tape.trans k.tape, g.output.trans k.output, Nat.le_trans k.size g.size, fun j hj => (g.block j (Nat.lt_of_lt_of_le hj k.size) (fun e => by have := (K.own_lt ho j e.symm).1; omega)).trans (k.block j hj)⟩
end Wt
end Go.Proofs.Ytbemkcnikoiecaa
