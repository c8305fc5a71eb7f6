/- The document's party: what Ask leaves, step by step. -/
import Derived.Test.YtkffpmeocfhcpaaDoorPtRefX
import Derived.Test.YtkffpmeocfhcpaaDoorPpZ
set_option linter.unusedVariables false
set_option linter.unusedSimpArgs false
namespace Go.Proofs.YtkffpmeocfhcpaaDoor
open Go.ChangeShapes Go.WideShapes Go.ChangeAt Go.RowKit Ky Rw Csv
namespace Pt
open Pp
theorem box_keep {W X : World} {r : Nat} {o : Obj} (h : W.heap[r]? = some o) (k : Keeps W X) : X.heap[r]? = some o := (k.block r (Array.getElem?_eq_some_iff.1 h).1).trans h
theorem box_off {F : Nat → Prop} {W X : World} {r : Nat} {o : Obj} (h : W.heap[r]? = some o) (k : Only F W X) (hF : ¬ F r) : X.heap[r]? = some o := (k.same r (Array.getElem?_eq_some_iff.1 h).1 hF).trans h
/-- Of a message's box, and of the answer's: what they hold. -/
theorem pm_box_cells {X : World} {n : Nat} {m : M} (hX : X.heap[n]? = some (pmBox m)) : X.cell? ⟨n, 0, none⟩ = some (.int .i64 m.t) ∧ X.cell? ⟨n, 1, none⟩ = some (.int .i64 m.o) ∧ X.cell? ⟨n, 2, none⟩ = some (.int .i64 m.k) ∧ X.cell? ⟨n, 3, none⟩ = some (.string m.s) ∧ X.cell? ⟨n, 4, none⟩ = some (.int .i64 m.q) ∧ X.cell? ⟨n, 5, none⟩ = some (.int .i64 m.a) ∧ X.cell? ⟨n, 6, none⟩ = some (.int .i64 m.c) := by
  simp [World.cell?, hX, pmBox]
theorem no_box_cells {X : World} {n : Nat} (hX : X.heap[n]? = some noObj) : (X.cell? ⟨n, 0, none⟩ = some (.int .i64 0) ∧ X.cell? ⟨n, 1, none⟩ = some (.int .i64 0) ∧ X.cell? ⟨n, 2, none⟩ = some (.int .i64 0) ∧ X.cell? ⟨n, 3, none⟩ = some (.string ⟨#[]⟩) ∧ X.cell? ⟨n, 4, none⟩ = some (.int .i64 0) ∧ X.cell? ⟨n, 5, none⟩ = some (.int .i64 0) ∧ X.cell? ⟨n, 6, none⟩ = some (.int .i64 0)) ∧
    (X.frozen? ⟨n, 0, none⟩ = false ∧ X.frozen? ⟨n, 1, none⟩ = false ∧ X.frozen? ⟨n, 2, none⟩ = false ∧ X.frozen? ⟨n, 3, none⟩ = false ∧ X.frozen? ⟨n, 4, none⟩ = false ∧ X.frozen? ⟨n, 5, none⟩ = false ∧ X.frozen? ⟨n, 6, none⟩ = false) := by
  refine ⟨by simp [World.cell?, hX, noObj], by simp [World.frozen?, hX, noObj]⟩
def rwBox (r : R) : Obj := .cells #[.int .i64 r.o, .int .i64 r.d, .int .i64 r.c, .int .i64 r.a, .int .i64 r.q] tRw
theorem rw_box_cells {X : World} {n : Nat} {r : R} (hX : X.heap[n]? = some (rwBox r)) : (X.cell? ⟨n, 0, none⟩ = some (.int .i64 r.o) ∧ X.cell? ⟨n, 1, none⟩ = some (.int .i64 r.d) ∧ X.cell? ⟨n, 2, none⟩ = some (.int .i64 r.c) ∧ X.cell? ⟨n, 3, none⟩ = some (.int .i64 r.a) ∧ X.cell? ⟨n, 4, none⟩ = some (.int .i64 r.q)) ∧
    (X.frozen? ⟨n, 0, none⟩ = false ∧ X.frozen? ⟨n, 1, none⟩ = false ∧ X.frozen? ⟨n, 2, none⟩ = false ∧ X.frozen? ⟨n, 3, none⟩ = false ∧ X.frozen? ⟨n, 4, none⟩ = false) := by
  refine ⟨by simp [World.cell?, hX, rwBox], by simp [World.frozen?, hX, rwBox]⟩
theorem rw_box_set {W : World} {n : Nat} {r : R} (h : W.heap[n]? = some (rwBox r)) (a b c d e : Int) :
    (((((W.setCell ⟨n, 0, none⟩ (.int .i64 a)).setCell ⟨n, 1, none⟩ (.int .i64 b)).setCell ⟨n, 2, none⟩ (.int .i64 c)).setCell ⟨n, 3, none⟩ (.int .i64 d)).setCell ⟨n, 4, none⟩ (.int .i64 e)).heap[n]? = some (rwBox ⟨a, b, c, d, e⟩) := ptFive_set h _ _ _ _ _
theorem rw_box_only (X : World) (j : Nat) (v0 v1 v2 v3 v4 : Value) : Only (fun i => i = j) X (((((X.setCell ⟨j, 0, none⟩ v0).setCell ⟨j, 1, none⟩ v1).setCell ⟨j, 2, none⟩ v2).setCell ⟨j, 3, none⟩ v3).setCell ⟨j, 4, none⟩ v4) :=
  ((((Only.cell v0).trans (Only.cell v1)).trans (Only.cell v2)).trans (Only.cell v3)).trans (Only.cell v4)
/-- Blocks of other kinds than the party's, written: it stays. -/
theorem ref_off {F : Nat → Prop} {W X : World} {b : Nat} {p : P} {seq : Int} (h : RefP W b p seq) (g : Only F W X) (hb : ¬ F b) (hF : ∀ i cs, W.heap[i]? = some (.cells cs tRw (0, 0)) ∨ W.heap[i]? = some (.cells cs tGd (0, 0)) → ¬ F i) : RefP X b p seq := by
  obtain ⟨vL, vG, h1, h2, h3⟩ := h
  refine ⟨vL, vG, box_off h1 g hb, rowK.own_local h2 fun i hi => ?_, gdK.own_local h3 fun i hi => ?_⟩
  · obtain ⟨c, hc⟩ := rowK.own_tag h2 hi
    exact g.same i (Array.getElem?_eq_some_iff.1 hc).1 (hF i c (Or.inl hc))
  · obtain ⟨c, hc⟩ := gdK.own_tag h3 hi
    exact g.same i (Array.getElem?_eq_some_iff.1 hc).1 (hF i c (Or.inr hc))
/-- A block of another kind, written: the party stays. -/
theorem ref_one {X Y : World} {n b : Nat} {o : Obj} {p : P} {seq : Int} (h : RefP X b p seq) (hb : X.heap[n]? = some o) (ht : ∀ cs, o ≠ .cells cs tRw (0, 0) ∧ o ≠ .cells cs tGd (0, 0)) (hn : n ≠ b) (g : Only (fun i => i = n) X Y) : RefP Y b p seq :=
  ref_off h g (fun e => hn e.symm) fun i cs hi e => by
    subst e
    rcases hi with hi | hi <;> rw [hb] at hi <;> cases hi
    · exact (ht cs).1 rfl
    · exact (ht cs).2 rfl
/-- Where the rows are not, written. -/
theorem refq_one {X Y : World} {n b : Nat} {r : R} {p : P} {seq : Int} (h : RefQ (fun g => g ≠ n) X b p seq) (hb : X.heap[n]? = some (rwBox r)) (hn : n ≠ b) (g : Only (fun i => i = n) X Y) : RefP Y b p seq := by
  obtain ⟨vL, vG, h1, h2, h3, h4⟩ := h
  refine ⟨vL, vG, box_off h1 g (fun e => hn e.symm), rowK.own_local h2 fun i hi => ?_, gdK.own_local h3 fun i hi => ?_⟩
  · exact g.same i (rowK.own_lt h2 i hi).2 (fun e => h4 i hi e)
  · obtain ⟨c, hc⟩ := gdK.own_tag h3 hi
    refine g.same i (gdK.own_lt h3 i hi).2 (fun e => ?_)
    subst e
    rw [hb] at hc
    unfold rwBox at hc
    simp only [Option.some.injEq, Obj.cells.injEq] at hc
    exact absurd hc.2.1 (by decide)
theorem no_tag (cs : Array Value) : noObj ≠ .cells cs tRw (0, 0) ∧ noObj ≠ .cells cs tGd (0, 0) := by
  unfold noObj
  constructor <;> (intro e; simp only [Obj.cells.injEq] at e; exact absurd e.2.1 (by decide))
/-- Behind the choice of what is done: a row that is to be written. -/
structure AskAt (w X : World) (b n6 : Nat) (m : M) (seq : Int) (A : P × Option Int) : Prop where
  ex : ∃ (p1 : P) (r1 : R), RefP X b p1 seq ∧ p1.L.length ≤ 400 ∧ X.heap[n6]? = some (rwBox r1) ∧ A = (⟨p1.kind, p1.stock, p1.limit, ins r1 p1.L, p1.G⟩, some r1.c)
  only : Only (fun i => i = b) w X
  b3 : X.heap[w.heap.size]? = some (pmBox m)
  b4 : X.heap[w.heap.size + 1]? = some noObj
  lt : b < w.heap.size
  le : w.heap.size + 1 < n6
/-- A party under way: its boxes. -/
structure Und (w X : World) (b n6 n11 : Nat) (m : M) (seq : Int) (p : P) (r r2 : R) : Prop where
  ref : RefQ (fun g => g ≠ n6) X b p seq
  only : Only (fun i => i = b) w X
  b3 : X.heap[w.heap.size]? = some (pmBox m)
  b4 : X.heap[w.heap.size + 1]? = some noObj
  b6 : X.heap[n6]? = some (rwBox r)
  b11 : X.heap[n11]? = some (rwBox r2)
  lt : b < w.heap.size
  le : w.heap.size + 1 < n6
  gt : b ≠ n11
theorem Und.keeps {w X Y : World} {b n6 n11 : Nat} {m : M} {seq : Int} {p : P} {r r2 : R} (h : Und w X b n6 n11 m seq p r r2) (k : Keeps X Y) : Und w Y b n6 n11 m seq p r r2 :=
  ⟨h.ref.keeps k, h.only.trans (Only.of_keeps k), box_keep h.b3 k, box_keep h.b4 k, box_keep h.b6 k, box_keep h.b11 k, h.lt, h.le, h.gt⟩
theorem Und.to {w X Y : World} {b n6 n11 : Nat} {m : M} {seq : Int} {p p' : P} {r r2 : R} (h : Und w X b n6 n11 m seq p r r2) (g : X.grownBy Y (some b)) (hr : RefQ (fun g => g ≠ n6) Y b p' seq) : Und w Y b n6 n11 m seq p' r r2 := by
  have o : Only (fun i => i = b) X Y := Only.grown g rfl
  have l1 := h.lt
  have l2 := h.le
  exact ⟨hr, h.only.trans o, box_off h.b3 o (by omega), box_off h.b4 o (by omega), box_off h.b6 o (by omega), box_off h.b11 o (fun e => h.gt e.symm), h.lt, h.le, h.gt⟩
/-- The row chosen: stored in its box. -/
theorem Und.ask {w X : World} {b n6 n11 : Nat} {m : M} {seq : Int} {p : P} {r r2 : R} (h : Und w X b n6 n11 m seq p r r2) (hl : p.L.length ≤ 400) (x0 x1 x2 x3 x4 : Int) {A : P × Option Int} (hA : A = (⟨p.kind, p.stock, p.limit, ins ⟨x0, x1, x2, x3, x4⟩ p.L, p.G⟩, some x2)) :
    AskAt w (((((X.setCell ⟨n6, 0, none⟩ (.int .i64 x0)).setCell ⟨n6, 1, none⟩ (.int .i64 x1)).setCell ⟨n6, 2, none⟩ (.int .i64 x2)).setCell ⟨n6, 3, none⟩ (.int .i64 x3)).setCell ⟨n6, 4, none⟩ (.int .i64 x4)) b n6 m seq A := by
  have l1 := h.lt
  have l2 := h.le
  have g := rw_box_only X n6 (.int .i64 x0) (.int .i64 x1) (.int .i64 x2) (.int .i64 x3) (.int .i64 x4)
  exact ⟨⟨p, ⟨x0, x1, x2, x3, x4⟩, refq_one h.ref h.b6 (by omega) g, hl, rw_box_set h.b6 x0 x1 x2 x3 x4, hA⟩, Only.new h.only g (by omega), box_off h.b3 g (by omega), box_off h.b4 g (by omega), h.lt, h.le⟩
theorem fd_get {L : List R} {o d : Int} {r : R} (hr : fdV L o d = r) (hs : fdB L o d = true) : fd L o d = some r := by
  unfold fdV at hr
  unfold fdB at hs
  cases h : fd L o d with
  | none => rw [h] at hs; cases hs
  | some x => rw [h] at hr; exact congrArg some hr
theorem fd_not {L : List R} {o d : Int} (hs : fdB L o d = false) : fd L o d = none := by
  unfold fdB at hs
  cases h : fd L o d with
  | none => rfl
  | some x => rw [h] at hs; cases hs
theorem fdV_not {L : List R} {o d : Int} {r : R} (hr : fdV L o d = r) (hs : fdB L o d = false) : r = ⟨0, 0, 0, 0, 0⟩ := by
  rw [← hr]
  unfold fdV
  rw [fd_not hs]; rfl
theorem ask_off {p : P} {m : M} (h : ¬ (may m = true ∧ m.t = p.kind)) : ask p m = (p, none) := by unfold ask; rw [if_neg h]
theorem ask_there {p : P} {m : M} {r : R} (h : may m = true ∧ m.t = p.kind) (hr : fd p.L m.o m.k = some r) : ask p m = (p, some r.c) := by unfold ask; rw [if_pos h, hr]
theorem ask_new {p : P} {m : M} (h : may m = true ∧ m.t = p.kind) (hr : fd p.L m.o m.k = none) : ask p m = ((done p m).1, some (done p m).2) := by unfold ask; rw [if_pos h, hr]
theorem done_undo {p : P} {m : M} {uw : Int} {there : Bool} {r2 : R} (h3 : 3 ≤ m.k) (hu : uw = m.k - 3) (ht : fdB p.L m.o uw = there) (hr : fdV p.L m.o uw = r2) :
    done p m = (⟨p.kind, p.stock, p.limit, ins ⟨m.o, m.k, 1, r2.a, r2.q⟩ (if there = true then p.L else ins ⟨m.o, uw, 2, 0, 0⟩ p.L), free m.o p.G⟩, 1) := by
  subst hu
  unfold done
  rw [if_pos h3]
  cases there with
  | true => rw [fd_get hr ht]; rfl
  | false =>
    obtain rfl := fdV_not hr ht
    rw [fd_not ht]; rfl
theorem done_yes {p : P} {m : M} (h3 : m.k < 3) (hd : does p m = true) : done p m = (⟨p.kind, p.stock, p.limit, ins ⟨m.o, m.k, 1, m.a, m.q⟩ p.L, if p.kind = 1 then p.G ++ [⟨m.o, m.s, m.q⟩] else p.G⟩, 1) := by
  unfold done
  rw [if_neg (by omega), if_pos hd]
theorem done_no {p : P} {m : M} (h3 : m.k < 3) (hd : does p m = false) : done p m = (⟨p.kind, p.stock, p.limit, ins ⟨m.o, m.k, 2, 0, 0⟩ p.L, p.G⟩, 2) := by
  unfold done
  rw [if_neg (by omega), if_neg (by rw [hd]; exact Bool.false_ne_true)]
end Pt
end Go.Proofs.YtkffpmeocfhcpaaDoor
