
/- A net of a law's own; the chapter's net. -/
import Derived.Test.YtajphjlfefhajaaNtGreat
import Derived.Deep.RegionHeld3
set_option linter.unusedVariables false
namespace Go.Proofs.Ytajphjlfefhajaa
open Go.ChangeShapes Go.WideShapes Go.ChangeAt Go.RowKit Csv Ky
namespace Nt
/-- Blocks of E are as they were. -/
def Still (E : Nat → Prop) (X Y : World) : Prop := ∀ i, E i → Y.heap[i]? = X.heap[i]?
theorem Still.trans {E : Nat → Prop} {X Y Z : World} (h : Still E X Y) (g : Still E Y Z) : Still E X Z := fun i hi => (g i hi).trans (h i hi)
/-- A net in memory that is new since W, and that is not E's. -/
structure Mine (P : NtP) (W : World) (E : Nat → Prop) (X : World) (b : Nat) (l : List Mg) : Prop where
  ex : ∃ F, P.At X b F l ∧ ∀ i, F i → W.heap.size ≤ i ∧ ¬ E i
  k : Keeps W X
  e : ∀ i, E i → i < X.heap.size
def E0 : Nat → Prop := fun _ => False
section
variable {P : NtP} {W X Y : World} {b : Nat} {l l' : List Mg} {E : Nat → Prop}
theorem Mine.keeps (h : Mine P W E X b l) (k : Keeps X Y) : Mine P W E Y b l := by
  obtain ⟨⟨F, h1, h2⟩, h3, h4⟩ := h
  exact ⟨⟨F, P.keeps h1 k, h2⟩, h3.trans k, fun i hi => Nat.lt_of_lt_of_le (h4 i hi) k.size⟩
theorem Mine.still (h : Mine P W E X b l) (k : Keeps X Y) : Still E X Y := fun i hi => k.block i (h.e i hi)
/-- A new block is set aside. -/
theorem Mine.aside (h : Mine P W E X b l) (o : Obj) : Mine P W (fun i => E i ∨ i = X.heap.size) (X.alloc o) b l := by
  obtain ⟨⟨F, h1, h2⟩, h3, h4⟩ := h
  refine ⟨⟨F, P.keeps h1 (nbox _ _), fun i hi => ⟨(h2 i hi).1, ?_⟩⟩, h3.trans (nbox _ _), fun i hi => ?_⟩
  · rintro (q | rfl)
    · exact (h2 i hi).2 q
    · have := P.lt h1 hi; omega
  · rcases hi with q | rfl
    · have := h4 i q; simp; omega
    · simp
theorem Mine.sub {E' : Nat → Prop} (h : Mine P W E X b l) (hs : ∀ i, E' i → E i) : Mine P W E' X b l :=
  ⟨h.ex.imp fun F ⟨h1, h2⟩ => ⟨h1, fun i hi => ⟨(h2 i hi).1, fun q => (h2 i hi).2 (hs i q)⟩⟩, h.k, fun i hi => h.e i (hs i hi)⟩
/-- Blocks of E written by others. -/
theorem Mine.only (h : Mine P W E X b l) (g : Only E X Y) (hE : ∀ i, E i → W.heap.size ≤ i) : Mine P W E Y b l := by
  obtain ⟨⟨F, h1, h2⟩, h3, h4⟩ := h
  exact ⟨⟨F, P.loc h1 fun i hi => g.same i (P.lt h1 hi) (h2 i hi).2, h2⟩, g.keeps h3 hE, fun i hi => Nat.lt_of_lt_of_le (h4 i hi) g.size⟩
theorem Mine.goes {F : Nat → Prop} (h : ∀ i, F i → W.heap.size ≤ i ∧ ¬ E i) (k : Keeps W X) (he : ∀ i, E i → i < X.heap.size) (g : PGoes P.At X Y b F l') : Mine P W E Y b l' ∧ Still E X Y := by
  obtain ⟨⟨F', g1, g2⟩, g3⟩ := g
  refine ⟨⟨⟨F', g1, fun i hi => ?_⟩, g3.keeps k (fun i hi => (h i hi).1), fun i hi => Nat.lt_of_lt_of_le (he i hi) g3.size⟩, fun i hi => g3.same i (he i hi) (fun q => (h i q).2 hi)⟩
  rcases g2 i hi with q | q
  · exact h i q
  · exact ⟨Nat.le_trans k.size q, fun r => by have := he i r; omega⟩
theorem mine_new (W X : World) (k : Keeps W X) (he : ∀ i, E i → i < X.heap.size) : Calls Try.prog 9 #[] X fun e w' => ∃ b, e = .returned (.pointer (some ⟨b, 0, none⟩)) ∧ Mine P W E w' b [] ∧ Keeps X w' :=
  (P.new X).mono fun e w' ⟨⟨b, F, h1, h2, h3⟩, kk⟩ => ⟨b, h1, ⟨⟨F, h2, fun i hi => ⟨Nat.le_trans k.size (h3 i hi), fun q => by have := he i q; have := h3 i hi; omega⟩⟩, k.trans kk, fun i hi => Nat.lt_of_lt_of_le (he i hi) kk.size⟩, kk⟩
theorem Mine.send (h : Mine P W E X b l) (hl : l.length ≤ 1000) (m : Mg) : Calls Try.prog 16 #[.pointer (some ⟨b, 0, none⟩), mgV m] X fun e w' => e = .returned (.bool (room l)) ∧ Mine P W E w' b (Nt.send l m) ∧ Still E X w' := by
  obtain ⟨⟨F, h1, h2⟩, h3, h4⟩ := h
  exact (P.send m h1 hl).mono fun e w' ⟨g1, g2⟩ => ⟨g1, Mine.goes h2 h3 h4 g2⟩
theorem Mine.mail (h : Mine P W E X b l) (hl : l.length ≤ 1000) : Calls Try.prog 14 #[.pointer (some ⟨b, 0, none⟩)] X fun e w' => ∃ v, e = .returned v ∧ mgK.Own X.heap.size w' v l ∧ Mine P W E w' b l ∧ Keeps X w' := by
  obtain ⟨⟨F, h1, h2⟩, h3, h4⟩ := h
  exact (P.mail h1 hl).mono fun e w' ⟨v, g1, g2, g3⟩ => ⟨v, g1, g2, ⟨⟨F, P.keeps h1 g3, h2⟩, h3.trans g3, fun i hi => Nat.lt_of_lt_of_le (h4 i hi) g3.size⟩, g3⟩
theorem Mine.deliver (h : Mine P W E X b l) (hl : l.length ≤ 1000) (i : Int) (hi : I64 i) : Calls Try.prog 15 #[.pointer (some ⟨b, 0, none⟩), .int .i64 i] X fun e w' => e = .returned (.tuple #[delV (gone l i), .bool (isB l i)]) ∧ Mine P W E w' b (del l i) ∧ Still E X w' := by
  obtain ⟨⟨F, h1, h2⟩, h3, h4⟩ := h
  exact (P.deliver i hi h1 hl).mono fun e w' ⟨g1, g2⟩ => ⟨g1, Mine.goes h2 h3 h4 g2⟩
theorem Mine.drop (h : Mine P W E X b l) (hl : l.length ≤ 1000) (i : Int) (hi : I64 i) : Calls Try.prog 17 #[.pointer (some ⟨b, 0, none⟩), .int .i64 i] X fun e w' => e = .returned (.bool (isB l i)) ∧ Mine P W E w' b (del l i) ∧ Still E X w' := by
  obtain ⟨⟨F, h1, h2⟩, h3, h4⟩ := h
  exact (P.drop i hi h1 hl).mono fun e w' ⟨g1, g2⟩ => ⟨g1, Mine.goes h2 h3 h4 g2⟩
theorem Mine.double (h : Mine P W E X b l) (hl : l.length ≤ 1000) (i : Int) (hi : I64 i) : Calls Try.prog 18 #[.pointer (some ⟨b, 0, none⟩), .int .i64 i] X fun e w' => e = .returned (.bool (dblB l i)) ∧ Mine P W E w' b (dbl l i) ∧ Still E X w' := by
  obtain ⟨⟨F, h1, h2⟩, h3, h4⟩ := h
  exact (P.double i hi h1 hl).mono fun e w' ⟨g1, g2⟩ => ⟨g1, Mine.goes h2 h3 h4 g2⟩
theorem Mine.turn (h : Mine P W E X b l) (hl : l.length ≤ 1000) (i k : Int) (hi : I64 i) (hk : I64 k) : Calls Try.prog 19 #[.pointer (some ⟨b, 0, none⟩), .int .i64 i, .int .i64 k] X fun e w' => e = .returned (.bool (turnB l i k)) ∧ Mine P W E w' b (Nt.turn l i k) ∧ Still E X w' := by
  obtain ⟨⟨F, h1, h2⟩, h3, h4⟩ := h
  exact (P.turn i k hi hk h1 hl).mono fun e w' ⟨g1, g2⟩ => ⟨g1, Mine.goes h2 h3 h4 g2⟩
end
def mA : Mg := ⟨1, 0, 0, ⟨#[]⟩, 0, 0, 0⟩
def mB : Mg := ⟨2, 0, 0, ⟨#[]⟩, 0, 0, 0⟩
theorem i0 : I64 0 := by unfold I64 top; omega
theorem i1 : I64 1 := by unfold I64 top; omega
theorem t1 : room ([] : List Mg) = true ∧ Nt.send [] mA = [mA] := ⟨rfl, rfl⟩
theorem t2 : room [mA] = true ∧ Nt.send [mA] mB = [mA, mB] := ⟨rfl, rfl⟩
theorem t3 : dblB [mA, mB] 0 = true ∧ dbl [mA, mB] 0 = [mA, mB, mA] := ⟨rfl, rfl⟩
theorem t4 : turnB [mA, mB, mA] 0 1 = true ∧ Nt.turn [mA, mB, mA] 0 1 = [mB, mA, mA] := ⟨rfl, rfl⟩
theorem t5 : isB [mB, mA, mA] 0 = true ∧ gone [mB, mA, mA] 0 = some mB ∧ del [mB, mA, mA] 0 = [mA, mA] := ⟨rfl, rfl, rfl⟩
theorem t6 : isB [mA, mA] 1 = true ∧ del [mA, mA] 1 = [mA] := ⟨rfl, rfl⟩
theorem t7 : isB [mA] 1 = false ∧ gone [mA] 1 = none ∧ del [mA] 1 = [mA] := ⟨rfl, rfl, rfl⟩
theorem t8 : turnB [mA] 0 1 = false ∧ Nt.turn [mA] 0 1 = [mA] := ⟨rfl, rfl⟩
theorem mgs_three {W : World} {g : Nat} {x y z : Mg} (h : W.heap[g]? = some (.cells #[.int .i64 x.t, .int .i64 x.o, .int .i64 x.k, .string x.s, .int .i64 x.q, .int .i64 x.a, .int .i64 x.c, .int .i64 y.t, .int .i64 y.o, .int .i64 y.k, .string y.s, .int .i64 y.q, .int .i64 y.a, .int .i64 y.c, .int .i64 z.t, .int .i64 z.o, .int .i64 z.k, .string z.s, .int .i64 z.q, .int .i64 z.a, .int .i64 z.c] tMg)) : MgsIn W (.slice (some ⟨g, 0, none⟩) 3 3) [x, y, z] := by
  refine ⟨_, 3, rfl, by unfold maxLen; simp, ⟨by simp, fun e => by cases e⟩, fun j u hu => ⟨_, rfl, ?_⟩⟩
  have c := fun i => Joins.cell_of_block h i
  match j, hu with
  | 0, hu => cases hu; exact ⟨c 0, c 1, c 2, c 3, c 4, c 5, c 6⟩
  | 1, hu => cases hu; exact ⟨c 7, c 8, c 9, c 10, c 11, c 12, c 13⟩
  | 2, hu => cases hu; exact ⟨c 14, c 15, c 16, c 17, c 18, c 19, c 20⟩
  | j + 3, hu => simp at hu
theorem mgs_one {W : World} {g : Nat} {x : Mg} (h : W.heap[g]? = some (mgBox x)) : MgsIn W (.slice (some ⟨g, 0, none⟩) 1 1) [x] := by
  refine ⟨_, 1, rfl, by unfold maxLen; simp, ⟨by simp, fun e => by cases e⟩, fun j u hu => ⟨_, rfl, ?_⟩⟩
  have c := fun i => Joins.cell_of_block h i
  match j, hu with
  | 0, hu => cases hu; exact ⟨c 0, c 1, c 2, c 3, c 4, c 5, c 6⟩
  | j + 1, hu => simp at hu
set_option maxHeartbeats 8000000 in
set_option maxRecDepth 100000 in
theorem la_mailed (P : NtP) (W : World) : Calls Try.prog 8 #[] W fun e w' => e = .returned (.bool true) ∧ Keeps W w' := by
  obtain ⟨w2, hw2⟩ : ∃ w2, (W.alloc (mgBox mA)).alloc (mgBox mB) = w2 := ⟨_, rfl⟩
  have K2 : Hid (Keeps W w2) := Lib.hid (hw2 ▸ (nbox _ _).trans (nbox _ _))
  have BA : Hid (w2.heap[W.heap.size]? = some (mgBox mA)) := Lib.hid (hw2 ▸ box_keep (heap_alloc_new _ _) (nbox _ _))
  have BB : Hid (w2.heap[W.heap.size + 1]? = some (mgBox mB)) := Lib.hid (by
    have e := heap_alloc_new (W.alloc (mgBox mA)) (mgBox mB)
    have s : (W.alloc (mgBox mA)).heap.size = W.heap.size + 1 := by simp
    rw [hw2, s] at e
    exact e)
  have CB : Hid (∀ X, Keeps w2 X → (X.cell? ⟨W.heap.size, 0, none⟩ = some (.int .i64 1) ∧ X.cell? ⟨W.heap.size, 1, none⟩ = some (.int .i64 0) ∧ X.cell? ⟨W.heap.size, 2, none⟩ = some (.int .i64 0) ∧ X.cell? ⟨W.heap.size, 3, none⟩ = some (.string ⟨#[]⟩) ∧ X.cell? ⟨W.heap.size, 4, none⟩ = some (.int .i64 0) ∧ X.cell? ⟨W.heap.size, 5, none⟩ = some (.int .i64 0) ∧ X.cell? ⟨W.heap.size, 6, none⟩ = some (.int .i64 0)) ∧
      (X.cell? ⟨W.heap.size + 1, 0, none⟩ = some (.int .i64 2) ∧ X.cell? ⟨W.heap.size + 1, 1, none⟩ = some (.int .i64 0) ∧ X.cell? ⟨W.heap.size + 1, 2, none⟩ = some (.int .i64 0) ∧ X.cell? ⟨W.heap.size + 1, 3, none⟩ = some (.string ⟨#[]⟩) ∧ X.cell? ⟨W.heap.size + 1, 4, none⟩ = some (.int .i64 0) ∧ X.cell? ⟨W.heap.size + 1, 5, none⟩ = some (.int .i64 0) ∧ X.cell? ⟨W.heap.size + 1, 6, none⟩ = some (.int .i64 0))) := Lib.hid fun X k => ⟨(mg_box_cells (box_keep BA.out k)).1, (mg_box_cells (box_keep BB.out k)).1⟩
  have CN := Lib.hid (mine_new (P := P) (E := E0) w2 w2 (Keeps.refl _) (fun i hi => hi.elim))
  have EW2 := Lib.hid hw2
  clear hw2
  unfold mgBox mA mB at EW2
  go_enter Try.func8, Try.ntmps8
  go_upto_region 2 with (fail)
  rw [EW2.out]
  clear EW2
  go_wp2_with fail
  refine CN.out.mono ?_
  rintro e w3 ⟨b, rfl, h3, _⟩
  have M3 := Lib.hid h3
  clear h3 CN
  go_upto_region 3 with (fail)
  have C1 : Hid (∀ X, Keeps w3 X → Calls Try.prog 16 #[.pointer (some ⟨b, 0, none⟩), .agg #[.int .i64 1, .int .i64 0, .int .i64 0, .string ⟨#[]⟩, .int .i64 0, .int .i64 0, .int .i64 0]] X fun e w' => e = .returned (.bool true) ∧ Mine P w2 E0 w' b [mA]) := Lib.hid fun X k => by
    have c := (M3.out.keeps k).send (by decide) mA
    rw [t1.1, t1.2] at c
    exact c.mono fun e w' g => ⟨g.1, g.2.1⟩
  have C2 : Hid (∀ X, Mine P w2 E0 X b [mA] → Calls Try.prog 16 #[.pointer (some ⟨b, 0, none⟩), .agg #[.int .i64 2, .int .i64 0, .int .i64 0, .string ⟨#[]⟩, .int .i64 0, .int .i64 0, .int .i64 0]] X fun e w' => e = .returned (.bool true) ∧ Mine P w2 E0 w' b [mA, mB]) := Lib.hid fun X h => by
    have c := h.send (by simp) mB
    rw [t2.1, t2.2] at c
    exact c.mono fun e w' g => ⟨g.1, g.2.1⟩
  have C3 : Hid (∀ X, Mine P w2 E0 X b [mA, mB] → Calls Try.prog 18 #[.pointer (some ⟨b, 0, none⟩), .int .i64 0] X fun e w' => e = .returned (.bool true) ∧ Mine P w2 E0 w' b [mA, mB, mA]) := Lib.hid fun X h => by
    have c := h.double (by simp) 0 i0
    rw [t3.1, t3.2] at c
    exact c.mono fun e w' g => ⟨g.1, g.2.1⟩
  have C4 : Hid (∀ X, Mine P w2 E0 X b [mA, mB, mA] → Calls Try.prog 14 #[.pointer (some ⟨b, 0, none⟩)] X fun e w' => ∃ v, e = .returned v ∧ MgsIn w' v [mA, mB, mA] ∧ Mine P w2 E0 w' b [mA, mB, mA] ∧ Keeps X w') := Lib.hid fun X h => by
    have c := h.mail (by simp)
    exact c.mono fun e w' ⟨v, g1, g2, g3, g4⟩ => ⟨v, g1, own_mgs g2 (by simp), g3, g4⟩
  have C5 : Hid (∀ X v v', MgsIn X v [mA, mB, mA] → MgsIn X v' [mA, mB, mA] → Mine P w2 E0 X b [mA, mB, mA] → Calls Try.prog 13 #[v, v'] X fun e w' => e = .returned (.bool true) ∧ Mine P w2 E0 w' b [mA, mB, mA]) := Lib.hid fun X v v' h h' m => (la_same v v' _ X h h').mono fun e w' ⟨g1, g2⟩ => ⟨g1, m.keeps g2⟩
  have C6 : Hid (∀ X, Mine P w2 E0 X b [mA, mB, mA] → Calls Try.prog 19 #[.pointer (some ⟨b, 0, none⟩), .int .i64 0, .int .i64 1] X fun e w' => e = .returned (.bool true) ∧ Mine P w2 E0 w' b [mB, mA, mA]) := Lib.hid fun X h => by
    have c := h.turn (by simp) 0 1 i0 i1
    rw [t4.1, t4.2] at c
    exact c.mono fun e w' g => ⟨g.1, g.2.1⟩
  go_cut [40] (fun v40 X => v40 = .bool false ∧ Mine P w2 E0 X b [mB, mA, mA])
  case first =>
    obtain ⟨⟨x0, x1, x2, x3, x4, x5, x6⟩, y0, y1, y2, y3, y4, y5, y6⟩ := CB.out _ M3.out.k
    have HX := Lib.hid M3.out.k
    go_region_held3 (fun X => (X.cell? ⟨W.heap.size, 0, none⟩ = some (.int .i64 1) ∧ X.cell? ⟨W.heap.size, 1, none⟩ = some (.int .i64 0) ∧ X.cell? ⟨W.heap.size, 2, none⟩ = some (.int .i64 0) ∧ X.cell? ⟨W.heap.size, 3, none⟩ = some (.string ⟨#[]⟩) ∧ X.cell? ⟨W.heap.size, 4, none⟩ = some (.int .i64 0) ∧ X.cell? ⟨W.heap.size, 5, none⟩ = some (.int .i64 0) ∧ X.cell? ⟨W.heap.size, 6, none⟩ = some (.int .i64 0)) ∧ (X.cell? ⟨W.heap.size + 1, 0, none⟩ = some (.int .i64 2) ∧ X.cell? ⟨W.heap.size + 1, 1, none⟩ = some (.int .i64 0) ∧ X.cell? ⟨W.heap.size + 1, 2, none⟩ = some (.int .i64 0) ∧ X.cell? ⟨W.heap.size + 1, 3, none⟩ = some (.string ⟨#[]⟩) ∧ X.cell? ⟨W.heap.size + 1, 4, none⟩ = some (.int .i64 0) ∧ X.cell? ⟨W.heap.size + 1, 5, none⟩ = some (.int .i64 0) ∧ X.cell? ⟨W.heap.size + 1, 6, none⟩ = some (.int .i64 0)))
      (first | exact CB.out _ HX.out | exact CB.out _ (HX.out.trans (ndrew _)) | exact CB.out _ (HX.out.trans (nbox _ _)) | assumption)
      (first
      | (go_at_call 16; refine (C1.out _ (ndrew _)).mono ?_; rintro e wv ⟨rfl, h⟩; have M4 := Lib.hid h; clear h HX C1; have HX := Lib.hid M4.out.k; have zz := CB.out _ HX.out)
      | (go_at_call 16; refine (C2.out _ M4.out).mono ?_; rintro e wv ⟨rfl, h⟩; have M5 := Lib.hid h; clear h HX C2; have HX := Lib.hid M5.out.k; have zz := CB.out _ HX.out)
      | (go_at_call 18; refine (C3.out _ M5.out).mono ?_; rintro e wv ⟨rfl, h⟩; have M6 := Lib.hid h; clear h HX C3; have HX := Lib.hid M6.out.k; have zz := CB.out _ HX.out)
      | (go_at_call 14; refine (C4.out _ M6.out).mono ?_; rintro e wv ⟨v, rfl, g, h, kk⟩; have M7 := Lib.hid h; have V7 := Lib.hid g; obtain ⟨pv, cv, rfl, _⟩ := g; clear h HX C4 kk; have HX := Lib.hid M7.out.k; have zz := CB.out _ HX.out)
      | (go_at_call 14; refine (C4.out _ (M6.out.keeps (nbox _ _))).mono ?_; rintro e wv ⟨v, rfl, g, h, kk⟩; have M7 := Lib.hid h; have V7 := Lib.hid g; have VB := Lib.hid ((mgs_three (x := mA) (y := mB) (z := mA) (heap_alloc_new _ _)).keeps kk); obtain ⟨pv, cv, rfl, _⟩ := g; clear h HX C4 kk; have HX := Lib.hid M7.out.k; have zz := CB.out _ HX.out)
      | (go_at_call 13; refine (C5.out _ _ _ V7.out VB.out M7.out).mono ?_; rintro e wv ⟨rfl, h⟩; have M8 := Lib.hid h; clear h HX C5; have HX := Lib.hid M8.out.k; have zz := CB.out _ HX.out)
      | (go_at_call 13; refine (C5.out _ _ _ (V7.out.keeps (nbox _ _)) (mgs_three (x := mA) (y := mB) (z := mA) (heap_alloc_new _ _)) (M7.out.keeps (nbox _ _))).mono ?_; rintro e wv ⟨rfl, h⟩; have M8 := Lib.hid h; clear h HX C5; have HX := Lib.hid M8.out.k; have zz := CB.out _ HX.out)
      | (go_at_call 19; refine (C6.out _ M8.out).mono ?_; rintro e wv ⟨rfl, h⟩; have M9 := Lib.hid h; clear h HX C6; have HX := Lib.hid M9.out.k; have zz := CB.out _ HX.out))
    all_goals (go_wp2_with fail; go_meet)
    all_goals exact ⟨rfl, M9.out⟩
  case rest =>
    rename World => wc
    obtain ⟨rfl, hm⟩ := hcut
    have M9 := Lib.hid hm
    clear hm C1 C2 C3 C4 C5 C6
    have CD := Lib.hid (M9.out.deliver (by simp) 0 i0)
    rw [t5.1, t5.2.1, t5.2.2] at CD
    unfold delV mgV mB at CD
    simp only at CD
    go_wp2_with fail
    refine CD.out.mono ?_
    rintro e wd ⟨rfl, h, _⟩
    obtain ⟨we, hwe⟩ : ∃ we, wd.alloc (mgBox mB) = we := ⟨_, rfl⟩
    obtain ⟨n4, hn4⟩ : ∃ n4, wd.heap.size = n4 := ⟨_, rfl⟩
    have ME : Hid (Mine P w2 (fun i => i = n4) we b [mA, mA]) := Lib.hid (hn4 ▸ hwe ▸ (h.aside (mgBox mB)).sub (fun i q => Or.inr q))
    have B4 : Hid (we.heap[n4]? = some (mgBox mB)) := Lib.hid (by rw [← hn4, ← hwe]; exact heap_alloc_new _ _)
    have EWE := Lib.hid hwe
    have EN4 := Lib.hid hn4
    clear h hwe hn4 CD
    unfold mgBox mB at EWE
    go_upto_region 6 with (fail)
    rw [EWE.out, EN4.out]
    clear EWE EN4
    have C4 : Hid (∀ (X : World), X.heap[n4]? = some (mgBox mB) → (X.cell? ⟨n4, 0, none⟩ = some (.int .i64 2) ∧ X.cell? ⟨n4, 1, none⟩ = some (.int .i64 0) ∧ X.cell? ⟨n4, 2, none⟩ = some (.int .i64 0) ∧ X.cell? ⟨n4, 3, none⟩ = some (.string ⟨#[]⟩) ∧ X.cell? ⟨n4, 4, none⟩ = some (.int .i64 0) ∧ X.cell? ⟨n4, 5, none⟩ = some (.int .i64 0) ∧ X.cell? ⟨n4, 6, none⟩ = some (.int .i64 0))) := Lib.hid fun X k => (mg_box_cells k).1
    have CF : Hid (∀ X, Keeps we X → Calls Try.prog 17 #[.pointer (some ⟨b, 0, none⟩), .int .i64 1] X fun e w' => e = .returned (.bool true) ∧ Mine P w2 (fun i => i = n4) w' b [mA] ∧ w'.heap[n4]? = some (mgBox mB)) := Lib.hid fun X k => by
      have c := (ME.out.keeps k).drop (by simp) 1 i1
      rw [t6.1, t6.2] at c
      exact c.mono fun e w' g => ⟨g.1, g.2.1, (g.2.2 _ rfl).trans (box_keep B4.out k)⟩
    have CG : Hid (∀ X, Mine P w2 (fun i => i = n4) X b [mA] → Calls Try.prog 14 #[.pointer (some ⟨b, 0, none⟩)] X fun e w' => ∃ v, e = .returned v ∧ MgsIn w' v [mA] ∧ Mine P w2 (fun i => i = n4) w' b [mA] ∧ Keeps X w') := Lib.hid fun X h => by
      have c := h.mail (by simp)
      exact c.mono fun e w' ⟨v, g1, g2, g3, g4⟩ => ⟨v, g1, own_mgs g2 (by simp), g3, g4⟩
    have CH : Hid (∀ X v v', MgsIn X v [mA] → MgsIn X v' [mA] → Mine P w2 (fun i => i = n4) X b [mA] → Calls Try.prog 13 #[v, v'] X fun e w' => e = .returned (.bool true) ∧ Mine P w2 (fun i => i = n4) w' b [mA] ∧ Keeps X w') := Lib.hid fun X v v' h h' m => (la_same v v' _ X h h').mono fun e w' ⟨g1, g2⟩ => ⟨g1, m.keeps g2, g2⟩
    go_cut [65] (fun v65 X => v65 = .bool false ∧ Mine P w2 (fun i => i = n4) X b [mA])
    case first =>
      have zz := CB.out _ ME.out.k
      have BX := Lib.hid B4.out
      have HX := Lib.hid ME.out.k
      have z4 := C4.out _ BX.out
      obtain ⟨⟨x0, x1, x2, x3, x4, x5, x6⟩, y0, y1, y2, y3, y4, y5, y6⟩ := zz
      obtain ⟨u0, u1, u2, u3, u4, u5, u6⟩ := z4
      go_region_held3 (fun X => ((X.cell? ⟨W.heap.size, 0, none⟩ = some (.int .i64 1) ∧ X.cell? ⟨W.heap.size, 1, none⟩ = some (.int .i64 0) ∧ X.cell? ⟨W.heap.size, 2, none⟩ = some (.int .i64 0) ∧ X.cell? ⟨W.heap.size, 3, none⟩ = some (.string ⟨#[]⟩) ∧ X.cell? ⟨W.heap.size, 4, none⟩ = some (.int .i64 0) ∧ X.cell? ⟨W.heap.size, 5, none⟩ = some (.int .i64 0) ∧ X.cell? ⟨W.heap.size, 6, none⟩ = some (.int .i64 0)) ∧ (X.cell? ⟨W.heap.size + 1, 0, none⟩ = some (.int .i64 2) ∧ X.cell? ⟨W.heap.size + 1, 1, none⟩ = some (.int .i64 0) ∧ X.cell? ⟨W.heap.size + 1, 2, none⟩ = some (.int .i64 0) ∧ X.cell? ⟨W.heap.size + 1, 3, none⟩ = some (.string ⟨#[]⟩) ∧ X.cell? ⟨W.heap.size + 1, 4, none⟩ = some (.int .i64 0) ∧ X.cell? ⟨W.heap.size + 1, 5, none⟩ = some (.int .i64 0) ∧ X.cell? ⟨W.heap.size + 1, 6, none⟩ = some (.int .i64 0))) ∧ (X.cell? ⟨n4, 0, none⟩ = some (.int .i64 2) ∧ X.cell? ⟨n4, 1, none⟩ = some (.int .i64 0) ∧ X.cell? ⟨n4, 2, none⟩ = some (.int .i64 0) ∧ X.cell? ⟨n4, 3, none⟩ = some (.string ⟨#[]⟩) ∧ X.cell? ⟨n4, 4, none⟩ = some (.int .i64 0) ∧ X.cell? ⟨n4, 5, none⟩ = some (.int .i64 0) ∧ X.cell? ⟨n4, 6, none⟩ = some (.int .i64 0)))
        (first | exact ⟨CB.out _ HX.out, C4.out _ BX.out⟩ | exact ⟨CB.out _ (HX.out.trans (ndrew _)), C4.out _ (box_keep BX.out (ndrew _))⟩ | exact ⟨CB.out _ (HX.out.trans (nbox _ _)), C4.out _ (box_keep BX.out (nbox _ _))⟩ | assumption)
        (first
        | (go_at_call 17; refine (CF.out _ (ndrew _)).mono ?_; rintro e wv ⟨rfl, h, hb⟩; have M1 := Lib.hid h; clear h HX CF BX; have HX := Lib.hid M1.out.k; have BX := Lib.hid hb; clear hb; have zz := CB.out _ HX.out; have z4 := C4.out _ BX.out)
        | (go_at_call 14; refine (CG.out _ M1.out).mono ?_; rintro e wv ⟨v, rfl, g, h, kk⟩; have M2 := Lib.hid h; have V2 := Lib.hid g; obtain ⟨pv, cv, rfl, _⟩ := g; have BY := Lib.hid (box_keep BX.out kk); clear h HX BX CG kk; have HX := Lib.hid M2.out.k; have BX := Lib.hid BY.out; clear BY; have zz := CB.out _ HX.out; have z4 := C4.out _ BX.out)
        | (go_at_call 14; refine (CG.out _ (M1.out.keeps (nbox _ _))).mono ?_; rintro e wv ⟨v, rfl, g, h, kk⟩; have M2 := Lib.hid h; have V2 := Lib.hid g; have VB := Lib.hid ((mgs_one (x := mA) (heap_alloc_new _ _)).keeps kk); obtain ⟨pv, cv, rfl, _⟩ := g; have BY := Lib.hid (box_keep (box_keep BX.out (nbox _ _)) kk); clear h HX BX CG kk; have HX := Lib.hid M2.out.k; have BX := Lib.hid BY.out; clear BY; have zz := CB.out _ HX.out; have z4 := C4.out _ BX.out)
        | (go_at_call 13; refine (CH.out _ _ _ V2.out VB.out M2.out).mono ?_; rintro e wv ⟨rfl, h, kk⟩; have M3' := Lib.hid h; have BY := Lib.hid (box_keep BX.out kk); clear h HX BX CH kk; have HX := Lib.hid M3'.out.k; have BX := Lib.hid BY.out; clear BY; have zz := CB.out _ HX.out; have z4 := C4.out _ BX.out)
        | (go_at_call 13; refine (CH.out _ _ _ (V2.out.keeps (nbox _ _)) (mgs_one (x := mA) (heap_alloc_new _ _)) (M2.out.keeps (nbox _ _))).mono ?_; rintro e wv ⟨rfl, h, kk⟩; have M3' := Lib.hid h; have BY := Lib.hid (box_keep (box_keep BX.out (nbox _ _)) kk); clear h HX BX CH kk; have HX := Lib.hid M3'.out.k; have BX := Lib.hid BY.out; clear BY; have zz := CB.out _ HX.out; have z4 := C4.out _ BX.out))
      all_goals (go_wp2_with fail; go_meet)
      all_goals exact ⟨rfl, M3'.out⟩
    case rest =>
      rename World => wf
      obtain ⟨rfl, hm⟩ := hcut
      have MF := Lib.hid hm
      clear hm CF CG CH
      have CD := Lib.hid (MF.out.deliver (by simp) 1 i1)
      rw [t7.1, t7.2.1, t7.2.2] at CD
      unfold delV at CD
      simp only at CD
      go_wp2_with fail
      refine CD.out.mono ?_
      rintro e wg ⟨rfl, h, _⟩
      have MG := Lib.hid h
      have CT : Hid (∀ X, Keeps wg X → Calls Try.prog 19 #[.pointer (some ⟨b, 0, none⟩), .int .i64 0, .int .i64 1] X fun e w' => e = .returned (.bool false) ∧ Keeps w2 w') := Lib.hid fun X k => by
        have c := (MG.out.keeps k).turn (by simp) 0 1 i0 i1
        rw [t8.1, t8.2] at c
        exact c.mono fun e w' g => ⟨g.1, g.2.1.k⟩
      clear h CD
      go_wp2_with fail
      refine (CT.out _ (nbox _ _)).mono ?_
      rintro e wh ⟨rfl, kh⟩
      have KH := Lib.hid (K2.out.trans kh)
      clear kh
      go_wp2
      go_ret
      exact ⟨rfl, KH.out⟩
end Nt
end Go.Proofs.Ytajphjlfefhajaa
