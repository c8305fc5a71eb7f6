
/- Messages in memory: rows of them; what nothing but some blocks of is written. -/
import Derived.Test.YtajphjlfefhajaaStructRow
import Derived.Test.YtajphjlfefhajaaNtMath
import Derived.Test.YtajphjlfefhajaaHeldSteps
import Derived.Lib.SmallJoins
import Derived.WalkKit
import Derived.LoopN
import Derived.BigQuiet
set_option linter.unusedVariables false
namespace Go.Proofs.Ytajphjlfefhajaa
open Go.ChangeShapes Go.WideShapes Go.ChangeAt Go.RowKit Csv
namespace Nt
abbrev tMg : TypeId := 35
abbrev tMgs : TypeId := 28
def mgVals (m : Mg) : List Value := [.int .i64 m.t, .int .i64 m.o, .int .i64 m.k, .string m.s, .int .i64 m.q, .int .i64 m.a, .int .i64 m.c]
def mgV (m : Mg) : Value := .agg #[.int .i64 m.t, .int .i64 m.o, .int .i64 m.k, .string m.s, .int .i64 m.q, .int .i64 m.a, .int .i64 m.c]
def mgBox (m : Mg) : Obj := .cells #[.int .i64 m.t, .int .i64 m.o, .int .i64 m.k, .string m.s, .int .i64 m.q, .int .i64 m.a, .int .i64 m.c] tMg
def mgK : RowK Mg where
  t := tMg
  ts := tMgs
  sz := 7
  bytes := 64
  zero := .agg #[.int .i64 0, .int .i64 0, .int .i64 0, .string ByteArray.empty, .int .i64 0, .int .i64 0, .int .i64 0]
  cells := mgVals
  under := Try.underlying28
  info := by kernel_rfl
  zsize := rfl
  pos := by omega
  small := by omega
  len := fun x => rfl
  one := fun x u hu => by
    simp only [mgVals, List.mem_cons, List.not_mem_nil, or_false] at hu
    rcases hu with rfl | rfl | rfl | rfl | rfl | rfl | rfl <;> rfl
theorem nbox (w : World) (o : Obj) : Keeps w (w.alloc o) := (Below.refl _ w).alloc (Nat.le_refl _) _
theorem ndrew (w : World) : Keeps w w.drew := ⟨rfl, rfl, rfl, Nat.le_refl _, fun _ _ => rfl⟩
theorem box_lt {W : World} {r : Nat} {o : Obj} (h : W.heap[r]? = some o) : r < W.heap.size := (Array.getElem?_eq_some_iff.1 h).1
theorem box_keep {W X : World} {r : Nat} {o : Obj} (h : W.heap[r]? = some o) (k : Keeps W X) : X.heap[r]? = some o := (k.block r (box_lt h)).trans h
/-- Nothing but blocks of F is written. -/
structure Only (F : Nat → Prop) (W W' : World) : Prop where
  os : W'.os = W.os
  tape : W'.tape = W.tape
  output : W'.output = W.output
  size : W.heap.size ≤ W'.heap.size
  same : ∀ i, i < W.heap.size → ¬ F i → W'.heap[i]? = W.heap[i]?
section
variable {F G : Nat → Prop} {X Y Z : World}
theorem Only.of_keeps (k : Keeps X Y) : Only F X Y := ⟨k.os, k.tape, k.output, k.size, fun i hi _ => k.block i hi⟩
theorem Only.refl (X : World) : Only F X X := Only.of_keeps (Keeps.refl _)
theorem Only.trans (h : Only F X Y) (g : Only F Y Z) : Only F X Z :=
  ⟨g.os.trans h.os, g.tape.trans h.tape, g.output.trans h.output, Nat.le_trans h.size g.size, fun i hi hn => (g.same i (Nat.lt_of_lt_of_le hi h.size) hn).trans (h.same i hi hn)⟩
theorem Only.mono (h : Only F X Y) (hs : ∀ i, F i → G i) : Only G X Y := ⟨h.os, h.tape, h.output, h.size, fun i hi hn => h.same i hi fun hf => hn (hs i hf)⟩
theorem Only.grown {b : Nat} (g : X.grownBy Y (some b)) (hb : F b) : Only F X Y := ⟨g.os, g.tape, g.output, g.size, fun i hi hn => g.block i hi (fun e => hn (by cases e; exact hb))⟩
theorem Only.keeps {w : World} (h : Only F X Y) (k : Keeps w X) (hF : ∀ i, F i → w.heap.size ≤ i) : Keeps w Y :=
  ⟨h.os.trans k.os, h.tape.trans k.tape, h.output.trans k.output, Nat.le_trans k.size h.size, fun i hi => (h.same i (Nat.lt_of_lt_of_le hi k.size) (fun hf => by have := hF i hf; omega)).trans (k.block i hi)⟩
theorem Only.cell {X : World} {j o : Nat} (v : Value) : Only (fun i => i = j) X (X.setCell ⟨j, o, none⟩ v) :=
  ⟨rfl, rfl, rfl, by simp [World.setCell], fun i _ hn => Below.heap_setCell _ ⟨j, o, none⟩ _ _ (fun e => hn e)⟩
/-- New blocks, written besides. -/
theorem Only.new {W : World} {j : Nat} (h : Only F W X) (g : Only (fun i => i = j) X Y) (hj : W.heap.size ≤ j) : Only F W Y :=
  ⟨g.os.trans h.os, g.tape.trans h.tape, g.output.trans h.output, Nat.le_trans h.size g.size, fun i hi hn => (g.same i (Nat.lt_of_lt_of_le hi h.size) (by omega)).trans (h.same i hi hn)⟩
end
theorem mono_grown {w W W' : World} {v : Value} (k : Keeps w W) (g : W.grownBy W' v.ownBlock) (h : ∀ j, v.ownBlock = some j → w.heap.size ≤ j) : Keeps w W' :=
  ⟨g.os.trans k.os, g.tape.trans k.tape, g.output.trans k.output, Nat.le_trans k.size g.size, fun j hj => (g.block j (Nat.lt_of_lt_of_le hj k.size) (fun e => by have := h j e.symm; omega)).trans (k.block j hj)⟩
theorem mg_src1 (w : World) (x : Mg) : mgK.Src (w.alloc (.cells #[.int .i64 x.t, .int .i64 x.o, .int .i64 x.k, .string x.s, .int .i64 x.q, .int .i64 x.a, .int .i64 x.c] tMg)) (.slice (some ⟨w.heap.size, 0, none⟩) 1 1) [x] := by
  refine ⟨_, 1, rfl, (fun e => by cases e), fun a ha j u hu => ?_⟩
  cases ha
  have e : mgK.row [x] = mgVals x := by unfold RowK.row; simp [mgK]
  rw [e] at hu
  have h := Joins.cell_of_block (heap_alloc_new w (.cells #[.int .i64 x.t, .int .i64 x.o, .int .i64 x.k, .string x.s, .int .i64 x.q, .int .i64 x.a, .int .i64 x.c] tMg)) j
  rw [addr_of]
  rw [h]
  unfold mgVals at hu
  simpa using hu
/-- A message in seven cells. -/
def MgAt (w : World) (a : Addr) (m : Mg) : Prop :=
  w.cell? a = some (.int .i64 m.t) ∧ w.cell? ⟨a.block, a.off + 1, none⟩ = some (.int .i64 m.o) ∧ w.cell? ⟨a.block, a.off + 2, none⟩ = some (.int .i64 m.k) ∧ w.cell? ⟨a.block, a.off + 3, none⟩ = some (.string m.s) ∧ w.cell? ⟨a.block, a.off + 4, none⟩ = some (.int .i64 m.q) ∧ w.cell? ⟨a.block, a.off + 5, none⟩ = some (.int .i64 m.a) ∧ w.cell? ⟨a.block, a.off + 6, none⟩ = some (.int .i64 m.c)
theorem MgAt.keeps {w w' : World} {a : Addr} {x : Mg} (h : MgAt w a x) (k : Keeps w w') : MgAt w' a x := ⟨cell_keeps k h.1, cell_keeps k h.2.1, cell_keeps k h.2.2.1, cell_keeps k h.2.2.2.1, cell_keeps k h.2.2.2.2.1, cell_keeps k h.2.2.2.2.2.1, cell_keeps k h.2.2.2.2.2.2⟩
/-- Messages, as they are read. -/
def MgsIn (w : World) (v : Value) (L : List Mg) : Prop :=
  ∃ p c, v = .slice p L.length c ∧ L.length ≤ maxLen ∧ (L.length ≤ c ∧ (p = none → c = 0)) ∧ ∀ j x, L[j]? = some x → ∃ a : Addr, p = some a ∧ MgAt w (a.add (j * 7)) x
theorem MgsIn.keeps {w w' : World} {v : Value} {L : List Mg} (h : MgsIn w v L) (k : Keeps w w') : MgsIn w' v L := by
  obtain ⟨p, c, h1, h2, hc, h3⟩ := h
  refine ⟨p, c, h1, h2, hc, fun j x hx => ?_⟩
  obtain ⟨a, ha, hr⟩ := h3 j x hx
  exact ⟨a, ha, hr.keeps k⟩
theorem mgs_nil (w : World) : MgsIn w (.slice none 0 0) [] := ⟨none, 0, rfl, by simp [maxLen], ⟨by simp, fun _ => rfl⟩, fun j x hx => by simp at hx⟩
theorem own_mgs {B : Nat} {w : World} {v : Value} {L : List Mg} (h : mgK.Own B w v L) (hm : L.length ≤ 100000) : MgsIn w v L := by
  rcases h.2 with ⟨rfl, h0⟩ | ⟨g, cap, cur, rfl, hb, hgb, r1, r2, r3, r4⟩
  · have : L = [] := List.length_eq_zero_iff.1 h0
    subst this
    exact mgs_nil w
  · refine ⟨_, cap, rfl, by unfold maxLen; omega, ⟨r1, fun e => by cases e⟩, fun j x hx => ⟨_, rfl, ?_⟩⟩
    have at_ : ∀ i u, (mgVals x)[i]? = some u → w.cell? ⟨g, j * 7 + i, none⟩ = some u := fun i u hu => RowK.own_at mgK h hx hu
    rw [addr_of]
    exact ⟨at_ 0 _ rfl, at_ 1 _ rfl, at_ 2 _ rfl, at_ 3 _ rfl, at_ 4 _ rfl, at_ 5 _ rfl, at_ 6 _ rfl⟩
/-- A message of a row of one's own, its cells, as a store wants them. -/
theorem own_at7 {B : Nat} {W : World} {g N c i : Nat} {L : List Mg} {x : Mg} (h : mgK.Own B W (.slice (some ⟨g, 0, none⟩) N c) L) (hx : L[i]? = some x) :
    (W.cell? ⟨g, i * 7, none⟩ = some (.int .i64 x.t) ∧ W.cell? ⟨g, i * 7 + 1, none⟩ = some (.int .i64 x.o) ∧ W.cell? ⟨g, i * 7 + 2, none⟩ = some (.int .i64 x.k) ∧ W.cell? ⟨g, i * 7 + 3, none⟩ = some (.string x.s) ∧ W.cell? ⟨g, i * 7 + 4, none⟩ = some (.int .i64 x.q) ∧ W.cell? ⟨g, i * 7 + 5, none⟩ = some (.int .i64 x.a) ∧ W.cell? ⟨g, i * 7 + 6, none⟩ = some (.int .i64 x.c)) ∧
    (W.frozen? ⟨g, i * 7, none⟩ = false ∧ W.frozen? ⟨g, i * 7 + 1, none⟩ = false ∧ W.frozen? ⟨g, i * 7 + 2, none⟩ = false ∧ W.frozen? ⟨g, i * 7 + 3, none⟩ = false ∧ W.frozen? ⟨g, i * 7 + 4, none⟩ = false ∧ W.frozen? ⟨g, i * 7 + 5, none⟩ = false ∧ W.frozen? ⟨g, i * 7 + 6, none⟩ = false) := by
  have c : ∀ t u, (mgVals x)[t]? = some u → W.cell? ⟨g, i * 7 + t, none⟩ = some u := fun t u hu => mgK.own_at h hx hu
  obtain ⟨cs, hb⟩ := mgK.own_tag h (g := g) rfl
  exact ⟨⟨c 0 _ rfl, c 1 _ rfl, c 2 _ rfl, c 3 _ rfl, c 4 _ rfl, c 5 _ rfl, c 6 _ rfl⟩, Joins.unfrozen_of_block hb _, Joins.unfrozen_of_block hb _, Joins.unfrozen_of_block hb _, Joins.unfrozen_of_block hb _, Joins.unfrozen_of_block hb _, Joins.unfrozen_of_block hb _, Joins.unfrozen_of_block hb _⟩
/-- The seven stores of a message. -/
def sevenM (W : World) (g m : Nat) (x : Mg) : World := ((((((W.setCell ⟨g, m, none⟩ (.int .i64 x.t)).setCell ⟨g, m + 1, none⟩ (.int .i64 x.o)).setCell ⟨g, m + 2, none⟩ (.int .i64 x.k)).setCell ⟨g, m + 3, none⟩ (.string x.s)).setCell ⟨g, m + 4, none⟩ (.int .i64 x.q)).setCell ⟨g, m + 5, none⟩ (.int .i64 x.a)).setCell ⟨g, m + 6, none⟩ (.int .i64 x.c)
theorem sevenM_only {W : World} {g m : Nat} (x : Mg) : Only (fun i => i = g) W (sevenM W g m x) :=
  ((((((Only.cell _).trans (Only.cell _)).trans (Only.cell _)).trans (Only.cell _)).trans (Only.cell _)).trans (Only.cell _)).trans (Only.cell _)
theorem sevenM_block {W : World} {g m : Nat} {cs : Array Value} {t : TypeId} (h : W.heap[g]? = some (.cells cs t (0, 0))) (x : Mg) :
    (sevenM W g m x).heap[g]? = some (.cells (((((((cs.setIfInBounds m (.int .i64 x.t)).setIfInBounds (m + 1) (.int .i64 x.o)).setIfInBounds (m + 2) (.int .i64 x.k)).setIfInBounds (m + 3) (.string x.s)).setIfInBounds (m + 4) (.int .i64 x.q)).setIfInBounds (m + 5) (.int .i64 x.a)).setIfInBounds (m + 6) (.int .i64 x.c)) t (0, 0)) :=
  Joins.block_setCell (Joins.block_setCell (Joins.block_setCell (Joins.block_setCell (Joins.block_setCell (Joins.block_setCell (Joins.block_setCell h _) _) _) _) _) _) _
theorem own_set7 {B : Nat} {W : World} {g N c i : Nat} {L : List Mg} {x : Mg} (h : mgK.Own B W (.slice (some ⟨g, 0, none⟩) N c) L) (hi : i < L.length) :
    mgK.Own B (sevenM W g (i * 7) x) (.slice (some ⟨g, 0, none⟩) N c) (L.set i x) := by
  obtain ⟨h1, h2⟩ := h
  refine ⟨mgK.row_len _, ?_⟩
  rcases h2 with ⟨e, _⟩ | ⟨g', cap, cur, e, hb, hg, r1, r2, r3, r4⟩
  · cases e
  · simp only [Value.slice.injEq, Option.some.injEq, Addr.mk.injEq] at e
    obtain ⟨⟨rfl, _, _⟩, rfl, rfl⟩ := e
    right
    refine ⟨g, c, _, by rw [List.length_set], hb, sevenM_block hg x, by rw [List.length_set]; exact r1, r2, by simpa using r3, ?_⟩
    have e7 : mgK.sz = 7 := rfl
    rw [e7] at r3 r4 h1
    rw [List.length_set, e7]
    apply List.ext_getElem?
    intro m
    by_cases hm : m < L.length * 7
    · obtain ⟨k, t, rfl, ht⟩ : ∃ k t, m = k * 7 + t ∧ t < 7 := ⟨m / 7, m % 7, by omega, by omega⟩
      have hk : k < L.length := by omega
      have hk2 : k < (L.set i x).length := by rw [List.length_set]; exact hk
      have hx : (L.set i x)[k]? = some (L.set i x)[k] := List.getElem?_eq_getElem hk2
      have hv : (mgVals (L.set i x)[k])[t]? = some ((mgVals (L.set i x)[k])[t]'ht) := List.getElem?_eq_getElem ht
      have R1 := mgK.row_at hx (j := t) (u := (mgVals (L.set i x)[k])[t]'ht) hv
      rw [e7] at R1
      rw [R1, List.getElem?_take_of_lt hm]
      have hcap : L.length * 7 ≤ c * 7 := Nat.mul_le_mul_right 7 r1
      by_cases hki : k = i
      · subst hki
        simp only [Array.toList_setIfInBounds, List.getElem_set_self]
        rcases (show t = 0 ∨ t = 1 ∨ t = 2 ∨ t = 3 ∨ t = 4 ∨ t = 5 ∨ t = 6 from by omega) with rfl | rfl | rfl | rfl | rfl | rfl | rfl
        all_goals
          simp only [List.getElem?_set, List.length_set, Array.length_toList, r3, mgVals]
          simp (config := {arith := true})
          try omega
      · have hne : ∀ u, u < 7 → ¬ (i * 7 + u = k * 7 + t) := fun u hu e => hki (by omega)
        have h0 : ¬ (i * 7 = k * 7 + t) := hne 0 (by omega)
        have hxk : (L.set i x)[k] = L[k] := by rw [List.getElem_set_ne (fun e => hki e.symm)]
        have R0 := mgK.row_at (List.getElem?_eq_getElem hk) (j := t) (u := (mgVals L[k])[t]'ht) (List.getElem?_eq_getElem ht)
        rw [e7, ← r4, List.getElem?_take_of_lt hm] at R0
        simp only [Array.toList_setIfInBounds, List.getElem?_set, h0, hne 1 (by omega), hne 2 (by omega), hne 3 (by omega), hne 4 (by omega), hne 5 (by omega), hne 6 (by omega), if_false]
        rw [R0]
        simp only [hxk]
        rfl
    · rw [List.getElem?_eq_none (by rw [List.length_take]; omega), List.getElem?_eq_none (by rw [mgK.row_len, List.length_set, e7]; omega)]
/-- The box of a message, the answer's box: what they hold. -/
theorem mg_box_cells {X : World} {n : Nat} {m : Mg} (hX : X.heap[n]? = some (mgBox m)) : (X.cell? ⟨n, 0, none⟩ = some (.int .i64 m.t) ∧ X.cell? ⟨n, 1, none⟩ = some (.int .i64 m.o) ∧ X.cell? ⟨n, 2, none⟩ = some (.int .i64 m.k) ∧ X.cell? ⟨n, 3, none⟩ = some (.string m.s) ∧ X.cell? ⟨n, 4, none⟩ = some (.int .i64 m.q) ∧ X.cell? ⟨n, 5, none⟩ = some (.int .i64 m.a) ∧ X.cell? ⟨n, 6, none⟩ = some (.int .i64 m.c)) ∧
    (X.frozen? ⟨n, 0, none⟩ = false ∧ X.frozen? ⟨n, 1, none⟩ = false ∧ X.frozen? ⟨n, 2, none⟩ = false ∧ X.frozen? ⟨n, 3, none⟩ = false ∧ X.frozen? ⟨n, 4, none⟩ = false ∧ X.frozen? ⟨n, 5, none⟩ = false ∧ X.frozen? ⟨n, 6, none⟩ = false) := by
  refine ⟨by simp [World.cell?, hX, mgBox], by simp [World.frozen?, hX, mgBox]⟩
theorem mg_box_set {W : World} {n : Nat} {x : Mg} (h : W.heap[n]? = some (mgBox x)) (y : Mg) : (sevenM W n 0 y).heap[n]? = some (mgBox y) := by
  rw [sevenM_block h y]; rfl
/-- A box of seven cells, written. -/
theorem seven_only (X : World) (j : Nat) (v0 v1 v2 v3 v4 v5 v6 : Value) : Only (fun i => i = j) X (((((((X.setCell ⟨j, 0, none⟩ v0).setCell ⟨j, 1, none⟩ v1).setCell ⟨j, 2, none⟩ v2).setCell ⟨j, 3, none⟩ v3).setCell ⟨j, 4, none⟩ v4).setCell ⟨j, 5, none⟩ v5).setCell ⟨j, 6, none⟩ v6) :=
  ((((((Only.cell _).trans (Only.cell _)).trans (Only.cell _)).trans (Only.cell _)).trans (Only.cell _)).trans (Only.cell _)).trans (Only.cell _)
theorem seven_put {W : World} {n : Nat} {x : Mg} (h : W.heap[n]? = some (mgBox x)) (y : Mg) : (((((((W.setCell ⟨n, 0, none⟩ (.int .i64 y.t)).setCell ⟨n, 1, none⟩ (.int .i64 y.o)).setCell ⟨n, 2, none⟩ (.int .i64 y.k)).setCell ⟨n, 3, none⟩ (.string y.s)).setCell ⟨n, 4, none⟩ (.int .i64 y.q)).setCell ⟨n, 5, none⟩ (.int .i64 y.a)).setCell ⟨n, 6, none⟩ (.int .i64 y.c)).heap[n]? = some (mgBox y) := by
  have h1 := Joins.block_setCell (i := 0) h (.int .i64 y.t)
  have h2 := Joins.block_setCell (i := 1) h1 (.int .i64 y.o)
  have h3 := Joins.block_setCell (i := 2) h2 (.int .i64 y.k)
  have h4 := Joins.block_setCell (i := 3) h3 (.string y.s)
  have h5 := Joins.block_setCell (i := 4) h4 (.int .i64 y.q)
  have h6 := Joins.block_setCell (i := 5) h5 (.int .i64 y.a)
  have h7 := Joins.block_setCell (i := 6) h6 (.int .i64 y.c)
  rw [h7]; rfl
/-- The box of nothing: what it holds. -/
def zeBox : Obj := .cells #[.int .i64 0, .int .i64 0, .int .i64 0, .string ⟨#[]⟩, .int .i64 0, .int .i64 0, .int .i64 0] tMg
theorem ze_box_cells {X : World} {n : Nat} (hX : X.heap[n]? = some zeBox) : (X.cell? ⟨n, 0, none⟩ = some (.int .i64 0) ∧ X.cell? ⟨n, 1, none⟩ = some (.int .i64 0) ∧ X.cell? ⟨n, 2, none⟩ = some (.int .i64 0) ∧ X.cell? ⟨n, 3, none⟩ = some (.string ⟨#[]⟩) ∧ X.cell? ⟨n, 4, none⟩ = some (.int .i64 0) ∧ X.cell? ⟨n, 5, none⟩ = some (.int .i64 0) ∧ X.cell? ⟨n, 6, none⟩ = some (.int .i64 0)) ∧
    (X.frozen? ⟨n, 0, none⟩ = false ∧ X.frozen? ⟨n, 1, none⟩ = false ∧ X.frozen? ⟨n, 2, none⟩ = false ∧ X.frozen? ⟨n, 3, none⟩ = false ∧ X.frozen? ⟨n, 4, none⟩ = false ∧ X.frozen? ⟨n, 5, none⟩ = false ∧ X.frozen? ⟨n, 6, none⟩ = false) := by
  refine ⟨by simp [World.cell?, hX, zeBox], by simp [World.frozen?, hX, zeBox]⟩
end Nt
end Go.Proofs.Ytajphjlfefhajaa
