
/- Steps of a disk as closures, done one after another, up to the first error. inOrder: steps one after another, up to the first error. -/
import Derived.Test.YtlaepdpgegoopaaGreatJnDef
import Derived.LoopN
set_option linter.unusedVariables false
namespace Go.Proofs.YtlaepdpgegoopaaGreat
open Go.ChangeShapes Go.WideShapes Go.ChangeAt Go.RowKit Go.Maps Csv Dk Jn

abbrev tStp : TypeId := 91
inductive StepM where
  | create (n : Int)
  | add (n : Int) (s : ByteArray)
  | sync (n : Int)
  | trunc (n size : Int)
  | del (n : Int)
def StepM.run : StepM → DiskM → Int × DiskM
  | .create n, D => createD D n
  | .add n s, D => appendD D n s.data.toList
  | .sync n, D => syncD D n
  | .trunc n k, D => truncD D n k
  | .del n, D => deleteD D n
/-- All steps, up to the first error. -/
def runS : Int × DiskM → List StepM → Int × DiskM
  | x, [] => x
  | x, y :: ys => runS (next x y.run) ys
theorem runS_no {x : Int × DiskM} (h : x.1 ≠ 0) : ∀ l, runS x l = x
  | [] => rfl
  | y :: ys => by rw [runS, next_no h]; exact runS_no h ys
theorem runS_app (x : Int × DiskM) : ∀ l m, runS x (l ++ m) = runS (runS x l) m := by
  intro l
  induction l generalizing x with
  | nil => intro m; rfl
  | cons y ys ih => intro m; exact ih _ m

/-! ### A step's closure -/
def BoxI (w : World) (a : Nat) (n : Int) : Prop := w.heap[a]? = some (.cells #[.int .i64 n] tI (0, 0))
def BoxS (w : World) (a : Nat) (s : ByteArray) : Prop := w.heap[a]? = some (.cells #[.string s] tS (0, 0))
theorem BoxI.cell {w : World} {a : Nat} {n : Int} (h : BoxI w a n) : w.cell? ⟨a, 0, none⟩ = some (.int .i64 n) := Joins.cell_of_block h 0
theorem BoxS.cell {w : World} {a : Nat} {s : ByteArray} (h : BoxS w a s) : w.cell? ⟨a, 0, none⟩ = some (.string s) := Joins.cell_of_block h 0
def StepAt (G : List Nat) (w : World) (v : Value) : StepM → Prop
  | .create n => ∃ a, v = .func (.func 74) #[] #[ptrV a] ∧ a ∉ G ∧ BoxI w a n ∧ I64 n
  | .add n s => ∃ a b, v = .func (.func 69) #[] #[ptrV a, ptrV b] ∧ a ∉ G ∧ b ∉ G ∧ BoxI w a n ∧ BoxS w b s ∧ I64 n ∧ s.size ≤ maxLen
  | .sync n => ∃ a, v = .func (.func 70) #[] #[ptrV a] ∧ a ∉ G ∧ BoxI w a n ∧ I64 n
  | .trunc n k => ∃ a b, v = .func (.func 80) #[] #[ptrV a, ptrV b] ∧ a ∉ G ∧ b ∉ G ∧ BoxI w a n ∧ BoxI w b k ∧ I64 n ∧ I64 k
  | .del n => ∃ a, v = .func (.func 75) #[] #[ptrV a] ∧ a ∉ G ∧ BoxI w a n ∧ I64 n
theorem StepAt.goes {G G' : List Nat} {w w' : World} {v : Value} {x : StepM} (h : StepAt G w v x) (f : Frame G w w') (hb : ∀ b ∈ G', b ∈ G ∨ w.heap.size ≤ b) : StepAt G' w' v x := by
  have off : ∀ a, a ∉ G → a < w.heap.size → a ∉ G' := fun a h1 h2 h3 => by
    rcases hb a h3 with h | h
    · exact h1 h
    · omega
  cases x with
  | create n => obtain ⟨a, e, h1, h2, h3⟩ := h; exact ⟨a, e, off a h1 (block_lt h2), (f.block a (block_lt h2) h1).trans h2, h3⟩
  | add n s => obtain ⟨a, b, e, h1, h2, h3, h4, h5⟩ := h; exact ⟨a, b, e, off a h1 (block_lt h3), off b h2 (block_lt h4), (f.block a (block_lt h3) h1).trans h3, (f.block b (block_lt h4) h2).trans h4, h5⟩
  | sync n => obtain ⟨a, e, h1, h2, h3⟩ := h; exact ⟨a, e, off a h1 (block_lt h2), (f.block a (block_lt h2) h1).trans h2, h3⟩
  | trunc n s => obtain ⟨a, b, e, h1, h2, h3, h4, h5⟩ := h; exact ⟨a, b, e, off a h1 (block_lt h3), off b h2 (block_lt h4), (f.block a (block_lt h3) h1).trans h3, (f.block b (block_lt h4) h2).trans h4, h5⟩
  | del n => obtain ⟨a, e, h1, h2, h3⟩ := h; exact ⟨a, e, off a h1 (block_lt h2), (f.block a (block_lt h2) h1).trans h2, h3⟩
theorem StepAt.keeps {G : List Nat} {w w' : World} {v : Value} {x : StepM} (h : StepAt G w v x) (k : Keeps w w') (hG : ∀ b ∈ G, b < w.heap.size) : StepAt G w' v x := h.goes (Frame.of_keeps k G) fun b hb => Or.inl hb

theorem stCreate (d a : Nat) (D : DiskM) (G : List Nat) (n : Int) (w : World) (h : IsDisk w d D G) (ha : BoxI w a n) (hn : I64 n) :
    Calls Tryz.prog 74 #[ptrV d, ptrV a] w fun e w' => e = .returned (.int .i64 (createD D n).1) ∧ Goes w w' G d (createD D n).2 := by
  have c := createD_any d D G n w h hn
  have h0 := ha.cell
  clear h ha hn
  unfold ptrV at *
  go_enter Tryz.func74, Tryz.ntmps74
  go_wp2_with (go_at_call 7; refine c.mono ?_; rintro e w' ⟨rfl, hg⟩)
  go_ret
  exact ⟨rfl, hg⟩
theorem stAdd (d a b : Nat) (D : DiskM) (G : List Nat) (n : Int) (s : ByteArray) (w : World) (h : IsDisk w d D G) (ha : BoxI w a n) (hb : BoxS w b s) (hn : I64 n) (hs : s.size ≤ maxLen) :
    Calls Tryz.prog 69 #[ptrV d, ptrV a, ptrV b] w fun e w' => e = .returned (.int .i64 (appendD D n s.data.toList).1) ∧ Goes w w' G d (appendD D n s.data.toList).2 := by
  have c := append_any d D G n s w h hn hs
  have h0 := ha.cell
  have h1 := hb.cell
  clear h ha hb hn hs
  unfold ptrV at *
  go_enter Tryz.func69, Tryz.ntmps69
  go_wp2_with (go_at_call 9; refine c.mono ?_; rintro e w' ⟨rfl, hg⟩)
  go_ret
  exact ⟨rfl, hg⟩
theorem stSync (d a : Nat) (D : DiskM) (G : List Nat) (n : Int) (w : World) (h : IsDisk w d D G) (ha : BoxI w a n) (hn : I64 n) :
    Calls Tryz.prog 70 #[ptrV d, ptrV a] w fun e w' => e = .returned (.int .i64 (syncD D n).1) ∧ Goes w w' G d (syncD D n).2 := by
  have c := sync_any d D G n w h hn
  have h0 := ha.cell
  clear h ha hn
  unfold ptrV at *
  go_enter Tryz.func70, Tryz.ntmps70
  go_wp2_with (go_at_call 71; refine c.mono ?_; rintro e w' ⟨rfl, hg⟩)
  go_ret
  exact ⟨rfl, hg⟩
theorem stTrunc (d a b : Nat) (D : DiskM) (G : List Nat) (n k : Int) (w : World) (h : IsDisk w d D G) (ha : BoxI w a n) (hb : BoxI w b k) (hn : I64 n) (hk : I64 k) :
    Calls Tryz.prog 80 #[ptrV d, ptrV a, ptrV b] w fun e w' => e = .returned (.int .i64 (truncD D n k).1) ∧ Goes w w' G d (truncD D n k).2 := by
  have c := trunc_any d D G n k w h hn hk
  have h0 := ha.cell
  have h1 := hb.cell
  clear h ha hb hn hk
  unfold ptrV at *
  go_enter Tryz.func80, Tryz.ntmps80
  go_wp2_with (go_at_call 81; refine c.mono ?_; rintro e w' ⟨rfl, hg⟩)
  go_ret
  exact ⟨rfl, hg⟩
theorem stDel (d a : Nat) (D : DiskM) (G : List Nat) (n : Int) (w : World) (h : IsDisk w d D G) (ha : BoxI w a n) (hn : I64 n) :
    Calls Tryz.prog 75 #[ptrV d, ptrV a] w fun e w' => e = .returned (.int .i64 (deleteD D n).1) ∧ Goes w w' G d (deleteD D n).2 := by
  have c := deleteD_any d D G n w h hn
  have h0 := ha.cell
  clear h ha hn
  unfold ptrV at *
  go_enter Tryz.func75, Tryz.ntmps75
  go_wp2_with (go_at_call 76; refine c.mono ?_; rintro e w' ⟨rfl, hg⟩)
  go_ret
  exact ⟨rfl, hg⟩

/-! ### What makes a step -/
theorem mkCreate (n : Int) (w : World) : Calls Tryz.prog 54 #[.int .i64 n] w fun e w' => e = .returned (.func (.func 74) #[] #[ptrV w.heap.size]) ∧ w' = w.alloc (.cells #[.int .i64 n] tI) := by
  unfold ptrV
  go_enter Tryz.func54, Tryz.ntmps54
  go_wp2
  go_ret
  exact ⟨rfl, rfl⟩
theorem mkAdd (n : Int) (s : ByteArray) (w : World) : Calls Tryz.prog 49 #[.int .i64 n, .string s] w fun e w' => e = .returned (.func (.func 69) #[] #[ptrV w.heap.size, ptrV (w.heap.size + 1)]) ∧ w' = (w.alloc (.cells #[.int .i64 n] tI)).alloc (.cells #[.string s] tS) := by
  unfold ptrV
  go_enter Tryz.func49, Tryz.ntmps49
  go_wp2
  go_ret
  exact ⟨rfl, rfl⟩
theorem mkSync (n : Int) (w : World) : Calls Tryz.prog 50 #[.int .i64 n] w fun e w' => e = .returned (.func (.func 70) #[] #[ptrV w.heap.size]) ∧ w' = w.alloc (.cells #[.int .i64 n] tI) := by
  unfold ptrV
  go_enter Tryz.func50, Tryz.ntmps50
  go_wp2
  go_ret
  exact ⟨rfl, rfl⟩
theorem mkTrunc (n k : Int) (w : World) : Calls Tryz.prog 62 #[.int .i64 n, .int .i64 k] w fun e w' => e = .returned (.func (.func 80) #[] #[ptrV w.heap.size, ptrV (w.heap.size + 1)]) ∧ w' = (w.alloc (.cells #[.int .i64 n] tI)).alloc (.cells #[.int .i64 k] tI) := by
  unfold ptrV
  go_enter Tryz.func62, Tryz.ntmps62
  go_wp2
  go_ret
  exact ⟨rfl, rfl⟩
theorem mkDel (n : Int) (w : World) : Calls Tryz.prog 55 #[.int .i64 n] w fun e w' => e = .returned (.func (.func 75) #[] #[ptrV w.heap.size]) ∧ w' = w.alloc (.cells #[.int .i64 n] tI) := by
  unfold ptrV
  go_enter Tryz.func55, Tryz.ntmps55
  go_wp2
  go_ret
  exact ⟨rfl, rfl⟩
end Go.Proofs.YtlaepdpgegoopaaGreat
namespace Go.Proofs.YtlaepdpgegoopaaGreat
open Go.ChangeShapes Go.WideShapes Go.ChangeAt Go.RowKit Go.Maps Csv Dk Jn

/-- A row of steps, as it is read. -/
def StepsAt (G : List Nat) (w : World) (v : Value) (l : List StepM) : Prop :=
  ∃ p c, v = .slice p l.length c ∧ l.length ≤ 1000000 ∧ ∀ j x, l[j]? = some x → ∃ (a : Addr) (u : Value), p = some a ∧ a.block ∉ G ∧ w.cell? (a.add j) = some u ∧ StepAt G w u x
theorem StepsAt.nil (G : List Nat) (w : World) : StepsAt G w (.slice none 0 0) [] := ⟨none, 0, rfl, by simp, fun j x hx => by simp at hx⟩
theorem add_block (a : Addr) (j : Nat) : (a.add j).block = a.block := by unfold Addr.add; split <;> rfl
theorem StepsAt.goes {G G' : List Nat} {w w' : World} {v : Value} {l : List StepM} (h : StepsAt G w v l) (f : Frame G w w') (hb : ∀ b ∈ G', b ∈ G ∨ w.heap.size ≤ b) : StepsAt G' w' v l := by
  obtain ⟨p, c, e, hm, hl⟩ := h
  refine ⟨p, c, e, hm, fun j x hx => ?_⟩
  obtain ⟨a, u, hp, ha, hc, hs⟩ := hl j x hx
  have hlt : a.block < w.heap.size := by have := World.block_lt_of_cell? w _ hc; rwa [add_block] at this
  refine ⟨a, u, hp, fun hg => ?_, ?_, hs.goes f hb⟩
  · rcases hb _ hg with h1 | h1
    · exact ha h1
    · omega
  · rw [World.cell?_of_block (w := w) (by rw [add_block]; exact f.block _ hlt ha)]; exact hc
theorem runS_take {x : Int × DiskM} {l : List StepM} {k : Nat} {y : StepM} (h : l[k]? = some y) : runS x (l.take (k + 1)) = next (runS x (l.take k)) y.run := by
  rw [List.take_add_one, h, runS_app]; rfl
theorem runS_rest {x : Int × DiskM} {l : List StepM} {k : Nat} (h : (runS x (l.take k)).1 ≠ 0) : runS x l = runS x (l.take k) := by
  conv => lhs; rw [← List.take_append_drop k l]
  rw [runS_app, runS_no h]

set_option maxHeartbeats 4000000 in
theorem inOrder_any (d : Nat) (D : DiskM) (G : List Nat) (v : Value) (l : List StepM) (w : World) (h : IsDisk w d D G) (hs : StepsAt G w v l) :
    Calls Tryz.prog 48 #[ptrV d, v] w fun e w' => e = .returned (.int .i64 (runS (0, D) l).1) ∧ Goes w w' G d (runS (0, D) l).2 := by
  have HS := Lib.hid hs
  have G0 := Lib.hid (Goes.same h (Keeps.refl w))
  obtain ⟨p, c, rfl, hm, _⟩ := hs
  obtain ⟨N, hN⟩ : ∃ N, l.length = N := ⟨_, rfl⟩
  have HN := Lib.hid hN
  rw [hN] at hm ⊢
  clear h hN
  unfold ptrV
  go_enter Tryz.func48, Tryz.ntmps48
  go_wp2
  go_loopw [10] (fun vi wr => ∃ (k : Nat) (D' : DiskM), k ≤ N ∧ vi = .int .i64 (k : Int) ∧ runS (0, D) (l.take k) = (0, D') ∧ Goes w wr G d D') (fun vi _ => N - (intOf vi).toNat)
  case atStart => exact ⟨0, D, by omega, rfl, rfl, G0.out⟩
  case round =>
    obtain ⟨k, D', hk, rfl, hr, hg⟩ := hrel
    have HR := Lib.hid hr
    have HG := Lib.hid hg
    clear hr hg
    by_cases hlt : k < N
    · obtain ⟨x, hx⟩ : ∃ x, l[k]? = some x := ⟨_, List.getElem?_eq_getElem (by have := HN.out; omega)⟩
      obtain ⟨G', i', f', b'⟩ := HG.out
      have hsa := HS.out.goes f' b'
      obtain ⟨p', c', e', hm', hl'⟩ := hsa
      simp only [Value.slice.injEq] at e'
      obtain ⟨rfl, _, rfl⟩ := e'
      obtain ⟨a, u, rfl, ha, hc, hst⟩ := hl' k x hx
      have hi1 : (k : Int) < (N : Int) := by omega
      obtain ⟨⟨q, D2⟩, hq⟩ : ∃ y, x.run D' = y := ⟨_, rfl⟩
      have H1 : Hid (runS (0, D) (l.take (k + 1)) = (q, D2)) := Lib.hid (by rw [runS_take hx, HR.out, next_ok, hq])
      have GO : ∀ w2 : World, Goes wr w2 G' d D2 → Goes w w2 G d D2 := fun w2 g => by
        obtain ⟨G2, i2, f2, b2⟩ := g
        refine ⟨G2, i2, f'.trans f2 b', fun b hb => ?_⟩
        rcases b2 b hb with h | h
        · exact b' b h
        · exact Or.inr (Nat.le_trans f'.size h)
      have GO := Lib.hid GO
      clear hl' hm' hx HR HG
      by_cases h0 : q = 0
      · subst h0
        cases x with
        | create n =>
          obtain ⟨b1, rfl, n1, x1, y1⟩ := hst
          have CC := Lib.hid (stCreate d b1 D' G' n wr i' x1 y1)
          clear i' f' b'
          have hq' := congrArg Prod.fst hq
          have hq2 := congrArg Prod.snd hq
          unfold ptrV at *
          simp only [StepM.run] at hq' hq2
          simp only [hq', hq2] at CC
          clear hq hq' hq2
          go_wp2_with (go_at_call 74; refine CC.out.mono ?_; rintro e w2 ⟨rfl, hg⟩)
          go_roundw
          case rel => exact ⟨k + 1, D2, by omega, by go_num, H1.out, GO.out _ hg⟩
          case measure => simp [intOf]; omega
        | add n s =>
          obtain ⟨b1, b2, rfl, n1, n2, x1, x2, y1, y2⟩ := hst
          have CC := Lib.hid (stAdd d b1 b2 D' G' n s wr i' x1 x2 y1 y2)
          clear i' f' b'
          have hq' := congrArg Prod.fst hq
          have hq2 := congrArg Prod.snd hq
          unfold ptrV at *
          simp only [StepM.run] at hq' hq2
          simp only [hq', hq2] at CC
          clear hq hq' hq2
          go_wp2_with (go_at_call 69; refine CC.out.mono ?_; rintro e w2 ⟨rfl, hg⟩)
          go_roundw
          case rel => exact ⟨k + 1, D2, by omega, by go_num, H1.out, GO.out _ hg⟩
          case measure => simp [intOf]; omega
        | sync n =>
          obtain ⟨b1, rfl, n1, x1, y1⟩ := hst
          have CC := Lib.hid (stSync d b1 D' G' n wr i' x1 y1)
          clear i' f' b'
          have hq' := congrArg Prod.fst hq
          have hq2 := congrArg Prod.snd hq
          unfold ptrV at *
          simp only [StepM.run] at hq' hq2
          simp only [hq', hq2] at CC
          clear hq hq' hq2
          go_wp2_with (go_at_call 70; refine CC.out.mono ?_; rintro e w2 ⟨rfl, hg⟩)
          go_roundw
          case rel => exact ⟨k + 1, D2, by omega, by go_num, H1.out, GO.out _ hg⟩
          case measure => simp [intOf]; omega
        | trunc n s =>
          obtain ⟨b1, b2, rfl, n1, n2, x1, x2, y1, y2⟩ := hst
          have CC := Lib.hid (stTrunc d b1 b2 D' G' n s wr i' x1 x2 y1 y2)
          clear i' f' b'
          have hq' := congrArg Prod.fst hq
          have hq2 := congrArg Prod.snd hq
          unfold ptrV at *
          simp only [StepM.run] at hq' hq2
          simp only [hq', hq2] at CC
          clear hq hq' hq2
          go_wp2_with (go_at_call 80; refine CC.out.mono ?_; rintro e w2 ⟨rfl, hg⟩)
          go_roundw
          case rel => exact ⟨k + 1, D2, by omega, by go_num, H1.out, GO.out _ hg⟩
          case measure => simp [intOf]; omega
        | del n =>
          obtain ⟨b1, rfl, n1, x1, y1⟩ := hst
          have CC := Lib.hid (stDel d b1 D' G' n wr i' x1 y1)
          clear i' f' b'
          have hq' := congrArg Prod.fst hq
          have hq2 := congrArg Prod.snd hq
          unfold ptrV at *
          simp only [StepM.run] at hq' hq2
          simp only [hq', hq2] at CC
          clear hq hq' hq2
          go_wp2_with (go_at_call 75; refine CC.out.mono ?_; rintro e w2 ⟨rfl, hg⟩)
          go_roundw
          case rel => exact ⟨k + 1, D2, by omega, by go_num, H1.out, GO.out _ hg⟩
          case measure => simp [intOf]; omega
      · have t1 : (q == 0) = false := by simpa using h0
        have H2 : Hid (runS (0, D) l = (q, D2)) := Lib.hid (by rw [runS_rest (k := k + 1) (by rw [H1.out]; exact h0), H1.out])
        clear h0 H1
        cases x with
        | create n =>
          obtain ⟨b1, rfl, n1, x1, y1⟩ := hst
          have CC := Lib.hid (stCreate d b1 D' G' n wr i' x1 y1)
          clear i' f' b'
          have hq' := congrArg Prod.fst hq
          have hq2 := congrArg Prod.snd hq
          unfold ptrV at *
          simp only [StepM.run] at hq' hq2
          simp only [hq', hq2] at CC
          clear hq hq' hq2
          go_wp2_with (go_at_call 74; refine CC.out.mono ?_; rintro e w2 ⟨rfl, hg⟩)
          go_ret
          exact ⟨by rw [H2.out]; rfl, by rw [H2.out]; exact GO.out _ hg⟩
        | add n s =>
          obtain ⟨b1, b2, rfl, n1, n2, x1, x2, y1, y2⟩ := hst
          have CC := Lib.hid (stAdd d b1 b2 D' G' n s wr i' x1 x2 y1 y2)
          clear i' f' b'
          have hq' := congrArg Prod.fst hq
          have hq2 := congrArg Prod.snd hq
          unfold ptrV at *
          simp only [StepM.run] at hq' hq2
          simp only [hq', hq2] at CC
          clear hq hq' hq2
          go_wp2_with (go_at_call 69; refine CC.out.mono ?_; rintro e w2 ⟨rfl, hg⟩)
          go_ret
          exact ⟨by rw [H2.out]; rfl, by rw [H2.out]; exact GO.out _ hg⟩
        | sync n =>
          obtain ⟨b1, rfl, n1, x1, y1⟩ := hst
          have CC := Lib.hid (stSync d b1 D' G' n wr i' x1 y1)
          clear i' f' b'
          have hq' := congrArg Prod.fst hq
          have hq2 := congrArg Prod.snd hq
          unfold ptrV at *
          simp only [StepM.run] at hq' hq2
          simp only [hq', hq2] at CC
          clear hq hq' hq2
          go_wp2_with (go_at_call 70; refine CC.out.mono ?_; rintro e w2 ⟨rfl, hg⟩)
          go_ret
          exact ⟨by rw [H2.out]; rfl, by rw [H2.out]; exact GO.out _ hg⟩
        | trunc n s =>
          obtain ⟨b1, b2, rfl, n1, n2, x1, x2, y1, y2⟩ := hst
          have CC := Lib.hid (stTrunc d b1 b2 D' G' n s wr i' x1 x2 y1 y2)
          clear i' f' b'
          have hq' := congrArg Prod.fst hq
          have hq2 := congrArg Prod.snd hq
          unfold ptrV at *
          simp only [StepM.run] at hq' hq2
          simp only [hq', hq2] at CC
          clear hq hq' hq2
          go_wp2_with (go_at_call 80; refine CC.out.mono ?_; rintro e w2 ⟨rfl, hg⟩)
          go_ret
          exact ⟨by rw [H2.out]; rfl, by rw [H2.out]; exact GO.out _ hg⟩
        | del n =>
          obtain ⟨b1, rfl, n1, x1, y1⟩ := hst
          have CC := Lib.hid (stDel d b1 D' G' n wr i' x1 y1)
          clear i' f' b'
          have hq' := congrArg Prod.fst hq
          have hq2 := congrArg Prod.snd hq
          unfold ptrV at *
          simp only [StepM.run] at hq' hq2
          simp only [hq', hq2] at CC
          clear hq hq' hq2
          go_wp2_with (go_at_call 75; refine CC.out.mono ?_; rintro e w2 ⟨rfl, hg⟩)
          go_ret
          exact ⟨by rw [H2.out]; rfl, by rw [H2.out]; exact GO.out _ hg⟩
    · obtain rfl : k = N := by omega
      have hz : ¬ ((k : Int) < (k : Int)) := by omega
      have H2 : Hid (runS (0, D) l = (0, D')) := Lib.hid (by
        have := HR.out
        rwa [List.take_of_length_le (by rw [HN.out]; exact Nat.le_refl _)] at this)
      go_wp2
      go_ret
      exact ⟨by rw [H2.out]; rfl, by rw [H2.out]; exact HG.out⟩
end Go.Proofs.YtlaepdpgegoopaaGreat
