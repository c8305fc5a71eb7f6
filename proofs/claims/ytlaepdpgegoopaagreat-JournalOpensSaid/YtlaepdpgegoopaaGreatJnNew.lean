
/- slices.Backward over integers: the iterator. newest: the file of the greatest number that is whole. The contract of newest. -/
import Derived.Test.YtlaepdpgegoopaaGreatJnApp
import Derived.Test.YtlaepdpgegoopaaGreatRecEach
import Derived.Test.YtlaepdpgegoopaaGreatRecWholeC
set_option linter.unusedVariables false
namespace Go.Proofs.YtlaepdpgegoopaaGreat
open Go.RowKit Go.Shelf Rc Csv Dk Jn
attribute [local go_sem] Oper.semAt_some

/-! ### From behind -/
def bkL (L : List Int) (k : Nat) : List (Nat × Int) := (List.range' k (L.length - k)).reverse.map fun j => (j, L.getD j 0)
theorem bkL_end (L : List Int) : bkL L L.length = [] := by simp [bkL]
theorem bkL_succ {L : List Int} {k : Nat} {x : Int} (h : L[k]? = some x) : bkL L k = bkL L (k + 1) ++ [(k, x)] := by
  have hk : k < L.length := (List.getElem?_eq_some_iff.1 h).1
  unfold bkL
  obtain ⟨m, hm⟩ : ∃ m, L.length - k = m + 1 := ⟨L.length - k - 1, by omega⟩
  rw [hm, List.range'_succ, show L.length - (k + 1) = m by omega]
  simp [h]
theorem bkL_len (L : List Int) (k : Nat) : (bkL L k).length = L.length - k := by simp [bkL]
theorem bkL_mem {L : List Int} {k j : Nat} {x : Int} : (j, x) ∈ bkL L k ↔ k ≤ j ∧ L[j]? = some x := by
  unfold bkL
  simp only [List.mem_map, List.mem_reverse, List.mem_range'_1, Prod.mk.injEq]
  constructor
  · rintro ⟨i, ⟨h1, h2⟩, rfl, rfl⟩
    refine ⟨h1, ?_⟩
    rw [List.getD_eq_getElem?_getD, List.getElem?_eq_getElem (by omega)]; rfl
  · rintro ⟨h1, h2⟩
    have hj : j < L.length := (List.getElem?_eq_some_iff.1 h2).1
    exact ⟨j, ⟨h1, by omega⟩, rfl, by rw [List.getD_eq_getElem?_getD, h2]; rfl⟩
/-- A place, and what stands there. -/
abbrev El (L : List Int) := { x : Nat × Int // L[x.1]? = some x.2 }
def Bk (L : List Int) (pre : List (El L)) (k : Nat) : Prop := pre.map (·.1) = bkL L k
theorem Bk.start (L : List Int) : Bk L [] L.length := (bkL_end L).symm
theorem Bk.snoc {L : List Int} {pre : List (El L)} {k : Nat} {x : Int} (h : Bk L pre (k + 1)) (hx : L[k]? = some x) : Bk L (pre ++ [⟨(k, x), hx⟩]) k := by
  unfold Bk at *
  rw [List.map_append, h, bkL_succ hx]; rfl
theorem Bk.len {L : List Int} {pre : List (El L)} {k : Nat} (h : Bk L pre k) : pre.length = L.length - k := by
  have := congrArg List.length h
  rwa [List.length_map, bkL_len] at this
theorem Bk.mem {L : List Int} {pre : List (El L)} {k j : Nat} {x : Int} (h : Bk L pre k) (hk : k ≤ j) (hx : L[j]? = some x) : (⟨(j, x), hx⟩ : El L) ∈ pre := by
  have : (j, x) ∈ pre.map (·.1) := by rw [h]; exact bkL_mem.2 ⟨hk, hx⟩
  obtain ⟨y, hy, e⟩ := List.mem_map.1 this
  have : y = ⟨(j, x), hx⟩ := Subtype.ext e
  exact this ▸ hy

/-! ### The iterator -/
def SameTwo (b g : Nat) (A B : World) : Prop := B.heap[b]? = A.heap[b]? ∧ B.heap[g]? = A.heap[g]?
/-- Integers in a block. -/
def IntsIn (w : World) (g : Nat) (p : Option Addr) (L : List Int) : Prop := ∀ j x, L[j]? = some x → ∃ a : Addr, p = some a ∧ a.block = g ∧ w.cell? (a.add j) = some (.int .i64 x)
theorem IntsIn.local {w w' : World} {g : Nat} {p : Option Addr} {L : List Int} (h : IntsIn w g p L) (e : w'.heap[g]? = w.heap[g]?) : IntsIn w' g p L := fun j x hx => by
  obtain ⟨a, e1, e2, hc⟩ := h j x hx
  exact ⟨a, e1, e2, by rw [World.cell?_of_block (w := w) (by rw [add_block, e2]; exact e)]; exact hc⟩
set_option maxRecDepth 100000 in
set_option maxHeartbeats 4000000 in
theorem back1_in (n : Nat) (hn : 1 ≤ n) (l Bn g : Nat) (p : Option Addr) (c : Nat) (L : List Int) (hL : L.length ≤ 1000000) (J Jx : List (El L) → World → Prop) (W : World) (hJ : AbidesFrom W.heap.size J)
    (hY : ∀ pre x W, J pre W → pre.length < L.length → YieldAt Fence.wide (n - 1) Tryz.prog l #[.int .i64 (x.1.1 : Int), .int .i64 x.1.2] W fun e W' =>
      (e = .returned (.bool true) ∧ J (pre ++ [x]) W' ∧ SameTwo Bn g W W') ∨ (e = .returned (.bool false) ∧ Jx (pre ++ [x]) W'))
    (hBn : W.cell? ⟨Bn, 0, none⟩ = some (.slice p L.length c)) (hg : IntsIn W g p L) (h0 : J [] W) :
    CallsIn Fence.wide n Tryz.prog 78 #[.func (.yield l) #[] #[], .pointer (some ⟨Bn, 0, none⟩)] W fun e W' => (∃ v, e = .returned v) ∧
      ((∃ ys, Bk L ys 0 ∧ J ys W') ∨ (∃ pre, (∃ k, k < L.length ∧ Bk L pre k) ∧ Jx pre W')) := by
  refine callsIn_of_wp Tryz.func78 rfl trivial ?_ rfl
  simp only [Tryz.ntmps78, List.size_toArray, List.length_cons, List.length_nil, Nat.reduceAdd, Nat.reduceSub, Array.replicate_succ, Array.replicate_zero, List.push_toArray, List.append_toArray, List.nil_append, List.cons_append]
  obtain ⟨N, hN⟩ : ∃ N, L.length = N := ⟨_, rfl⟩
  rw [hN] at hL hBn
  have HN := Lib.hid hN
  have HG := Lib.hid hg
  have HY := Lib.hid hY
  have B0 := Lib.hid (show Bk L [] N from hN ▸ Bk.start L)
  have H0 := Lib.hid h0
  clear hN hg hY h0
  gi_wp2
  gi_loopw [3] (fun vi wr => ∃ (j : Int) (pre : List (El L)), -1 ≤ j ∧ j < N ∧ vi = .int .i64 j ∧ Bk L pre (j + 1).toNat ∧ J pre wr ∧ wr.cell? ⟨Bn, 0, none⟩ = some (.slice p N c) ∧ IntsIn wr g p L) (fun vi wr => (intOf vi + 1).toNat)
  case atStart => exact ⟨(N : Int) - 1, [], by omega, by omega, rfl, by rw [show ((N : Int) - 1 + 1).toNat = N by omega]; exact B0.out, H0.out, hBn, HG.out⟩
  case round =>
    obtain ⟨j, pre, hj1, hj2, rfl, hbk, hJr, hcr, hgr⟩ := hrel
    have HB := Lib.hid hbk
    have HJr := Lib.hid hJr
    have HGr := Lib.hid hgr
    clear hbk hJr hgr
    by_cases hj : 0 ≤ j
    · obtain ⟨k, rfl⟩ : ∃ k : Nat, j = (k : Int) := ⟨j.toNat, by omega⟩
      obtain ⟨x, hx⟩ : ∃ x, L[k]? = some x := ⟨_, List.getElem?_eq_getElem (by have := HN.out; omega)⟩
      obtain ⟨a, rfl, ha, hcell⟩ := HGr.out k x hx
      have hbk2 := HB.out
      rw [show ((k : Int) + 1).toNat = k + 1 by omega] at hbk2
      have HB2 := Lib.hid (hbk2.snoc hx)
      obtain ⟨fn, tmps, assign, body, hy, hR⟩ := HY.out pre ⟨(k, x), hx⟩ wr HJr.out (by have := hbk2.len; have := HN.out; omega)
      dsimp only at hy
      have hk1 : (k : Int) < (N : Int) := by omega
      clear hbk2 HB HG HY
      gi_wp2
      refine hR.mono ?_
      rintro e W3 (⟨rfl, hJ3, hk3⟩ | ⟨rfl, hJx3⟩)
      · have hc3 : W3.cell? ⟨Bn, 0, none⟩ = some (.slice (some a) N c) := (cell_same hk3.1).trans hcr
        have HG3 := Lib.hid (HGr.out.local hk3.2)
        clear hy hR
        gi_wp2
        go_roundw
        case rel => exact ⟨(k : Int) - 1, pre ++ [⟨(k, x), hx⟩], by omega, by omega, rfl, by rw [show ((k : Int) - 1 + 1).toNat = k by omega]; exact HB2.out, hJ3, hc3, HG3.out⟩
        case measure => simp [intOf]
      · clear hy hR
        gi_wp2
        refine bodyPost_ret (v := .tuple #[]) (by simp [results, Tryz.results78, go_sem]) rfl ?_
        exact ⟨⟨_, rfl⟩, .inr ⟨pre ++ [⟨(k, x), hx⟩], ⟨k, by have := HN.out; omega, HB2.out⟩, hJx3⟩⟩
    · have HB2 := Lib.hid (show Bk L pre 0 from by have := HB.out; rwa [show (j + 1).toNat = 0 by omega] at this)
      clear HB HY HG
      gi_wp2
      go_end0
      exact ⟨⟨_, rfl⟩, .inl ⟨pre, HB2.out, HJr.out⟩⟩
end Go.Proofs.YtlaepdpgegoopaaGreat
namespace Go.Proofs.YtlaepdpgegoopaaGreat
open Go.RowKit Go.Shelf Go.ChangeShapes Go.WideShapes Go.ChangeAt Go.Maps Rc Csv Dk Jn
attribute [local go_sem] Oper.semAt_some

abbrev tEr : TypeId := 25
abbrev tPd : TypeId := 24
abbrev tIsl : TypeId := 57
theorem back_in (n : Nat) (p : Option Addr) (N c : Nat) (w : World) :
    CallsIn Fence.wide n Tryz.prog 60 #[.slice p N c] w fun e w' => e = .returned (.func (.func 78) #[] #[.pointer (some ⟨w.heap.size, 0, none⟩)]) ∧ w' = w.alloc (.cells #[.slice p N c] tIsl) := by
  refine callsIn_of_wp Tryz.func60 rfl trivial ?_ rfl
  simp only [Tryz.ntmps60, List.size_toArray, List.length_cons, List.length_nil, Nat.reduceAdd, Nat.reduceSub, Array.replicate_succ, Array.replicate_zero, List.push_toArray, List.append_toArray, List.nil_append, List.cons_append]
  gi_wp2
  go_ret
  exact ⟨rfl, rfl⟩
theorem back_stops (n : Nat) (hn : 1 ≤ n) (Bn g : Nat) (p : Option Addr) (c : Nat) (L : List Int) (hL : L.length ≤ 1000000) (w : World) (hc : w.heap[Bn]? = some (.cells #[.slice p L.length c] tIsl (0, 0))) (hg : IntsIn w g p L) (hgl : g < w.heap.size) :
    SeqStopsK Fence.wide n Tryz.prog 78 #[.pointer (some ⟨Bn, 0, none⟩)] (fun x : El L => #[Value.int .i64 (x.1.1 : Int), Value.int .i64 x.1.2]) (SameTwo Bn g) (fun ys => Bk L ys 0) (fun pre => ∃ k, k < L.length ∧ Bk L pre k) L.length w := fun l J Jx W hW hJ _ hY h0 =>
  back1_in n hn l Bn g p c L hL J Jx W hJ hY ((hW.cell (p := ⟨Bn, 0, none⟩) (block_lt hc)).trans (Joins.cell_of_block hc 0)) (hg.local (hW.block g hgl)) h0

/-- What newest comes to. -/
def NewOut (D : DiskM) (w : World) (e : Ending) (w' : World) : Prop :=
  (lastW D.files D.files.length = none ∧ e = .returned (.tuple #[.agg #[.int .i64 0, .slice none 0 0, .int .i64 0, .int .i64 0], .int .i64 63]) ∧ Keeps w w') ∨
  (∃ k f v, lastW D.files D.files.length = some k ∧ D.files[k]? = some f ∧ e = .returned (.tuple #[ctOf f v, .int .i64 0]) ∧ w'.ownsRow w.heap.size tS 1 v (wholeP f.data).length (svs (wholeP f.data)) ∧ Keeps w w')
/-- A cell that is no struct's. -/
def ErAt (w : World) (b : Nat) (q : Int) : Prop := w.heap[b]? = some (.cells #[.int .i64 q] tEr (0, 0))
def PdAt (w : World) (b d : Nat) : Prop := w.heap[b]? = some (.cells #[ptrV d] tPd (0, 0))
/-- Between two rounds. -/
structure NewI (w : World) (S d : Nat) (D : DiskM) (G : List Nat) (pre : List (El (numsF D.files))) (W : World) : Prop where
  disk : IsDisk W d D G
  dp : PdAt W w.heap.size d
  ct : ∃ x y z u, CtAt W (w.heap.size + 1) x y z u
  er : ∃ q, ErAt W (w.heap.size + 2) q
  keeps : Keeps w W
  none : ∀ y ∈ pre, ∀ f, D.files[y.1.1]? = some f → gB f.data = false
  size : S ≤ W.heap.size
/-- Where a round has found one. -/
structure NewX (w : World) (d : Nat) (D : DiskM) (G : List Nat) (c : Code) (pre : List (El (numsF D.files))) (W : World) : Prop where
  ret : c = .ret
  found : ∃ pre' y f v, pre = pre' ++ [y] ∧ D.files[y.1.1]? = some f ∧ gB f.data = true ∧ (∀ y ∈ pre', ∀ f, D.files[y.1.1]? = some f → gB f.data = false) ∧
    CtAt W (w.heap.size + 1) (.int .i64 f.n) v (.int .i64 (wholeE f.data : Int)) (.int .i64 (f.data.length : Int)) ∧ W.ownsRow (w.heap.size + 3) tS 1 v (wholeP f.data).length (svs (wholeP f.data))
  er : ErAt W (w.heap.size + 2) 0
  keeps : Keeps w W
theorem turn_cells {X Y : World} {row : Option Nat} {b : Nat} {cs : Array Value} {t : TypeId} (h : X.heap[b]? = some (.cells cs t (0, 0))) (hg : X.grownBy Y row) (hr : ∀ r, row = some r → ∃ o : Obj, X.heap[r]? = some o ∧ o.isCells = false) : Y.heap[b]? = some (.cells cs t (0, 0)) :=
  (hg.block b (block_lt h) fun e => by
    obtain ⟨o, ho, hc⟩ := hr b e.symm
    rw [h] at ho; cases ho; cases hc).trans h
theorem turn_below {w X Y : World} {row : Option Nat} {B : Nat} (h : Keeps w X) (hg : X.grownBy Y row) (hr : ∀ r, row = some r → B ≤ r) (hB : w.heap.size ≤ B) : Keeps w Y :=
  ⟨hg.os.trans h.os, hg.tape.trans h.tape, hg.output.trans h.output, Nat.le_trans h.size hg.size, fun i hi => (hg.block i (Nat.lt_of_lt_of_le hi h.size) fun e => by have := hr i e.symm; omega).trans (h.block i hi)⟩
theorem newI_own (w : World) (S d : Nat) (D : DiskM) (G : List Nat) (hG : ∀ b ∈ G, b < w.heap.size) (B : Nat) (hB : w.heap.size + 3 ≤ B) : OwnFrom B (NewI w S d D G) := by
  intro pre X Y row h hg hr
  have hr' : ∀ r, row = some r → ∃ o : Obj, X.heap[r]? = some o ∧ o.isCells = false := fun r e => (hr r e).2
  obtain ⟨h1, h2, ⟨x, y, z, u, h3⟩, ⟨q, h4⟩, h5, h6, h7⟩ := h
  refine ⟨h1.local fun b hb => hg.block b (h1.lt b hb) fun e => ?_, turn_cells h2 hg hr', ⟨x, y, z, u, turn_cells h3 hg hr'⟩, ⟨q, turn_cells h4 hg hr'⟩, turn_below h5 hg (fun r e => (hr r e).1) (by omega), h6, Nat.le_trans h7 hg.size⟩
  have := (hr b e.symm).1
  have := hG b hb
  omega
theorem newX_own (w : World) (d : Nat) (D : DiskM) (G : List Nat) (B : Nat) (hB : w.heap.size + 3 ≤ B) (c : Code) : OwnFrom B (NewX w d D G c) := by
  intro pre X Y row h hg hr
  have hr' : ∀ r, row = some r → ∃ o : Obj, X.heap[r]? = some o ∧ o.isCells = false := fun r e => (hr r e).2
  obtain ⟨h1, ⟨pre', y, f, v, a1, a2, a3, a4, a5, a6⟩, h4, h5⟩ := h
  refine ⟨h1, ⟨pre', y, f, v, a1, a2, a3, a4, turn_cells a5 hg hr', a6.kept hg ?_⟩, turn_cells h4 hg hr', turn_below h5 hg (fun r e => (hr r e).1) (by omega)⟩
  rcases a6.2 with ⟨e, _⟩ | ⟨g', cap, cur, e, hb, hgb, _⟩
  · rw [e]; exact .inl rfl
  · rw [e]
    refine .inr fun e' => ?_
    obtain ⟨o, ho, hc⟩ := hr' g' e'.symm
    rw [hgb] at ho; cases ho; cases hc
theorem others_keeps {X Y : World} (k : Keeps X Y) : KeepsOthers X Y := ⟨k.size, fun i o h _ => (k.block i (block_lt h)).trans h⟩

/-- The last one that is whole. -/
theorem lastW_at {l : List FileM} {k : Nat} {f : FileM} (hk : l[k]? = some f) (hw : gB f.data = true) : ∀ n, k < n → (∀ j g, k < j → j < n → l[j]? = some g → gB g.data = false) → n ≤ l.length → lastW l n = some k
  | 0, h, _, _ => by omega
  | n + 1, h, ho, hn => by
    unfold lastW
    by_cases e : k = n
    · subst e; rw [hk]; simp [hw]
    · obtain ⟨g, hg⟩ : ∃ g, l[n]? = some g := ⟨_, List.getElem?_eq_getElem (by omega)⟩
      rw [hg]
      simp only [ho n g (by omega) (by omega) hg, Bool.false_eq_true, if_false]
      exact lastW_at hk hw n (by omega) (fun j g h1 h2 h3 => ho j g h1 (by omega) h3) (by omega)
theorem lastW_no {l : List FileM} : ∀ n, n ≤ l.length → (∀ (j : Nat) (g : FileM), j < n → l[j]? = some g → gB g.data = false) → lastW l n = none
  | 0, _, _ => rfl
  | n + 1, hn, ho => by
    unfold lastW
    obtain ⟨g, hg⟩ : ∃ g, l[n]? = some g := ⟨_, List.getElem?_eq_getElem (by omega)⟩
    rw [hg]
    simp only [ho n g (by omega) hg, Bool.false_eq_true, if_false]
    exact lastW_no n (by omega) fun j g h1 h2 => ho j g (by omega) h2
theorem nums_idx {l : List FileM} {j : Nat} {f : FileM} (h : l[j]? = some f) : (numsF l)[j]? = some f.n := by unfold numsF; rw [List.getElem?_map, h]; rfl
theorem nums_inv {l : List FileM} {j : Nat} {x : Int} (h : (numsF l)[j]? = some x) : ∃ f, l[j]? = some f ∧ f.n = x := by
  unfold numsF at h
  rw [List.getElem?_map] at h
  cases hf : l[j]? with
  | none => rw [hf] at h; cases h
  | some f => rw [hf] at h; cases h; exact ⟨f, rfl, rfl⟩
theorem new_none {w W : World} {S d : Nat} {D : DiskM} {G : List Nat} {ys : List (El (numsF D.files))} (h : NewI w S d D G ys W) (hb : Bk (numsF D.files) ys 0) : lastW D.files D.files.length = none := by
  refine lastW_no _ (Nat.le_refl _) fun j g hj hg => ?_
  exact h.none _ (hb.mem (Nat.zero_le _) (nums_idx hg)) g hg
theorem new_found {D : DiskM} {pre' : List (El (numsF D.files))} {y : El (numsF D.files)} {f : FileM} {k : Nat} (hb : Bk (numsF D.files) (pre' ++ [y]) k) (hk : k < (numsF D.files).length) (hf : D.files[y.1.1]? = some f) (hw : gB f.data = true)
    (ho : ∀ y ∈ pre', ∀ f, D.files[y.1.1]? = some f → gB f.data = false) : lastW D.files D.files.length = some y.1.1 := by
  obtain ⟨x, hx⟩ : ∃ x, (numsF D.files)[k]? = some x := ⟨_, List.getElem?_eq_getElem hk⟩
  unfold Bk at hb
  rw [bkL_succ hx, List.map_append] at hb
  obtain ⟨h1, h2⟩ := List.append_inj' hb (by simp)
  have e : y.1 = (k, x) := by simpa using h2
  have ek : y.1.1 = k := by rw [e]
  have hlen : (numsF D.files).length = D.files.length := by simp [numsF]
  rw [ek] at hf ⊢
  refine lastW_at hf hw _ (by omega) (fun j g h3 h4 h5 => ?_) (Nat.le_refl _)
  exact ho _ (Bk.mem (k := k + 1) h1 (by omega) (nums_idx h5)) g h5
/-- What the stores of a round leave. -/
structure NewW (w W : World) (d : Nat) (D : DiskM) (G : List Nat) (f : FileM) (v : Value) (W2 : World) : Prop where
  disk : IsDisk W2 d D G
  dp : PdAt W2 w.heap.size d
  ct : CtAt W2 (w.heap.size + 1) (.int .i64 f.n) v (.int .i64 (wholeE f.data : Int)) (.int .i64 (f.data.length : Int))
  er : ErAt W2 (w.heap.size + 2) 0
  keeps : Keeps w W2
  row : W2.ownsRow (w.heap.size + 3) tS 1 v (wholeP f.data).length (svs (wholeP f.data))
  others : KeepsOthers W W2
  block : ∀ b, b < W.heap.size → b ≠ w.heap.size + 1 → b ≠ w.heap.size + 2 → W2.heap[b]? = W.heap[b]?
  size : W.heap.size ≤ W2.heap.size
theorem new_store {w W W1 : World} {R S d : Nat} {D : DiskM} {G : List Nat} {pre : List (El (numsF D.files))} {f : FileM} {v : Value} (hI : NewI w S d D G pre W) (hG : ∀ b ∈ G, b < w.heap.size) (hk : Keeps W W1) (hR : w.heap.size + 3 ≤ R)
    (hrow : W1.ownsRow R tS 1 v (wholeP f.data).length (svs (wholeP f.data))) :
    NewW w W d D G f v ((set4 W1 (w.heap.size + 1) (.int .i64 f.n) v (.int .i64 (wholeE f.data : Int)) (.int .i64 (f.data.length : Int))).setCell ⟨w.heap.size + 2, 0, none⟩ (.int .i64 0)) := by
  obtain ⟨h1, h2, ⟨x, y, z, u, h3⟩, ⟨q, h4⟩, h5, h6, _⟩ := hI
  have l4 := block_lt h4
  have k3 : CtAt W1 (w.heap.size + 1) x y z u := CtAt.keeps h3 hk
  have k4 : ErAt W1 (w.heap.size + 2) q := (hk.block _ l4).trans h4
  have k2 : PdAt W1 w.heap.size d := (hk.block _ (block_lt h2)).trans h2
  have s3 := k3.set (.int .i64 f.n) v (.int .i64 (wholeE f.data : Int)) (.int .i64 (f.data.length : Int))
  have g1 := set4_grown W1 (w.heap.size + 1) (.int .i64 f.n) v (.int .i64 (wholeE f.data : Int)) (.int .i64 (f.data.length : Int))
  obtain ⟨W3, hW3⟩ : ∃ W3, set4 W1 (w.heap.size + 1) (.int .i64 f.n) v (.int .i64 (wholeE f.data : Int)) (.int .i64 (f.data.length : Int)) = W3 := ⟨_, rfl⟩
  rw [hW3] at s3 g1 ⊢
  have g2 := grown_setCell W3 (w.heap.size + 2) 0 (.int .i64 0)
  have e3 : W3.heap.size = W1.heap.size := by rw [← hW3]; simp
  have same : ∀ b, b < W1.heap.size → b ≠ w.heap.size + 1 → b ≠ w.heap.size + 2 → (W3.setCell ⟨w.heap.size + 2, 0, none⟩ (.int .i64 0)).heap[b]? = W1.heap[b]? := fun b hb n1 n2 =>
    (g2.block b (by omega) (by simpa using n2)).trans (g1.block b hb (by simpa using n1))
  have t4 : ErAt W3 (w.heap.size + 2) q := (g1.block _ (block_lt k4) (by simp)).trans k4
  have far : ∀ g, (∃ n c, v = .slice (some ⟨g, 0, none⟩) n c) → R ≤ g := fun g ⟨n, c, e⟩ => by
    rcases hrow.2 with ⟨e2, _⟩ | ⟨g', cap, cur, e2, hb, _⟩
    · rw [e] at e2; cases e2
    · rw [e] at e2; cases e2; exact hb
  have rowS : (W3.setCell ⟨w.heap.size + 2, 0, none⟩ (.int .i64 0)).ownsRow R tS 1 v (wholeP f.data).length (svs (wholeP f.data)) := by
    refine (hrow.kept g1 ?_).kept g2 ?_
    · rcases hrow.2 with ⟨e2, _⟩ | ⟨g', cap, cur, e2, hb, _⟩
      · rw [e2]; exact .inl rfl
      · rw [e2]; refine .inr fun e => ?_
        have e' : g' = w.heap.size + 1 := by simpa [Value.ownBlock] using e
        omega
    · rcases hrow.2 with ⟨e2, _⟩ | ⟨g', cap, cur, e2, hb, _⟩
      · rw [e2]; exact .inl rfl
      · rw [e2]; refine .inr fun e => ?_
        have e' : g' = w.heap.size + 2 := by simpa [Value.ownBlock] using e
        omega
  have sz := hk.size
  refine ⟨(h1.keeps hk).local fun b hb => same b ((h1.keeps hk).lt b hb) (by have := hG b hb; omega) (by have := hG b hb; omega), ?_, ?_, ?_, ?_, ?_, ?_, ?_, ?_⟩
  · exact (same _ (block_lt k2) (by omega) (by omega)).trans k2
  · exact (g2.block _ (block_lt s3) (by simp)).trans s3
  · have := Joins.block_setCell (i := 0) t4 (.int .i64 0)
    unfold ErAt
    rw [this]; rfl
  · exact ⟨(g2.os.trans g1.os).trans (hk.os.trans h5.os), (g2.tape.trans g1.tape).trans (hk.tape.trans h5.tape), (g2.output.trans g1.output).trans (hk.output.trans h5.output), by have := h5.size; simp; omega, fun i hi => (same i (by omega) (by omega) (by omega)).trans ((hk.block i (by omega)).trans (h5.block i hi))⟩
  · exact own_base rowS fun g hg => by have := (rowS.lt g hg).1; omega
  · refine ⟨by simp; omega, fun i o ho hn => ?_⟩
    have hi := block_lt ho
    refine (same i (by omega) (fun e => ?_) (fun e => ?_)).trans ((hk.block i hi).trans ho)
    · subst e; rw [h3] at ho; cases ho; cases hn
    · subst e; rw [h4] at ho; cases ho; cases hn
  · exact fun b hb n1 n2 => (same b (by omega) n1 n2).trans (hk.block b hb)
  · simp; omega
theorem NewW.trans {w W W2 W4 : World} {d : Nat} {D : DiskM} {G : List Nat} {f : FileM} {v : Value} (h : NewW w W d D G f v W2) (g : NewW w W2 d D G f v W4) : NewW w W d D G f v W4 :=
  ⟨g.disk, g.dp, g.ct, g.er, g.keeps, g.row, h.others.trans g.others, fun b hb n1 n2 => (g.block b (Nat.lt_of_lt_of_le hb h.size) n1 n2).trans (h.block b hb n1 n2), Nat.le_trans h.size g.size⟩
theorem NewW.again {w W W2 : World} {d : Nat} {D : DiskM} {G : List Nat} {f : FileM} {v : Value} (h : NewW w W d D G f v W2) (hG : ∀ b ∈ G, b < w.heap.size) :
    NewW w W d D G f v ((set4 W2 (w.heap.size + 1) (.int .i64 f.n) v (.int .i64 (wholeE f.data : Int)) (.int .i64 (f.data.length : Int))).setCell ⟨w.heap.size + 2, 0, none⟩ (.int .i64 0)) :=
  h.trans (new_store (R := w.heap.size + 3) (pre := []) (S := 0) ⟨h.disk, h.dp, ⟨_, _, _, _, h.ct⟩, ⟨_, h.er⟩, h.keeps, fun y hy => (by cases hy), Nat.zero_le _⟩ hG (Keeps.refl _) (Nat.le_refl _) h.row)
theorem NewW.drew {w W W2 : World} {d : Nat} {D : DiskM} {G : List Nat} {f : FileM} {v : Value} (h : NewW w W d D G f v W2) : NewW w W d D G f v W2.drew :=
  ⟨h.disk.local fun _ _ => rfl, h.dp, h.ct, h.er, h.keeps.trans ⟨rfl, rfl, rfl, Nat.le_refl _, fun _ _ => rfl⟩, h.row, h.others.trans (KeepsOthers.drew _), h.block, h.size⟩
theorem NewW.two {w W W2 : World} {b g S d : Nat} {D : DiskM} {G : List Nat} {f : FileM} {v : Value} (h : NewW w W d D G f v W2) (hb : b < W.heap.size) (hb0 : w.heap.size + 3 ≤ b) (hg : g < W.heap.size) (hg0 : w.heap.size + 3 ≤ g) : SameTwo b g W W2 :=
  ⟨h.block b hb (by omega) (by omega), h.block g hg (by omega) (by omega)⟩
theorem NewW.next {w W W2 : World} {S d : Nat} {D : DiskM} {G : List Nat} {pre : List (El (numsF D.files))} {x : El (numsF D.files)} {f : FileM} {v : Value} (h : NewW w W d D G f v W2) (hI : NewI w S d D G pre W) (hf : D.files[x.1.1]? = some f) (hw : gB f.data = false) :
    NewI w S d D G (pre ++ [x]) W2 := by
  refine ⟨h.disk, h.dp, ⟨_, _, _, _, h.ct⟩, ⟨_, h.er⟩, h.keeps, fun y hy g hg => ?_, Nat.le_trans hI.size h.size⟩
  rcases List.mem_append.1 hy with hy | hy
  · exact hI.none y hy g hg
  · simp at hy
    subst hy
    rw [hf] at hg
    cases hg
    exact hw
theorem NewW.stop {w W W2 : World} {S d : Nat} {D : DiskM} {G : List Nat} {pre : List (El (numsF D.files))} {x : El (numsF D.files)} {f : FileM} {v : Value} (h : NewW w W d D G f v W2) (hI : NewI w S d D G pre W) (hf : D.files[x.1.1]? = some f) (hw : gB f.data = true) :
    NewX w d D G .ret (pre ++ [x]) W2 := ⟨rfl, ⟨pre, x, f, v, rfl, hf, hw, hI.none, h.ct, h.row⟩, h.er, h.keeps⟩
end Go.Proofs.YtlaepdpgegoopaaGreat
namespace Go.Proofs.YtlaepdpgegoopaaGreat
open Go.RowKit Go.Shelf Go.ChangeShapes Go.WideShapes Go.ChangeAt Go.Maps Rc Csv Dk Jn
attribute [local go_sem] Oper.semAt_some

theorem files_in {w : World} {B c : Nat} {p : Option Addr} {L : List Int} (h : w.ownsRow B tI 1 (.slice p L.length c) L.length (ivs L)) (hB : B ≤ w.heap.size) (o : Obj) : ∃ g, IntsIn (w.alloc o) g p L ∧ g < (w.alloc o).heap.size ∧ B ≤ g := by
  have hI := own_ints h
  obtain ⟨p', c', e, _, hc⟩ := hI
  cases e
  rcases h.2 with ⟨e, h0⟩ | ⟨g, cap, cur, e, hb, hg, _⟩
  · have : L = [] := by
      have : L.length = 0 := by rw [← h0]
      exact List.length_eq_zero_iff.1 this
    subst this
    exact ⟨w.heap.size, fun j x hx => by simp at hx, by simp, hB⟩
  · cases e
    refine ⟨g, fun j x hx => ?_, by have := block_lt hg; simp; omega, hb⟩
    obtain ⟨a, e, hcell⟩ := hc j x hx
    cases e
    exact ⟨_, rfl, rfl, cell_past hcell⟩

set_option maxRecDepth 100000 in
set_option maxHeartbeats 8000000 in
theorem newest_in (n : Nat) (hn : 4 ≤ n) (d : Nat) (D : DiskM) (G : List Nat) (w : World) (h : IsDisk w d D G) (hu : D.up = true) (hc : D.cap ≤ 1000000) :
    CallsIn Fence.wide n Tryz.prog 32 #[ptrV d] w (NewOut D w) := by
  have h1 : 1 ≤ n := by omega
  have ho := h.okay
  have hGl := h.lt
  have HD := Lib.hid h
  have hLl : (numsF D.files).length = D.files.length := by simp [numsF]
  have hLm : (numsF D.files).length ≤ 1000000 := by have := ho.many; omega
  refine callsIn_of_wp_marks Tryz.func32 rfl trivial ?_ rfl
  simp only [Tryz.ntmps32, List.size_toArray, List.length_cons, List.length_nil, Nat.reduceAdd, Nat.reduceSub, Array.replicate_succ, Array.replicate_zero, List.push_toArray, List.append_toArray, List.nil_append, List.cons_append]
  obtain ⟨w0, hw0⟩ : ∃ w0, ((w.alloc (.cells #[ptrV d] tPd)).alloc (.cells #[.int .i64 0, .slice none 0 0, .int .i64 0, .int .i64 0] tCt)).alloc (.cells #[.int .i64 0] tEr) = w0 := ⟨_, rfl⟩
  have hk0 : Keeps w w0 := hw0 ▸ keeps3 w _ _ _
  have hs0 : w0.heap.size = w.heap.size + 3 := by rw [← hw0]; simp
  have p0 : PdAt w0 w.heap.size d := by rw [← hw0]; unfold PdAt; rw [heap_past (by simp; omega), heap_past (by simp), heap_lit rfl]
  have p1 : CtAt w0 (w.heap.size + 1) (.int .i64 0) (.slice none 0 0) (.int .i64 0) (.int .i64 0) := by rw [← hw0]; unfold CtAt; rw [heap_past (by simp), heap_lit (by simp)]
  have p2 : ErAt w0 (w.heap.size + 2) 0 := by rw [← hw0]; unfold ErAt; rw [heap_lit (by simp)]
  have hF : Calls Tryz.prog 35 #[ptrV d] w0 fun e w' => ∃ v, e = .returned v ∧ w'.ownsRow w0.heap.size tI 1 v (numsF D.files).length (ivs (numsF D.files)) ∧ Keeps w0 w' := by
    obtain ⟨m, L, k, hd, _⟩ := h.keeps hk0
    rw [hLl]
    exact files_any d m L k D w0 hd
  have HF := Lib.hid hF
  have c0 : w0.cell? ⟨w.heap.size, 0, none⟩ = some (ptrV d) := Joins.cell_of_block p0 0
  unfold ptrV at c0 hw0 HF
  unfold ptrV
  clear hF
  have HLl := Lib.hid hLl
  clear hLl
  gi_wp2_with (first
    | (refine ⟨trivial, ?_⟩; gi_at_call 35; refine (callsIn_wide.2 HF.out).mono ?_; rintro e w1 ⟨v, rfl, hrow, hk1⟩; obtain ⟨p, cp, rfl⟩ := own_shape hrow)
    | (refine ⟨trivial, ?_⟩; gi_at_call 60; refine (back_in (n - 1) p _ cp _).mono ?_; rintro e w2 ⟨rfl, hw2⟩))
  have hB1 : w0.heap.size ≤ w1.heap.size := hk1.size
  obtain ⟨g, hg, hgl, hg0⟩ := files_in hrow hB1 (.cells #[.slice p (numsF D.files).length cp] tIsl)
  have hz : (w1.alloc (.cells #[.slice p (numsF D.files).length cp] tIsl)).heap.size = w1.heap.size + 1 := by simp
  have hkS : Keeps w (w1.alloc (.cells #[.slice p (numsF D.files).length cp] tIsl)) := (hk0.trans hk1).trans (keeps_lit w1 _)
  refine wpIn_rangeFunc_ownG rfl h1 (gf := 78) (lb := #[.pointer (some ⟨w1.heap.size, 0, none⟩)]) rfl trivial (enters_of Tryz.func78 (by kernel_rfl) rfl)
    (back_stops (n - 1) (by omega) w1.heap.size g p cp (numsF D.files) hLm _ (heap_lit rfl) hg hgl) (fun h g => ⟨g.1.trans h.1, g.2.trans h.2⟩) (fun W l o o' hl _ _ _ => by
      rw [hz] at hl
      constructor
      · show (W.putObj l o').heap[w1.heap.size]? = _
        simp [World.putObj, Array.getElem?_setIfInBounds]; omega
      · show (W.putObj l o').heap[g]? = _
        rw [hz] at hgl
        simp [World.putObj, Array.getElem?_setIfInBounds]; omega) (Below.refl _ _) (fun _ => rfl)
    (NewI w (w1.heap.size + 1) d D G) (NewX w d D G) (newI_own w (w1.heap.size + 1) d D G hGl _ (by rw [hz]; omega)) (fun c => newX_own w d D G _ (by rw [hz]; omega) c)
    ⟨HD.out.keeps hkS, (heap_past (by have := block_lt p0; omega)).trans ((hk1.block _ (block_lt p0)).trans p0), ⟨_, _, _, _, (heap_past (by have := block_lt p1; omega)).trans ((hk1.block _ (block_lt p1)).trans p1)⟩, ⟨_, (heap_past (by have := block_lt p2; omega)).trans ((hk1.block _ (block_lt p2)).trans p2)⟩, hkS, fun y hy => (by cases hy), Nat.le_of_eq hz.symm⟩
    (fun x => { tmps := #[.pointer (some ⟨d, 0, none⟩), .pointer (some ⟨w.heap.size, 0, none⟩), .pointer (some ⟨w.heap.size + 1, 0, none⟩), .pointer (some ⟨w.heap.size + 1 + 1, 0, none⟩), undef, .int .i64 x.1.2, .pointer (some ⟨d, 0, none⟩), .slice p (numsF D.files).length cp, .func (.func 78) #[] #[.pointer (some ⟨w1.heap.size, 0, none⟩)], .int .i64 (x.1.1 : Int), .int .i64 x.1.2, undef, undef, undef, undef, undef, undef, undef, undef, undef, undef, undef, undef, undef, undef, undef, undef, undef], defers := [] }) ?assign ?body ?done ?stop
  case assign =>
    intro l x W K hK
    gi_wp2
    exact hK
  case body =>
    rintro l pre ⟨⟨i, m⟩, hx⟩ W hI hlt
    obtain ⟨f, hf, rfl⟩ := nums_inv hx
    have HR : Hid (Calls Tryz.prog 61 #[.pointer (some ⟨d, 0, none⟩), .int .i64 f.n] W (ReadOut f W)) := Lib.hid (jread_any d D G f W hI.disk hu hc (List.mem_of_getElem? hf))
    have b0 : W.cell? ⟨w.heap.size, 0, none⟩ = some (.pointer (some ⟨d, 0, none⟩)) := Joins.cell_of_block hI.dp 0
    have HI := Lib.hid hI
    obtain ⟨M, hM⟩ : ∃ M, (wholeP f.data).length = M := ⟨_, rfl⟩
    have hIs := hI.keeps.size
    have HF := Lib.hid hf
    dsimp only
    clear hI hf
    cases hw : gB f.data with
    | true =>
      have hM1 : 0 < M := by
        rw [← hM]
        exact List.length_pos_iff.2 ((whole_iff _).2 hw)
      have HW := Lib.hid hw
      gi_wp2_with (fail)
      refine ⟨trivial, (fun h => by cases h), ?_⟩
      refine (CallsIn.inRound l (callsIn_wide.2 HR.out)).mono ?_
      rintro e W1 ⟨v, rfl, hrow1, hk⟩
      obtain ⟨p', c', rfl⟩ := own_shape hrow1
      have NW := Lib.hid (new_store HI.out hGl hk (by have := HI.out.size; omega) hrow1)
      obtain ⟨z0, z1, z2, z3, hct⟩ := HI.out.ct
      obtain ⟨q, her⟩ := HI.out.er
      have hct1 := CtAt.keeps hct hk
      have her1 := (hk.block _ (block_lt her)).trans her
      obtain ⟨y0, y1, y2, y3, fy⟩ := hct1.cells
      have fy0 := fy 0
      have fy1 := fy 1
      have fy2 := fy 2
      have fy3 := fy 3
      have x0 := Joins.cell_of_block her1 0
      have xf := Joins.unfrozen_of_block her1 0
      have HM := Lib.hid hM
      rw [hM] at NW ⊢
      unfold ctOf
      clear hM fy hrow1 hct her hk hct1 her1
      gi_wp2
      obtain ⟨W2, hW2⟩ : ∃ W2, (set4 W1 (w.heap.size + 1) (.int .i64 f.n) (.slice p' M c') (.int .i64 (wholeE f.data : Int)) (.int .i64 (f.data.length : Int))).setCell ⟨w.heap.size + 1 + 1, 0, none⟩ (.int .i64 0) = W2 := ⟨_, rfl⟩
      rw [show w.heap.size + 2 = w.heap.size + 1 + 1 from rfl, hW2] at NW
      rw [hW2]
      obtain ⟨r0, r1, r2, r3, fr⟩ := NW.out.ct.cells
      have fr0 := fr 0
      have fr1 := fr 1
      have fr2 := fr 2
      have fr3 := fr 3
      have r4 : W2.cell? ⟨w.heap.size + 1 + 1, 0, none⟩ = some (.int .i64 0) := Joins.cell_of_block NW.out.er 0
      have fr4 : W2.frozen? ⟨w.heap.size + 1 + 1, 0, none⟩ = false := Joins.unfrozen_of_block NW.out.er 0
      clear fr hW2 y0 y1 y2 y3 fy0 fy1 fy2 fy3 x0 xf
      have hmix : Tryz.prog.follows .mixedOrders = true := by kernel_rfl
      gi_region_with_o (fail)
      all_goals gi_wp2
      all_goals exact ⟨(NW.out.again hGl).drew.others.from _, (NW.out.again hGl).drew.stop HI.out HF.out HW.out⟩
    | false =>
      have hM1 : M = 0 := by
        rw [← hM]
        have : wholeP f.data = [] := by
          refine Classical.byContradiction fun hne => ?_
          rw [(whole_iff _).1 hne] at hw
          cases hw
        rw [this]; rfl
      subst hM1
      have HW := Lib.hid hw
      gi_wp2_with (fail)
      refine ⟨trivial, (fun h => by cases h), ?_⟩
      refine (CallsIn.inRound l (callsIn_wide.2 HR.out)).mono ?_
      rintro e W1 ⟨v, rfl, hrow1, hk⟩
      obtain ⟨p', c', rfl⟩ := own_shape hrow1
      have NW := Lib.hid (new_store HI.out hGl hk (by have := HI.out.size; omega) hrow1)
      obtain ⟨z0, z1, z2, z3, hct⟩ := HI.out.ct
      obtain ⟨q, her⟩ := HI.out.er
      have hct1 := CtAt.keeps hct hk
      have her1 := (hk.block _ (block_lt her)).trans her
      obtain ⟨y0, y1, y2, y3, fy⟩ := hct1.cells
      have fy0 := fy 0
      have fy1 := fy 1
      have fy2 := fy 2
      have fy3 := fy 3
      have x0 := Joins.cell_of_block her1 0
      have xf := Joins.unfrozen_of_block her1 0
      have hSz := HI.out.size
      rw [hM] at NW ⊢
      unfold ctOf
      clear hM fy hrow1 hct her hk hct1 her1
      gi_wp2
      have hgz : g < w1.heap.size + 1 := by rw [hz] at hgl; exact hgl
      exact ⟨NW.out.others.from _, NW.out.two (S := 0) (by omega) (by omega) (by omega) (by omega), NW.out.next HI.out HF.out HW.out⟩
  case done =>
    rintro Dd ys W hDd hys hI hK
    rw [hz] at hDd
    obtain ⟨z0, z1, z2, z3, hct⟩ := hI.ct
    obtain ⟨q, her⟩ := hI.er
    obtain ⟨y0, y1, y2, y3, fy⟩ := hct.cells
    have fy0 := fy 0
    have fy1 := fy 1
    have fy2 := fy 2
    have fy3 := fy 3
    have x0 := Joins.cell_of_block her 0
    have xf := Joins.unfrozen_of_block her 0
    have HI := Lib.hid hI
    have HY := Lib.hid hys
    have HCT := Lib.hid hct
    have HER := Lib.hid her
    clear fy hI hys hct her
    gi_wp2
    have g1 := set4_grown W (w.heap.size + 1) (.int .i64 0) (.slice none 0 0) (.int .i64 0) (.int .i64 0)
    have s1 := HCT.out.set (.int .i64 0) (.slice none 0 0) (.int .i64 0) (.int .i64 0)
    obtain ⟨W3, hW3⟩ : ∃ W3, set4 W (w.heap.size + 1) (.int .i64 0) (.slice none 0 0) (.int .i64 0) (.int .i64 0) = W3 := ⟨_, rfl⟩
    unfold set4 at hW3 g1 s1
    rw [hW3] at g1 s1 ⊢
    have g2 := grown_setCell W3 (w.heap.size + 1 + 1) 0 (.int .i64 63)
    have s2 : CtAt (W3.setCell ⟨w.heap.size + 1 + 1, 0, none⟩ (.int .i64 63)) (w.heap.size + 1) (.int .i64 0) (.slice none 0 0) (.int .i64 0) (.int .i64 0) := (g2.block _ (block_lt s1) (by simp)).trans s1
    have t1 : ErAt W3 (w.heap.size + 1 + 1) q := (g1.block _ (block_lt HER.out) (by simp)).trans HER.out
    have t2 : ErAt (W3.setCell ⟨w.heap.size + 1 + 1, 0, none⟩ (.int .i64 63)) (w.heap.size + 1 + 1) 63 := by
      have := Joins.block_setCell (i := 0) t1 (.int .i64 63)
      unfold ErAt
      rw [this]; rfl
    have hK1 : W3.heap[Dd]? = some (.deferred (some [])) := (g1.block _ (block_lt hK) (by simp; omega)).trans hK
    have hK2 : (W3.setCell ⟨w.heap.size + 1 + 1, 0, none⟩ (.int .i64 63)).heap[Dd]? = some (.deferred (some [])) := (g2.block _ (block_lt hK1) (by simp; omega)).trans hK1
    have hkk : Keeps w (W3.setCell ⟨w.heap.size + 1 + 1, 0, none⟩ (.int .i64 63)) := turn_below (B := w.heap.size) (turn_below (B := w.heap.size) HI.out.keeps g1 (fun r e => by cases e; omega) (Nat.le_refl _)) g2 (fun r e => by cases e; omega) (Nat.le_refl _)
    obtain ⟨W4, hW4⟩ : ∃ W4, W3.setCell ⟨w.heap.size + 1 + 1, 0, none⟩ (.int .i64 63) = W4 := ⟨_, rfl⟩
    rw [hW4] at s2 t2 hK2 hkk ⊢
    refine ⟨by simp, .inl ⟨_, _, rfl, run_takeDeferred hK2, ?_⟩⟩
    have turn : ∀ r, some Dd = some r → ∃ o : Obj, W4.heap[r]? = some o ∧ o.isCells = false := fun r e => by cases e; exact ⟨_, hK2, rfl⟩
    obtain ⟨e0, e1, e2, e3, _⟩ := CtAt.cells (turn_cells s2 (grownBy_putObj' _ Dd (.deferred none)) turn)
    have e4 : (W4.putObj Dd (.deferred none)).cell? ⟨w.heap.size + 1 + 1, 0, none⟩ = some (.int .i64 63) := Joins.cell_of_block (turn_cells t2 (grownBy_putObj' _ Dd (.deferred none)) turn) 0
    exact ⟨.tuple #[.agg #[.int .i64 0, .slice none 0 0, .int .i64 0, .int .i64 0], .int .i64 63], by simp [results, Tryz.results32, go_sem, e0, e1, e2, e3, e4], Or.inl ⟨new_none HI.out HY.out, rfl, turn_below (B := w.heap.size) hkk (grownBy_putObj' _ Dd (.deferred none)) (fun r e => by cases e; omega) (Nat.le_refl _)⟩⟩
  case stop =>
    rintro Dd c pre W hDd ⟨k, hkL, hbk⟩ hX hK
    rw [hz] at hDd
    obtain ⟨rfl, ⟨pre', y, f, v, rfl, hf, hw, ho2, hct, hrow2⟩, her, hkk⟩ := hX
    have hlast := new_found hbk hkL hf hw ho2
    gi_wp2
    refine ⟨by simp, .inl ⟨_, _, rfl, run_takeDeferred hK, ?_⟩⟩
    have turn : ∀ r, some Dd = some r → ∃ o : Obj, W.heap[r]? = some o ∧ o.isCells = false := fun r e => by cases e; exact ⟨_, hK, rfl⟩
    obtain ⟨e0, e1, e2, e3, _⟩ := CtAt.cells (turn_cells hct (grownBy_putObj' _ Dd (.deferred none)) turn)
    have e4 : (W.putObj Dd (.deferred none)).cell? ⟨w.heap.size + 1 + 1, 0, none⟩ = some (.int .i64 0) := Joins.cell_of_block (turn_cells her (grownBy_putObj' _ Dd (.deferred none)) turn) 0
    refine ⟨.tuple #[.agg #[.int .i64 f.n, v, .int .i64 (wholeE f.data : Int), .int .i64 (f.data.length : Int)], .int .i64 0], by simp [results, Tryz.results32, go_sem, e0, e1, e2, e3, e4], Or.inr ⟨_, f, v, hlast, hf, rfl, own_base (ownsRow_putObj hrow2 (.deferred none) hK rfl) fun g hg => ?_, turn_below (B := w.heap.size) hkk (grownBy_putObj' _ Dd (.deferred none)) (fun r e => by cases e; omega) (Nat.le_refl _)⟩⟩
    have := (hrow2.lt g hg).1
    omega
theorem newest_any (d : Nat) (D : DiskM) (G : List Nat) (w : World) (h : IsDisk w d D G) (hu : D.up = true) (hc : D.cap ≤ 1000000) :
    Calls Tryz.prog 32 #[ptrV d] w (NewOut D w) := (callsIn_wide (n := 4)).1 (newest_in 4 (Nat.le_refl _) d D G w h hu hc)
end Go.Proofs.YtlaepdpgegoopaaGreat
