
/- A range over a function that keeps a cell of its own between rounds (strings.Lines): a law of ours, out of the base steps of such a loop. Contracts for the functions of Go's library that settle calls: laid over this program's numbers. strings.Lines: the lines, one by one, to whatever loop body. -/
import Derived.RangeFuncBox
import Derived.RangeFuncNested
import Derived.RangeFuncBound
import Derived.RangeFuncCalls
import Derived.RangeFuncLeaves
import Derived.Shelf.Abstract
import Derived.Shelf.RegionOpen
import Derived.WalkKit
import Derived.OwnWalkIn
import Derived.TacticsInMore
import Derived.LoopNIn
import Derived.LoopIn
import Derived.Test.YtomonhghioamfaaGreatDoorStMath
import Derived.Shelf.Strings.Search3
import Derived.Shelf.Small.Wraps
import Derived.Shelf.Small.Strs
import Derived.Test.YtomonhghioamfaaGreatDoorArith
import Derived.Test.YtomonhghioamfaaGreatDoorCsvMem
set_option linter.unusedVariables false
namespace Go.Proofs.YtomonhghioamfaaGreatDoor
open Go.RowKit Go.Shelf

/-- What stays while blocks are laid, the cell at b is written, and blocks of no cells from B on are turned. -/
def Stays {β : Type} (B b : Nat) (I : β → World → Prop) : Prop :=
  ∀ s X Y row, I s X → X.grownBy Y row → (∀ r, row = some r → r = b ∨ (B ≤ r ∧ ∃ o : Obj, X.heap[r]? = some o ∧ o.isCells = false)) → I s Y
/-- An iterator that gives just these, one by one, and keeps its state in the cell at b. -/
def GivesAll {α : Type} (P : Program) (n gf : Nat) (lb : Array Value) (enc : α → Value) (all : List α) (b : Nat) (Start : World → Prop) : Prop :=
  ∀ (l : Nat) (J Jx : List α → World → Prop) (W : World), Start W →
    (∀ s X Y row, J s X → X.grownBy Y row → (∀ r, row = some r → r = b) → J s Y) →
    (∀ pre x rest W1, all = pre ++ x :: rest → J pre W1 → YieldAt Fence.wide (n - 1) P l #[enc x] W1 fun e W' =>
      (e = .returned (.bool true) ∧ J (pre ++ [x]) W' ∧ W'.heap[b]? = W1.heap[b]?) ∨ (e = .returned (.bool false) ∧ ∃ q, Jx q W')) →
    J [] W → CallsIn Fence.wide n P gf (#[.func (.yield l) #[] #[]] ++ lb) W fun e W' => (∃ v, e = .returned v) ∧ (J all W' ∨ ∃ q, Jx q W')
/-- How a round's body may end: it goes on, or it returns. -/
def roundEnd {α : Type} (B b : Nat) (I Ix : List α → World → Prop) (xs : List α) (W : World) : Exit → Act → World → Prop
  | .normal, _, W' => KeepsFrom B W W' ∧ W'.heap[b]? = W.heap[b]? ∧ I xs W'
  | .ret, _, W' => KeepsFrom B W W' ∧ Ix xs W'
  | _, _, _ => False
/-- The loop's own two blocks: its record, and that of its rounds' deferred calls. -/
def TwoAt (D : Nat) (r : Loop) (W : World) : Prop := W.heap[D + 1]? = some (.loop r) ∧ W.heap[D]? = some (.deferred (some []))
theorem TwoAt.grown {D b : Nat} {r : Loop} {X Y : World} {row : Option Nat} (h : TwoAt D r X) (hb : b < D) (hg : X.grownBy Y row) (hr : ∀ k, row = some k → k = b) : TwoAt D r Y := by
  have no : ∀ k, D ≤ k → some k ≠ row := fun k hk e => by have := hr k e.symm; omega
  exact ⟨(hg.block _ (Array.getElem?_eq_some_iff.1 h.1).1 (no _ (by omega))).trans h.1, (hg.block _ (Array.getElem?_eq_some_iff.1 h.2).1 (no _ (Nat.le_refl _))).trans h.2⟩
theorem TwoAt.put {D : Nat} {r : Loop} {W : World} (h : TwoAt D r W) (r' : Loop) : TwoAt D r' (W.putObj (D + 1) (.loop r')) :=
  ⟨World.putObj_heap_same (Array.getElem?_eq_some_iff.1 h.1).1, (World.putObj_heap_other (by omega)).trans h.2⟩
theorem TwoAt.from {D : Nat} {r : Loop} {X Y : World} (h : TwoAt D r X) (k : KeepsFrom D X Y) : TwoAt D r Y := ⟨k.same _ _ (by omega) h.1 rfl, k.same _ _ (Nat.le_refl _) h.2 rfl⟩
theorem Stays.put {β : Type} {B b : Nat} {I : β → World → Prop} (h : Stays B b I) {s : β} {W : World} {r : Loop} (hs : I s W) (hr : TwoAt B r W) (r' : Loop) : I s (W.putObj (B + 1) (.loop r')) :=
  h s W _ _ hs (grownBy_putObj' W (B + 1) (.loop r')) fun k e => by cases e; exact Or.inr ⟨by omega, _, hr.1, rfl⟩

theorem wp_range_all {α : Type} {P : Program} {n : Nat} {g : Operand} {ps : Array Tmp} {assign body : Code} {Q : Exit → Act → World → Prop} {a : Act} {w : World}
    (h1 : 1 ≤ n) {gf : Nat} {lb : Array Value} (hg : a.eval g = .func (.func gf) #[] lb) (eg : ∀ args w, (callFunc gf args).run P w = .ok (.enter gf args) w)
    {enc : α → Value} {all : List α} {b : Nat} {Start : World → Prop} (hseq : GivesAll P (n - 1) gf lb enc all b Start)
    (hb : b < w.heap.size) (hst : ∀ W : World, W.heap[b]? = w.heap[b]? → Start W) (hps : ps.size = 1)
    (I Ix : List α → World → Prop) (hI : Stays w.heap.size b I) (hIx : Stays w.heap.size b Ix) (h0 : I [] w) (a₁ : α → Act)
    (hassign : ∀ (l : Nat) (x : α) (W : World) (K : Act → World → Prop), K (a₁ x) W →
      assign.wpIn (Fence.wide.inRound l) (n - 1 - 1) P (Exit.then K (fun _ _ _ => False)) { tmps := (ps.zip #[enc x]).foldl (fun t (p, v) => t.setIfInBounds p v) a.tmps, defers := [] } W)
    (hbody : ∀ (l : Nat) (pre : List α) (x : α) (rest : List α) (W : World), all = pre ++ x :: rest → I pre W → body.wpIn (Fence.wide.inRound l) (n - 1 - 1) P (roundEnd w.heap.size b I Ix (pre ++ [x]) W) (a₁ x) W)
    (hdone : ∀ W : World, I all W → W.heap[w.heap.size]? = some (.deferred (some [])) → Q .normal { a with defers := { target := .collected w.heap.size, args := #[] } :: a.defers } W)
    (hstop : ∀ (q : List α) (W : World), Ix q W → W.heap[w.heap.size]? = some (.deferred (some [])) → Code.ret.wpIn Fence.wide n P Q { a with defers := { target := .collected w.heap.size, args := #[] } :: a.defers } W) :
    (Code.rangeFunc g ps assign body).wpIn Fence.wide n P Q a w := by
  refine wpIn_rangeFunc fun fn hfn => ?_
  obtain ⟨rec, hrec⟩ : ∃ rec : LoopState → Option Code → Loop, rec = fun st pe => { state := st, pending := pe, fn, tmps := a.tmps, params := ps, assign, body, defers := w.heap.size } := ⟨_, rfl⟩
  obtain ⟨W1, hW1⟩ : ∃ W1, (w.alloc (.deferred (some []))).alloc (.loop (rec .ready none)) = W1 := ⟨_, rfl⟩
  have t1 : TwoAt w.heap.size (rec .ready none) W1 := by
    subst hW1
    refine ⟨?_, (Below.heap_alloc _ _ _ (by simp)).trans (World.alloc_heap_new w _)⟩
    have := World.alloc_heap_new (w.alloc (.deferred (some []))) (.loop (rec .ready none))
    rwa [World.size_alloc] at this
  have g1 : w.grownBy W1 none := by subst hW1; exact ⟨rfl, rfl, rfl, by simp; omega, fun k hk _ => (Below.heap_alloc _ _ _ (by simp; omega)).trans (Below.heap_alloc _ _ _ hk)⟩
  have i1 : I [] W1 := hI _ _ _ none h0 g1 fun r e => by cases e
  have s1 : Start W1 := hst W1 (g1.block b hb (by simp))
  refine ⟨w.heap.size + 1, [{ target := .collected w.heap.size, args := #[] }], W1, { target := .fn (.func gf) lb, args := #[.func (.yield (w.heap.size + 1)) #[] #[]] }, W1, gf,
    #[.func (.yield (w.heap.size + 1)) #[] #[]] ++ lb, W1, ?_, ?_, fun _ _ => trivial, by simp [invoke, go_sem, eg], fun _ => h1, ?_⟩
  · show (Instr.enterLoop fn a.tmps ps assign body none).run P w = _
    rw [← hW1, hrec]
    exact run_enterLoop_outer _ _ _ _ _
  · simp only [resolve, hg]
    simp [go_sem]
  refine (hseq (w.heap.size + 1) (fun pre W => I pre W ∧ TwoAt w.heap.size (rec .ready none) W) (fun pre W => Ix pre W ∧ TwoAt w.heap.size (rec .done (some .ret)) W) W1 s1
    (fun s X Y row hs hg' hr => ⟨hI s X Y row hs.1 hg' fun r e => Or.inl (hr r e), hs.2.grown hb hg' hr⟩) ?_ ⟨i1, t1⟩).mono ?_
  · rintro pre x rest W hall ⟨hi, ht⟩
    have hy := run_yield (P := P) (args := #[enc x]) ht.1 (by rw [hrec]; exact hps.symm)
    rw [hrec] at hy
    refine ⟨fn, _, assign, body, hy, roundIn_of_wpIn hfn (hassign _ x W _ ⟨_, run_beginRound ht.1 (by rw [hrec]), ?_⟩)⟩
    have t2 := ht.put { rec .ready none with state := .busy }
    have b2 : (W.putObj (w.heap.size + 1) (.loop { rec .ready none with state := .busy })).heap[b]? = W.heap[b]? := World.putObj_heap_other (by omega)
    refine wpIn_mono (hbody _ pre x rest _ hall (hI.put hi ht _)) ?_
    rintro e a3 W3 hp
    cases e with
    | normal =>
      obtain ⟨k3, kb, i3⟩ := hp
      have t3 := t2.from k3
      have e3 := run_endRound (P := P) none t3.1
      have t4 := t3.put (rec .ready none)
      rw [hrec] at e3
      rw [hrec] at t4
      refine ⟨_, _, e3, .inl ⟨rfl, ⟨hI.put i3 t3 _, by rw [hrec]; exact t4⟩, ?_⟩⟩
      exact ((World.putObj_heap_other (by omega)).trans kb).trans b2
    | ret =>
      obtain ⟨k3, i3⟩ := hp
      have t3 := t2.from k3
      have e3 := run_endRound (P := P) (some .ret) t3.1
      have t4 := t3.put (rec .done (some .ret))
      rw [hrec] at e3
      rw [hrec] at t4
      exact ⟨_, _, e3, .inr ⟨rfl, _, hIx.put i3 t3 _, by rw [hrec]; exact t4⟩⟩
    | exit id => exact hp.elim
    | goto t => exact hp.elim
    | panic ch => exact hp.elim
    | outgrown => exact hp.elim
  · rintro e W2 ⟨⟨v, rfl⟩, h2⟩
    rcases h2 with ⟨hi, ht⟩ | ⟨q, hi, ht⟩
    · have e2 := run_endLoop (P := P) ht.1 (by rw [hrec]; simp)
      have t5 := ht.put { rec .ready none with state := .exhausted }
      rw [hrec] at e2
      rw [hrec] at t5
      exact ⟨none, _, e2, hdone _ (hI.put hi ht _) t5.2⟩
    · have e2 := run_endLoop (P := P) ht.1 (by rw [hrec]; simp)
      have t5 := ht.put { rec .done (some .ret) with state := .exhausted }
      rw [hrec] at e2
      rw [hrec] at t5
      exact ⟨some .ret, _, e2, hstop q _ (hIx.put hi ht _) t5.2⟩
end Go.Proofs.YtomonhghioamfaaGreatDoor
namespace Go.Proofs.YtomonhghioamfaaGreatDoor
open Go.Shelf Go.Proofs Go.ChangeShapes Go.WideShapes Go.ChangeAt Go.RowKit
def seLays137_ren : Go.Shelf.Ren := ⟨fun | 137 => 54 | 217 => 84 | 266 => 112 | n => n, fun | 9 => 9 | 5 => 5 | 3 => 3 | n => n, fun | n => n⟩
theorem seLays137 : Lays.n137 Tryz.prog seLays137_ren := {
  mixed := by kernel_rfl
  f137 := Tryz.func54.trans (congrArg some (by kernel_rfl))
  f217 := Tryz.func84.trans (congrArg some (by kernel_rfl))
  f266 := Tryz.func112.trans (congrArg some (by kernel_rfl))
  t3 := Tryz.underlying3
  a3 := Tryz.isAgg3
  z3 := Tryz.sizeOf3
  v3 := Tryz.zeroValue3
  t5 := Tryz.underlying5
  a5 := Tryz.isAgg5
  z5 := Tryz.sizeOf5
  v5 := Tryz.zeroValue5
  t9 := Tryz.underlying9
  a9 := Tryz.isAgg9
  z9 := Tryz.sizeOf9
  v9 := Tryz.zeroValue9 }
def seLays104_ren : Go.Shelf.Ren := ⟨fun | 104 => 56 | 211 => 86 | 207 => 114 | n => n, fun | 9 => 9 | 4 => 4 | 24 => 101 | 3 => 3 | n => n, fun | n => n⟩
theorem seLays104 : Lays.n104 Tryz.prog seLays104_ren := {
  mixed := by kernel_rfl
  f104 := Tryz.func56.trans (congrArg some (by kernel_rfl))
  f207 := Tryz.func114.trans (congrArg some (by kernel_rfl))
  f211 := Tryz.func86.trans (congrArg some (by kernel_rfl))
  t3 := Tryz.underlying3
  a3 := Tryz.isAgg3
  z3 := Tryz.sizeOf3
  v3 := Tryz.zeroValue3
  t4 := Tryz.underlying4
  a4 := Tryz.isAgg4
  z4 := Tryz.sizeOf4
  v4 := Tryz.zeroValue4
  t9 := Tryz.underlying9
  a9 := Tryz.isAgg9
  z9 := Tryz.sizeOf9
  v9 := Tryz.zeroValue9
  t24 := Tryz.underlying101
  a24 := Tryz.isAgg101
  z24 := Tryz.sizeOf101
  v24 := Tryz.zeroValue101 }
def seLays144_ren : Go.Shelf.Ren := ⟨fun | 144 => 55 | 143 => 85 | 219 => 113 | 217 => 84 | 225 => 142 | 224 => 143 | 267 => 144 | 266 => 112 | 314 => 154 | n => n, fun | 9 => 9 | 4 => 4 | 3 => 3 | 5 => 5 | 46 => 153 | 146 => 165 | 51 => 164 | n => n, fun | 1 => 1 | n => n⟩
theorem seLays144 : Lays.n144 Tryz.prog seLays144_ren := {
  mixed := by kernel_rfl
  f143 := Tryz.func85.trans (congrArg some (by kernel_rfl))
  f144 := Tryz.func55.trans (congrArg some (by kernel_rfl))
  f217 := Tryz.func84.trans (congrArg some (by kernel_rfl))
  f219 := Tryz.func113.trans (congrArg some (by kernel_rfl))
  f224 := Tryz.func143.trans (congrArg some (by kernel_rfl))
  f225 := Tryz.func142.trans (congrArg some (by kernel_rfl))
  f266 := Tryz.func112.trans (congrArg some (by kernel_rfl))
  f267 := Tryz.func144.trans (congrArg some (by kernel_rfl))
  f314 := Tryz.func154.trans (congrArg some (by kernel_rfl))
  t3 := Tryz.underlying3
  a3 := Tryz.isAgg3
  z3 := Tryz.sizeOf3
  v3 := Tryz.zeroValue3
  t4 := Tryz.underlying4
  a4 := Tryz.isAgg4
  z4 := Tryz.sizeOf4
  v4 := Tryz.zeroValue4
  t5 := Tryz.underlying5
  a5 := Tryz.isAgg5
  z5 := Tryz.sizeOf5
  v5 := Tryz.zeroValue5
  t9 := Tryz.underlying9
  a9 := Tryz.isAgg9
  z9 := Tryz.sizeOf9
  v9 := Tryz.zeroValue9
  t46 := Tryz.underlying153
  a46 := Tryz.isAgg153
  z46 := Tryz.sizeOf153
  v46 := Tryz.zeroValue153
  t51 := Tryz.underlying164
  a51 := Tryz.isAgg164
  z51 := Tryz.sizeOf164
  v51 := Tryz.zeroValue164
  t146 := Tryz.underlying165
  a146 := Tryz.isAgg165
  z146 := Tryz.sizeOf165
  v146 := Tryz.zeroValue165
  g1 := by kernel_rfl }
theorem se_indexByte (s : ByteArray) (c : UInt8) (w : World) : Calls Tryz.prog 54 #[.string s, .int .u8 (c.toNat : Int)] w fun e w' => e = .returned (.int .i64 (Lib.indexByte s.data.toList c)) ∧ w' = w :=
  (Any.strings_IndexByte seLays137 s c.toNat w).mono fun e w' h => by simpa using h
theorem se_cutSuffix (s p : ByteArray) (w : World) (hs : s.size ≤ 9223372036854775807) : Calls Tryz.prog 56 #[.string s, .string p] w fun e w' => e = .returned (.tuple #[.string ⟨(Lib.trimSuffix s.data.toList p.data.toList).toArray⟩, .bool (Lib.hasSuffix s.data.toList p.data.toList)]) ∧ w' = w :=
  Any.strings_CutSuffix seLays104 s p w hs
theorem se_contains (s : ByteArray) (c : UInt8) (w : World) : Calls Tryz.prog 55 #[.string s, .string ⟨#[c]⟩] w fun e w' => e = .returned (.bool (decide (0 ≤ Lib.indexByte s.data.toList c))) ∧ w' = w :=
  Any.strings_Contains_one seLays144 s c w
end Go.Proofs.YtomonhghioamfaaGreatDoor
namespace Go.Proofs.YtomonhghioamfaaGreatDoor
open Go.RowKit Go.Shelf Csv Stl
attribute [local go_sem] Oper.semAt_some

/-- Where the first byte 10 stands. -/
theorem line_at (l : List UInt8) : (Lib.indexByte l 10 = -1 ∧ lineH l = l ∧ lineT l = []) ∨ ∃ k : Nat, Lib.indexByte l 10 = (k : Int) ∧ k < l.length ∧ lineH l = l.take (k + 1) ∧ lineT l = l.drop (k + 1) := by
  induction l with
  | nil => exact Or.inl ⟨rfl, rfl, rfl⟩
  | cons c r ih =>
    by_cases hc : c = 10
    · exact Or.inr ⟨0, by rw [Lib.indexByte, hc]; rfl, by simp, by rw [lineH, if_pos hc, hc]; rfl, by rw [lineT, if_pos hc]; rfl⟩
    · have hb : (c == 10) = false := by simp [hc]
      rcases ih with ⟨h1, h2, h3⟩ | ⟨k, h1, hk, h2, h3⟩
      · exact Or.inl ⟨by rw [Lib.indexByte, hb, h1]; rfl, by rw [lineH, if_neg hc, h2], by rw [lineT, if_neg hc, h3]⟩
      · refine Or.inr ⟨k + 1, ?_, by simp; omega, by rw [lineH, if_neg hc, h2]; rfl, by rw [lineT, if_neg hc, h3]; rfl⟩
        rw [Lib.indexByte, hb, h1, if_neg (by simp), if_neg (by simp)]
        omega
theorem ext_takeS (s : ByteArray) (p q : Nat) : (s.extract p q).data.toList = (s.data.toList.drop p).take (q - p) := by
  rw [← extract_list, ByteArray.toList_eq]
def tStr : TypeId := 9
/-- How much is left. -/
def leftAt (b : Nat) (W : World) : Nat := match W.cell? ⟨b, 0, none⟩ with
  | some (.string s) => s.size
  | _ => 0
theorem boxed_step {b : Nat} {W W' : World} {s : ByteArray} (h : Boxed W b tStr (.string s)) (k : W'.heap[b]? = W.heap[b]?) : Boxed W' b tStr (.string s) := Eq.trans k h
set_option maxRecDepth 100000 in
set_option maxHeartbeats 4000000 in
theorem lines1_in (n : Nat) (hn : 1 ≤ n) (b : Nat) (s : ByteArray) (hs : s.size ≤ 65536) :
    GivesAll Tryz.prog n 53 #[.pointer (some ⟨b, 0, none⟩)] (fun l : List UInt8 => Value.string ⟨l.toArray⟩) (linesL s.data.toList) b (fun W => Boxed W b tStr (.string s)) := by
  intro l J Jx W hst hJ hY h0
  refine callsIn_of_wp Tryz.func53 rfl trivial ?_ rfl
  simp only [Tryz.ntmps53, List.size_toArray, List.length_cons, List.length_nil, Nat.reduceAdd, Nat.reduceSub, Array.replicate_succ, Array.replicate_zero, List.push_toArray, List.append_toArray, List.nil_append, List.cons_append]
  gi_wp2_with fail
  gi_loopw [3, 4] (fun v3 v4 wr => ∃ (pre : List (List UInt8)) (S : ByteArray), S.size ≤ 65536 ∧ linesL s.data.toList = pre ++ linesL S.data.toList ∧ Boxed wr b tStr (.string S) ∧ J pre wr) (fun v3 v4 wr => leftAt b wr)
  case atStart => exact ⟨[], s, hs, rfl, hst, h0⟩
  case round =>
    obtain ⟨pre, S, hS, hall, hbx, hJr⟩ := hrel
    have hc := hbx.cell
    have hf := hbx.frozen
    have HB := Lib.hid hbx
    have HA := Lib.hid hall
    have HJR := Lib.hid hJr
    have HM : Hid (leftAt b wr = S.size) := Lib.hid (by unfold leftAt; rw [hc])
    clear hbx hall hJr
    by_cases h0 : 0 < S.size
    · have hd : decide ((0 : Int) < (S.size : Int)) = true := decide_eq_true (by omega)
      have hd2 : decide (0 < S.size) = true := decide_eq_true h0
      have NE : Hid (S.data.toList ≠ []) := Lib.hid (fun e => by have := congrArg List.length e; rw [len_data, List.length_nil] at this; omega)
      have LC : Hid (linesL s.data.toList = pre ++ lineH S.data.toList :: linesL (lineT S.data.toList)) := Lib.hid (by rw [HA.out, linesL_cons NE.out])
      have CI := Lib.hid (se_indexByte S 10 wr)
      have YL : ∀ W1 : World, wr.grownBy W1 (some b) → ∃ fn tmps assign body, (Instr.yield l #[.string ⟨(lineH S.data.toList).toArray⟩]).run Tryz.prog W1 = .ok (.round l fn tmps assign body) W1 ∧ RoundIn Fence.wide (n - 1) Tryz.prog l fn tmps assign body W1 (fun e W' =>
          (e = .returned (.bool true) ∧ J (pre ++ [lineH S.data.toList]) W' ∧ W'.heap[b]? = W1.heap[b]?) ∨ (e = .returned (.bool false) ∧ ∃ q, Jx q W')) := fun W1 g =>
        hY pre (lineH S.data.toList) (linesL (lineT S.data.toList)) _ LC.out (hJ pre wr _ (some b) HJR.out g (fun r e => by cases e; rfl))
      have BN : Hid (∀ v : ByteArray, Boxed (wr.setCell ⟨b, 0, none⟩ (.string v)) b tStr (.string v)) := Lib.hid fun v => HB.out.set (.string v)
      clear hY
      rcases line_at S.data.toList with ⟨e1, e2, e3⟩ | ⟨k, e1, hk, e2, e3⟩
      · rw [e1] at CI
        have HX : ⟨(lineH S.data.toList).toArray⟩ = S := by rw [e2]
        have RL : Hid (linesL (lineT S.data.toList) = []) := Lib.hid (by rw [e3]; rfl)
        obtain ⟨fn, tmps, assign, body, hy, hR⟩ := YL (wr.setCell ⟨b, 0, none⟩ (.string ⟨#[]⟩)) (grownBy_setCell' wr b _)
        rw [HX] at hy
        clear HX YL
        have HRR := Lib.hid hR
        clear e1 e2 e3 hR
        gi_wp2_with (refine ⟨trivial, ?_⟩; gi_at_call 54; refine (callsIn_wide.2 CI.out).mono ?_; rintro e w1 ⟨rfl, rfl⟩)
        refine HRR.out.mono ?_
        rintro e W3 (⟨rfl, hJ3, hk3⟩ | ⟨rfl, hJx3⟩)
        · have B3 := boxed_step (BN.out ⟨#[]⟩) hk3
          have hc3 := B3.cell
          have M3 : Hid (leftAt b W3 = 0) := Lib.hid (by unfold leftAt; rw [hc3]; rfl)
          have HB3 := Lib.hid B3
          have HJ3 := Lib.hid hJ3
          clear hy B3 hJ3 hk3
          gi_wp2
          go_roundw
          case rel => exact ⟨_, ⟨#[]⟩, Nat.zero_le _, by rw [LC.out, RL.out, show linesL (ByteArray.mk #[]).data.toList = [] from rfl, List.append_nil], HB3.out, HJ3.out⟩
          case measure => rw [M3.out, HM.out]; exact h0
        · clear hy
          gi_wp2
          refine bodyPost_ret (results_none rfl _ _ _) rfl ?_
          exact ⟨⟨_, rfl⟩, .inr hJx3⟩
      · rw [e1] at CI
        rw [len_data] at hk
        obtain ⟨k1, hk1⟩ : ∃ m, k + 1 = m := ⟨_, rfl⟩
        rw [hk1] at e2 e3
        have kk : (k : Int) + 1 = (k1 : Int) := by omega
        have k2 : k1 ≤ S.size := by omega
        have k3 : (0 : Int) ≤ (k : Int) := by omega
        have k4 : wrap64 ((k : Int) + 1) = (k1 : Int) := by rw [i64w (by unfold top; omega) (by unfold top; omega)]; exact kk
        have k5 : decide ((0 : Int) ≤ (k : Int)) = true := decide_eq_true k3
        obtain ⟨X, hX⟩ : ∃ X, S.extract 0 k1 = X := ⟨_, rfl⟩
        obtain ⟨R, hR⟩ : ∃ X, S.extract k1 S.size = X := ⟨_, rfl⟩
        have XL : Hid (X.data.toList = lineH S.data.toList) := Lib.hid (by rw [e2, ← hX, ext_takeS]; simp)
        have RL : Hid (R.data.toList = lineT S.data.toList) := Lib.hid (by rw [e3, ← hR, ext_takeS, List.take_of_length_le (by rw [List.length_drop, len_data]; exact Nat.le_refl _)])
        have RS : Hid (R.size < S.size) := Lib.hid (by have := lineT_lt NE.out; rw [← RL.out, len_data, len_data] at this; exact this)
        have HX : ⟨(lineH S.data.toList).toArray⟩ = X := by rw [← XL.out]
        obtain ⟨fn, tmps, assign, body, hy, hRR⟩ := YL ((wr.setCell ⟨b, 0, none⟩ (.string R)).drew) ⟨rfl, rfl, rfl, (grownBy_setCell' wr b (.string R)).size, (grownBy_setCell' wr b (.string R)).block⟩
        rw [HX] at hy
        have HRR := Lib.hid hRR
        clear HX YL hRR
        clear e1 e2 e3 hk hk1 kk
        gi_wp2_with (refine ⟨trivial, ?_⟩; gi_at_call 54; refine (callsIn_wide.2 CI.out).mono ?_; rintro e w1 ⟨rfl, rfl⟩)
        all_goals try gi_region
        all_goals gi_wp2_with fail
        refine HRR.out.mono ?_
        rintro e W3 (⟨rfl, hJ3, hk3⟩ | ⟨rfl, hJx3⟩)
        · have B3 := boxed_step (BN.out R) hk3
          have hc3 := B3.cell
          have M3 : Hid (leftAt b W3 = R.size) := Lib.hid (by unfold leftAt; rw [hc3])
          have HB3 := Lib.hid B3
          have HJ3 := Lib.hid hJ3
          clear hy B3 hJ3 hk3
          gi_wp2
          go_roundw
          case rel => exact ⟨_, R, by have := RS.out; omega, by rw [LC.out, RL.out, List.append_assoc]; rfl, HB3.out, HJ3.out⟩
          case measure => rw [M3.out, HM.out]; exact RS.out
        · clear hy
          gi_wp2
          refine bodyPost_ret (results_none rfl _ _ _) rfl ?_
          exact ⟨⟨_, rfl⟩, .inr hJx3⟩
    · have hz : S.size = 0 := by omega
      have hd : decide ((0 : Int) < (S.size : Int)) = false := decide_eq_false (by omega)
      have hd2 : decide (0 < S.size) = false := decide_eq_false h0
      have AL : Hid (linesL s.data.toList = pre) := Lib.hid (by
        have : S.data.toList = [] := List.length_eq_zero_iff.1 (by rw [len_data]; exact hz)
        rw [HA.out, this, linesL_nil, List.append_nil])
      gi_wp2
      go_end0
      exact ⟨⟨_, rfl⟩, .inl (by rw [AL.out]; exact HJR.out)⟩
end Go.Proofs.YtomonhghioamfaaGreatDoor
