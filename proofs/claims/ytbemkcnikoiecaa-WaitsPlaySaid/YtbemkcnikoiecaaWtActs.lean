
/- Acts that came in; one call of the program's beside what was made since. -/
import Derived.Test.YtbemkcnikoiecaaWtWaited
import Derived.Deep.Slices
import Derived.DataReads
import Derived.SizedLaws
import Derived.ProofKit
set_option linter.unusedVariables false
set_option linter.unusedSimpArgs false
namespace Go.Proofs.Ytbemkcnikoiecaa
open Go.ChangeShapes Go.WideShapes Go.ChangeAt Go.RowKit Csv Ky Ob Go.Deep
namespace Wt
/-- An act: its kind, key and tick. -/
structure Ac where
  kind : Nat
  o : Int
  d : Int
  n : Int
abbrev tAc : TypeId := 30
def acVals (x : Ac) : List Value := [.int .u8 (x.kind : Int), .int .i64 x.o, .int .i64 x.d, .int .i64 x.n]
def acV (x : Ac) : Value := .agg #[.int .u8 (x.kind : Int), .int .i64 x.o, .int .i64 x.d, .int .i64 x.n]
def acBox (x : Ac) : Obj := .cells #[.int .u8 (x.kind : Int), .int .i64 x.o, .int .i64 x.d, .int .i64 x.n] tAc
theorem ac_box_cells {X : World} {n : Nat} {x : Ac} (hX : X.heap[n]? = some (acBox x)) : X.cell? ⟨n, 0, none⟩ = some (.int .u8 (x.kind : Int)) ∧ X.cell? ⟨n, 1, none⟩ = some (.int .i64 x.o) ∧ X.cell? ⟨n, 2, none⟩ = some (.int .i64 x.d) ∧ X.cell? ⟨n, 3, none⟩ = some (.int .i64 x.n) := by
  simp [World.cell?, hX, acBox]
/-- An act in four cells. -/
def AcAt (w : World) (a : Addr) (x : Ac) : Prop :=
  w.cell? a = some (.int .u8 (x.kind : Int)) ∧ w.cell? ⟨a.block, a.off + 1, none⟩ = some (.int .i64 x.o) ∧ w.cell? ⟨a.block, a.off + 2, none⟩ = some (.int .i64 x.d) ∧ w.cell? ⟨a.block, a.off + 3, none⟩ = some (.int .i64 x.n)
theorem AcAt.keeps {w w' : World} {a : Addr} {x : Ac} (h : AcAt w a x) (k : Keeps w w') : AcAt w' a x :=
  ⟨cell_keeps k h.1, cell_keeps k h.2.1, cell_keeps k h.2.2.1, cell_keeps k h.2.2.2⟩
structure AcOk (x : Ac) : Prop where
  u8 : x.kind < 256
  o : I64 x.o
  d : I64 x.d
  n : I64 x.n
/-- Acts that came in. -/
def AcsAt (w : World) (v : Value) (L : List Ac) : Prop :=
  ∃ p c, v = .slice p L.length c ∧ L.length ≤ maxLen ∧ ∀ j x, L[j]? = some x → AcOk x ∧ ∃ a : Addr, p = some a ∧ AcAt w (a.add (j * 4)) x
theorem AcsAt.keeps {w w' : World} {v : Value} {L : List Ac} (h : AcsAt w v L) (k : Keeps w w') : AcsAt w' v L := by
  obtain ⟨p, c, h1, h2, h3⟩ := h
  refine ⟨p, c, h1, h2, fun j x hx => ?_⟩
  obtain ⟨g, a, ha, hc⟩ := h3 j x hx
  exact ⟨g, a, ha, hc.keeps k⟩
theorem acs_here {wb : World} {pl : Option Addr} {N cl : Nat} {L : List Ac} (HV : ∀ X, Keeps wb X → AcsAt X (.slice pl N cl) L) (hN : L.length = N) {k : Nat} {x : Ac} (hx : L[k]? = some x) : AcOk x ∧ ∃ ad, pl = some ad ∧ ∀ X, Keeps wb X → AcAt X (ad.add (k * 4)) x := by
  obtain ⟨p, c, e, _, h⟩ := HV wb (Keeps.refl _)
  simp only [Value.slice.injEq] at e
  obtain ⟨rfl, _, rfl⟩ := e
  obtain ⟨g, ad, ha, _⟩ := h k x hx
  refine ⟨g, ad, ha, fun X kX => ?_⟩
  obtain ⟨p', c', e', _, h'⟩ := HV X kX
  simp only [Value.slice.injEq] at e'
  obtain ⟨rfl, _, rfl⟩ := e'
  obtain ⟨_, ad', ha', q⟩ := h' k x hx
  rw [ha] at ha'
  cases ha'
  exact q
section
variable {P : WtP} {wb X0 X : World} {b : Nat} {v : Value} {l l' l2 : List W5}
/-- What was made since X0 stays. -/
def Late (X0 X Y : World) : Prop := ∀ i, X0.heap.size ≤ i → i < X.heap.size → Y.heap[i]? = X.heap[i]?
/-- A call of the program's waits, behind others that left them alone. -/
theorem pr_any {f : FuncId} {args : Array Value} {u : Value} (h : Pair P wb X0 b v l l') (k : Keeps X0 X) (c : ∀ F, P.At X b F l → Calls Try.prog f args X fun e w' => e = .returned u ∧ Goes P.At X w' b F l2) :
    Calls Try.prog f args X fun e w' => e = .returned u ∧ Late X0 X w' ∧ Pair P wb w' b v l2 l' := by
  obtain ⟨⟨F, h1, h2⟩, h3, h4⟩ := h
  exact (c F (P.lies.keeps h1 k)).mono fun e w' ⟨g1, g2⟩ => ⟨g1, fun i hi hx => g2.only.same i hx (fun q => by have := P.lies.lt h1 q; omega), pair_goes h2 (rwK.own_keeps h3 k) (h4.trans k) g2⟩
end
variable {H : Type} {enc : TypeId × Value → H} {w : World} {base : Nat} {held : Bool}
theorem wc_u8 : Try.prog.cellsOf 5 = 1 := by kernel_rfl
theorem wc_int : Try.prog.cellsOf 3 = 1 := by kernel_rfl
theorem wc_key : Try.prog.cellsOf 28 = 2 := by kernel_rfl
theorem wc_act : Try.prog.cellsOf tAc = 4 := by kernel_rfl
theorem wlist2 {α : Type} {l : List α} (h : l.length = 2) : ∃ a b, l = [a, b] := by
  match l, h with
  | [a, b], _ => exact ⟨a, b, rfl⟩
theorem wlist4 {α : Type} {l : List α} (h : l.length = 4) : ∃ a b c d, l = [a, b, c, d] := by
  match l, h with
  | [a, b, c, d], _ => exact ⟨a, b, c, d, rfl⟩
theorem wi64_of {n : Int} (h : (Lit.int .i64 n).wf = true) : I64 n := by
  simp [Lit.wf, IntKind.min, IntKind.max, IntKind.signed, IntKind.bits] at h
  unfold I64 top
  omega
theorem wu8_of {n : Int} (h : (Lit.int .u8 n).wf = true) : 0 ≤ n ∧ n ≤ 255 := by
  simp [Lit.wf, IntKind.min, IntKind.max, IntKind.signed, IntKind.bits] at h; omega
/-- The two cells of a key, read. -/
theorem wkey_of {fuel : Nat} {cs : List Value} {x : DataW H × List MemPlace} (h : DataW.trod enc Try.prog w base (fun _ => true) held fuel tKy cs = some x) :
    ∃ o d, cs = [.int .i64 o, .int .i64 d] ∧ I64 o ∧ I64 d := by
  obtain ⟨ys, n, _, _, hlen, hyl, hf⟩ := DataW.trod_struct Try.underlying28 h
  rw [wc_key] at hlen
  obtain ⟨c0, c1, rfl⟩ := wlist2 hlen
  have hys : ys.length = 2 := hyl
  have z0 : DataW.trod enc Try.prog w base (fun _ => true) held n 3 (([c0, c1].drop 0).take (Try.prog.cellsOf 3)) = ys[0]? := hf 0 _ rfl
  have z1 : DataW.trod enc Try.prog w base (fun _ => true) held n 3 (([c0, c1].drop 1).take (Try.prog.cellsOf 3)) = ys[1]? := hf 1 _ rfl
  simp only [wc_int, List.drop_zero, List.take_succ_cons, List.take_zero, List.drop_succ_cons] at z0 z1
  obtain ⟨u0, eu0⟩ : ∃ y, ys[0]? = some y := ⟨_, List.getElem?_eq_getElem (by omega)⟩
  obtain ⟨u1, eu1⟩ : ∃ y, ys[1]? = some y := ⟨_, List.getElem?_eq_getElem (by omega)⟩
  rw [eu0] at z0
  rw [eu1] at z1
  obtain ⟨j0, qj0, _, wj0⟩ := DataW.trod_int Try.underlying3 z0
  obtain ⟨j1, qj1, _, wj1⟩ := DataW.trod_int Try.underlying3 z1
  obtain rfl := (List.cons.inj qj0).1
  obtain rfl := (List.cons.inj qj1).1
  exact ⟨j0, j1, rfl, wi64_of wj0, wi64_of wj1⟩
set_option maxRecDepth 100000 in
/-- The four cells of an act, read. -/
theorem wact_of {fuel : Nat} {cs : List Value} {x : DataW H × List MemPlace} (h : DataW.trod enc Try.prog w base (fun _ => true) held fuel tAc cs = some x) :
    ∃ a : Ac, cs = acVals a ∧ AcOk a := by
  obtain ⟨ys, n, _, _, hlen, hyl, hf⟩ := DataW.trod_struct Try.underlying30 h
  rw [wc_act] at hlen
  obtain ⟨c0, c1, c2, c3, rfl⟩ := wlist4 hlen
  have hys : ys.length = 3 := hyl
  have g : ∀ i, i < 3 → ∃ y, ys[i]? = some y := fun i hi => ⟨_, List.getElem?_eq_getElem (by omega)⟩
  have f0 : DataW.trod enc Try.prog w base (fun _ => true) held n 5 (([c0, c1, c2, c3].drop 0).take (Try.prog.cellsOf 5)) = ys[0]? := hf 0 _ rfl
  have f1 : DataW.trod enc Try.prog w base (fun _ => true) held n 28 (([c0, c1, c2, c3].drop 1).take (Try.prog.cellsOf 28)) = ys[1]? := hf 1 _ rfl
  have f2 : DataW.trod enc Try.prog w base (fun _ => true) held n 3 (([c0, c1, c2, c3].drop 3).take (Try.prog.cellsOf 3)) = ys[2]? := hf 2 _ rfl
  simp only [wc_u8, wc_int, wc_key, List.drop_zero, List.take_succ_cons, List.take_zero, List.drop_succ_cons] at f0 f1 f2
  obtain ⟨y0, e0⟩ := g 0 (by omega)
  obtain ⟨y1, e1⟩ := g 1 (by omega)
  obtain ⟨y2, e2⟩ := g 2 (by omega)
  rw [e0] at f0
  rw [e1] at f1
  rw [e2] at f2
  obtain ⟨k, q0, _, w0⟩ := DataW.trod_int Try.underlying5 f0
  obtain ⟨o, d, q1, ho, hd⟩ := wkey_of f1
  obtain ⟨n2, q2, _, w2⟩ := DataW.trod_int Try.underlying3 f2
  obtain rfl := (List.cons.inj q0).1
  obtain rfl := (List.cons.inj q2).1
  simp only [List.cons.injEq] at q1
  obtain ⟨rfl, rfl, _⟩ := q1
  obtain ⟨k', rfl⟩ : ∃ k' : Nat, k = k' := ⟨k.toNat, by have := wu8_of w0; omega⟩
  have wk := wu8_of w0
  exact ⟨⟨k', o, d, n2⟩, rfl, ⟨by show k' < 256; omega, ho, hd, wi64_of w2⟩⟩
set_option maxRecDepth 100000 in
/-- An act, a key, by value. -/
theorem open_wact {r : Reach} {b0 : Nat} {v : Value} {d : DataW H} {ps : List MemPlace} (hv : Value.okWide Try.prog w r b0 tAc v) (h : DataW.Trod enc Try.prog w base (fun _ => true) held tAc v d ps) :
    ∃ a : Ac, v = acV a ∧ AcOk a ∧ True := by
  obtain ⟨cs, rfl, _⟩ := okWide_struct Try.underlying30 hv
  obtain ⟨fuel, h⟩ := h
  obtain ⟨a, h1, h2⟩ := wact_of h
  have e : cs = (acVals a).toArray := by
    have h1' : cs.toList = acVals a := h1
    rw [← h1']
  exact ⟨a, by rw [e]; rfl, h2, trivial⟩
set_option maxRecDepth 100000 in
theorem open_wkey {r : Reach} {b0 : Nat} {v : Value} {d : DataW H} {ps : List MemPlace} (hv : Value.okWide Try.prog w r b0 tKy v) (h : DataW.Trod enc Try.prog w base (fun _ => true) held tKy v d ps) :
    ∃ x : Int × Int, v = kyV x.1 x.2 ∧ I64 x.1 ∧ I64 x.2 := by
  obtain ⟨cs, rfl, _⟩ := okWide_struct Try.underlying28 hv
  obtain ⟨fuel, h⟩ := h
  obtain ⟨o, d, h1, h2, h3⟩ := wkey_of h
  have e : cs = [Value.int .i64 o, Value.int .i64 d].toArray := by
    have h1' : cs.toList = [Value.int .i64 o, Value.int .i64 d] := h1
    rw [← h1']
  exact ⟨(o, d), by rw [e]; rfl, h2, h3⟩
theorem open_wacts {p : Option Addr} {n c : Nat} {v : Value} {d : DataW H} {ps : List MemPlace} (e : v = .slice p n c) (h : DataW.Trod enc Try.prog w base (fun _ => true) held 22 v d ps) : ∃ L : List Ac, AcsAt w v L := by
  obtain ⟨fuel, h⟩ := h
  subst e
  rcases open_slice Try.underlying22 h with ⟨hcs, _⟩ | ⟨a, len, cap, m, n', D, Pl, hcs, _, hl, hm, hz, _, hi⟩
  · rw [(List.cons.inj hcs).1]
    exact ⟨[], none, 0, rfl, by simp [maxLen], fun j x hx => by simp at hx⟩
  · rw [(List.cons.inj hcs).1]
    simp only [if_true] at hz
    have key : ∀ i, i < len → ∃ x : Ac, AcOk x ∧ AcAt w (a.add (i * 4)) x := by
      intro i hil
      obtain ⟨cs', h1, h2⟩ := hi i (by omega)
      rw [wc_act] at h1
      obtain ⟨x, rfl, hg⟩ := wact_of h2
      obtain ⟨_, _, hat⟩ := World.cells?_some h1
      have c : ∀ j, 0 < j → j < 4 → w.cell? ⟨(a.add (i * 4)).block, (a.add (i * 4)).off + j, none⟩ = (acVals x)[j]? := fun j h0 hj => by
        rw [← hat j hj]
        congr 1
        unfold Addr.add
        rw [if_neg (by omega : ¬ j = 0)]
      refine ⟨x, hg, ?_, c 1 (by omega) (by omega), c 2 (by omega) (by omega), c 3 (by omega) (by omega)⟩
      have h0 := hat 0 (by omega)
      have e : (a.add (i * 4)).add 0 = a.add (i * 4) := rfl
      rw [e] at h0
      exact h0
    refine ⟨(List.range len).pmap (fun i hi => (key i hi).choose) (fun i hi => List.mem_range.1 hi), some a, cap, ?_, ?_, fun j x hx => ?_⟩
    · simp
    · simp; omega
    · rw [List.getElem?_pmap] at hx
      by_cases hj : j < len
      · simp only [List.getElem?_range hj, Option.pmap_some, Option.some.injEq] at hx
        subst hx
        exact ⟨(key j hj).choose_spec.1, a, rfl, (key j hj).choose_spec.2⟩
      · have : (List.range len)[j]? = none := List.getElem?_eq_none (by simp; omega)
        simp [this] at hx
end Wt
end Go.Proofs.Ytbemkcnikoiecaa
