
/- A law's row over listed variables, the shape of the world kept. What the program's table of parties holds when a call begins. Rows, and statements, that come in. -/
import Derived.Test.YtkffpmeocfhcpaaDoorArith
import Derived.HandedShaped
import Derived.Test.YtkffpmeocfhcpaaDoorRows
import Derived.Test.YtkffpmeocfhcpaaDoorKyCP
import Derived.LaidSub
import Derived.LaidMore
import Derived.ProofKit
import Derived.OpenShut
import Derived.Lib.SmallJoins
import Derived.Test.YtkffpmeocfhcpaaDoorRwMem
import Derived.Deep.Slices
import Derived.DataReads
set_option linter.unusedVariables false
namespace Go.Proofs.YtkffpmeocfhcpaaDoor
open Go
variable {H : Type} {enc : TypeId × Value → H}

/-- What is listed, the sizes and the world's shape, all three handed to the walk. -/
theorem lift_laid {a : Assume} {C : Checked} {os : Os} {f : FuncId} {fn : Func} {s : ChangeSpec} {conds : List PathCond} {apart fresh handsOn again : Bool} {X : World → Array Value → Prop}
    (own : ownKnob C.prog.godebug = none) (started : os.Started) (noInit : C.prog.inits.idxOf? f = none) (hfn : C.prog.funcs[f]? = some fn)
    (witness : ∃ (w : World) (tape : Tape) (i : Input), w.os = os ∧ (w.forCall tape i).Shaped C.prog ∧ i.vars = [] ∧ Input.okWide C.prog (w.forCall tape i) .any w.heap.size f i ∧
      ((s.pre enc C.prog fn conds apart (w.forCall tape i).memory i.args ∧ X (w.forCall tape i).memory i.args) ∧ sizedMet enc C.prog fn (OpenSpec.ofChange s) apart (w.forCall tape i).memory i.args) ∧ a.holds C.prog (lone (Frame.enter C.prog f i.args .normal) [] (w.forCall tape i)))
    (contract : ∀ (W : World) (base : Nat) (args : Array Value) (ds gs : List (DataW H)) (before : List MemPlace),
      (∀ (j : Nat) t v, fn.params[j]? = some t → args[j]? = some v → Value.okWide C.prog W .any base t v) →
      DataW.Whole enc C.prog fn.params.toList s.vars apart W args.toList ds gs before →
      (DataW.weightsEach C.prog (fn.params.toList ++ s.plain.varTypes C.prog) (ds ++ gs)).all (· ≤ reachBytes) = true → W.ShapedOpen C.prog →
      Calls C.prog f args W fun e W' => ∃ v, e = .returned v ∧ s.post enc C.prog fn apart fresh handsOn again W args v W') :
    ReturnsInHanded a C os f .any (fun w args => (s.pre enc C.prog fn conds apart w args ∧ X w args) ∧ sizedMet enc C.prog fn (OpenSpec.ofChange s) apart w args) (s.post enc C.prog fn apart fresh handsOn again) := by
  refine returnsInHanded_of_calls own started noInit witness ?_
  intro w tape i _ hsh _ hok hpre hholds
  obtain ⟨_, _, _, fn', hfn', _, _, _, _, hval⟩ := hok
  have e : fn' = fn := Option.some.inj (hfn'.symm.trans hfn)
  subst e
  obtain ⟨⟨⟨ds, gs, before, hw, hc⟩, hx⟩, hz⟩ := hpre
  have hw' := DataW.Whole.of_heap (w' := w.forCall tape i) (by rfl) hw
  refine (contract (w.forCall tape i) w.heap.size i.args ds gs before hval hw' (hz.weights hw) hsh).mono fun e W' ⟨v, he, hp⟩ => ?_
  subst he
  exact ChangeSpec.post_blind hp
/-- As above; the walk is handed, too, what is asked besides (of a world with that heap). -/
theorem lift_held {a : Assume} {C : Checked} {os : Os} {f : FuncId} {fn : Func} {s : ChangeSpec} {conds : List PathCond} {apart fresh handsOn again : Bool} {X : World → Array Value → Prop}
    (own : ownKnob C.prog.godebug = none) (started : os.Started) (noInit : C.prog.inits.idxOf? f = none) (hfn : C.prog.funcs[f]? = some fn)
    (witness : ∃ (w : World) (tape : Tape) (i : Input), w.os = os ∧ (w.forCall tape i).Shaped C.prog ∧ i.vars = [] ∧ Input.okWide C.prog (w.forCall tape i) .any w.heap.size f i ∧
      ((s.pre enc C.prog fn conds apart (w.forCall tape i).memory i.args ∧ X (w.forCall tape i).memory i.args) ∧ sizedMet enc C.prog fn (OpenSpec.ofChange s) apart (w.forCall tape i).memory i.args) ∧ a.holds C.prog (lone (Frame.enter C.prog f i.args .normal) [] (w.forCall tape i)))
    (contract : ∀ (W : World) (base : Nat) (args : Array Value) (ds gs : List (DataW H)) (before : List MemPlace),
      (∀ (j : Nat) t v, fn.params[j]? = some t → args[j]? = some v → Value.okWide C.prog W .any base t v) →
      DataW.Whole enc C.prog fn.params.toList s.vars apart W args.toList ds gs before →
      (DataW.weightsEach C.prog (fn.params.toList ++ s.plain.varTypes C.prog) (ds ++ gs)).all (· ≤ reachBytes) = true → W.ShapedOpen C.prog → (∃ w0 : World, w0.heap = W.heap ∧ X w0 args) →
      Calls C.prog f args W fun e W' => ∃ v, e = .returned v ∧ s.post enc C.prog fn apart fresh handsOn again W args v W') :
    ReturnsInHanded a C os f .any (fun w args => (s.pre enc C.prog fn conds apart w args ∧ X w args) ∧ sizedMet enc C.prog fn (OpenSpec.ofChange s) apart w args) (s.post enc C.prog fn apart fresh handsOn again) := by
  refine returnsInHanded_of_calls own started noInit witness ?_
  intro w tape i _ hsh _ hok hpre hholds
  obtain ⟨_, _, _, fn', hfn', _, _, _, _, hval⟩ := hok
  have e : fn' = fn := Option.some.inj (hfn'.symm.trans hfn)
  subst e
  obtain ⟨⟨⟨ds, gs, before, hw, hc⟩, hx⟩, hz⟩ := hpre
  have hw' := DataW.Whole.of_heap (w' := w.forCall tape i) (by rfl) hw
  refine (contract (w.forCall tape i) w.heap.size i.args ds gs before hval hw' (hz.weights hw) hsh ⟨_, by rfl, hx⟩).mono fun e W' ⟨v, he, hp⟩ => ?_
  subst he
  exact ChangeSpec.post_blind hp
end Go.Proofs.YtkffpmeocfhcpaaDoor
namespace Go.Proofs.YtkffpmeocfhcpaaDoor
open Go.ChangeShapes Go.WideShapes Go.ChangeAt Go.RowKit Mon Ky
variable {H : Type} {enc : TypeId × Value → H} {w : World} {base : Nat} {held : Bool} {sp : Nat → Bool}

theorem hasP_of {W : World} {l : List (String × DataW Unit)} (h : laidMetH Tryd.prog l W) (hf : l.filter (fun p => p.1 == "consignor/keys.parties") = [("consignor/keys.parties", Rows.laid_consignor_keys_parties)]) : HasP W := by
  have h := h.filter fun p => p.1 == "consignor/keys.parties"
  rw [hf, MakeChecks.laidMetH_plain _ _ _ (by kernel_rfl)] at h
  obtain ⟨ps, ⟨g, t, cs, fuel, p, q, hg, ht, hv, hd, _, _⟩, _, _⟩ := h
  obtain rfl := Option.some.inj ((show Tryd.prog.globalNamed "consignor/keys.parties" = some 0 by kernel_rfl).symm.trans hg)
  obtain rfl := Option.some.inj ((show (Tryd.prog.globals[0]?).map (·.type) = some 122 by kernel_rfl).symm.trans ht)
  obtain ⟨xs, m, _, ex, _, hl, hel⟩ := DataW.trod_array Tryd.underlying122 hd
  have c5 : Tryd.prog.cellsOf 3 = 1 := by kernel_rfl
  intro d hd6
  have hE := hel d hd6
  rw [c5, Nat.mul_one, List.getElem?_eq_getElem (by omega)] at hE
  obtain ⟨z, e1, e2, _⟩ := DataW.trod_int Tryd.underlying3 hE
  have e3 : (xs.map (·.1)) = [.lit (.int .i64 1), .lit (.int .i64 0), .lit (.int .i64 2), .lit (.int .i64 1), .lit (.int .i64 0), .lit (.int .i64 2)] := (DataW.agg.inj (Prod.mk.inj ex).1).symm
  have e4 : (xs.map (·.1))[d]? = some (.lit (.int .i64 z)) := by
    rw [List.getElem?_map, List.getElem?_eq_getElem (by omega : d < xs.length)]
    simp [e2]
  rw [e3] at e4
  have hz : z = partyK d := by
    obtain rfl | rfl | rfl | rfl | rfl | rfl : d = 0 ∨ d = 1 ∨ d = 2 ∨ d = 3 ∨ d = 4 ∨ d = 5 := by omega
    all_goals (simp at e4; rw [← e4]; rfl)
  rw [World.var?_cell hg hv d, ← hz]
  have h0 : ((cs.toList.drop d).take 1)[0]? = some (.int .i64 z) := by rw [e1]; rfl
  simpa using h0
theorem hasP_heap {w W : World} (e : w.heap = W.heap) (h : HasP w) : HasP W := fun d hd => by
  have := h d hd
  unfold World.cell? at this ⊢
  rw [← e]; exact this
theorem hasPW_of {W : World} {l : List (String × DataW Unit)} (hx : ∃ w0 : World, w0.heap = W.heap ∧ laidMetH Tryd.prog l w0) (hf : l.filter (fun p => p.1 == "consignor/keys.parties") = [("consignor/keys.parties", Rows.laid_consignor_keys_parties)]) : HasP W := by
  obtain ⟨w0, e, h⟩ := hx
  exact hasP_heap e (hasP_of h hf)
end Go.Proofs.YtkffpmeocfhcpaaDoor
namespace Go.Proofs.YtkffpmeocfhcpaaDoor
open Go.ChangeShapes Go.WideShapes Go.ChangeAt Go.RowKit Csv Go.Deep Ky Rw
variable {H : Type} {enc : TypeId × Value → H} {w : World} {base : Nat} {held : Bool}

theorem sc_int : Tryd.prog.cellsOf 3 = 1 := by kernel_rfl
theorem sc_i64 : Tryd.prog.cellsOf 2 = 1 := by kernel_rfl
theorem sc_key : Tryd.prog.cellsOf 33 = 2 := by kernel_rfl
theorem sc_row : Tryd.prog.cellsOf tRw = 5 := by kernel_rfl
theorem sc_rows : Tryd.prog.cellsOf tRs = 1 := by kernel_rfl
theorem sc_st : Tryd.prog.cellsOf tSt = 3 := by kernel_rfl
theorem sl5 {α : Type} {l : List α} (h : l.length = 5) : ∃ a b c d e, l = [a, b, c, d, e] := by
  match l, h with
  | [a, b, c, d, e], _ => exact ⟨a, b, c, d, e, rfl⟩
theorem sl3 {α : Type} {l : List α} (h : l.length = 3) : ∃ a b c, l = [a, b, c] := by
  match l, h with
  | [a, b, c], _ => exact ⟨a, b, c, rfl⟩
/-- The five cells of a row, read. -/
theorem row_of {fuel : Nat} {cs : List Value} {x : DataW H × List MemPlace} (h : DataW.trod enc Tryd.prog w base (fun _ => true) held fuel tRw cs = some x) : ∃ a : R, cs = rwVals a := by
  obtain ⟨ys, n, _, _, hlen, hyl, hf⟩ := DataW.trod_struct Tryd.underlying45 h
  rw [sc_row] at hlen
  obtain ⟨c0, c1, c2, c3, c4, rfl⟩ := sl5 hlen
  have hys : ys.length = 4 := hyl
  have g : ∀ i, i < 4 → ∃ y, ys[i]? = some y := fun i hi => ⟨_, List.getElem?_eq_getElem (by omega)⟩
  have f0 : DataW.trod enc Tryd.prog w base (fun _ => true) held n 33 (([c0, c1, c2, c3, c4].drop 0).take (Tryd.prog.cellsOf 33)) = ys[0]? := hf 0 _ rfl
  have f1 : DataW.trod enc Tryd.prog w base (fun _ => true) held n 3 (([c0, c1, c2, c3, c4].drop 2).take (Tryd.prog.cellsOf 3)) = ys[1]? := hf 1 _ rfl
  have f2 : DataW.trod enc Tryd.prog w base (fun _ => true) held n 2 (([c0, c1, c2, c3, c4].drop 3).take (Tryd.prog.cellsOf 2)) = ys[2]? := hf 2 _ rfl
  have f3 : DataW.trod enc Tryd.prog w base (fun _ => true) held n 3 (([c0, c1, c2, c3, c4].drop 4).take (Tryd.prog.cellsOf 3)) = ys[3]? := hf 3 _ rfl
  simp only [sc_int, sc_i64, sc_key, List.drop_zero, List.take_succ_cons, List.take_zero, List.drop_succ_cons] at f0 f1 f2 f3
  obtain ⟨y0, e0⟩ := g 0 (by omega)
  obtain ⟨y1, e1⟩ := g 1 (by omega)
  obtain ⟨y2, e2⟩ := g 2 (by omega)
  obtain ⟨y3, e3⟩ := g 3 (by omega)
  rw [e0] at f0
  rw [e1] at f1
  rw [e2] at f2
  rw [e3] at f3
  obtain ⟨zs, m, _, _, _, hzl, hz⟩ := DataW.trod_struct Tryd.underlying33 f0
  have hzs : zs.length = 2 := hzl
  have z0 : DataW.trod enc Tryd.prog w base (fun _ => true) held m 3 (([c0, c1].drop 0).take (Tryd.prog.cellsOf 3)) = zs[0]? := hz 0 _ rfl
  have z1 : DataW.trod enc Tryd.prog w base (fun _ => true) held m 3 (([c0, c1].drop 1).take (Tryd.prog.cellsOf 3)) = zs[1]? := hz 1 _ rfl
  simp only [sc_int, List.drop_zero, List.take_succ_cons, List.take_zero, List.drop_succ_cons] at z0 z1
  obtain ⟨u0, eu0⟩ : ∃ y, zs[0]? = some y := ⟨_, List.getElem?_eq_getElem (by omega)⟩
  obtain ⟨u1, eu1⟩ : ∃ y, zs[1]? = some y := ⟨_, List.getElem?_eq_getElem (by omega)⟩
  rw [eu0] at z0
  rw [eu1] at z1
  obtain ⟨j0, qj0, _, _⟩ := DataW.trod_int Tryd.underlying3 z0
  obtain ⟨j1, qj1, _, _⟩ := DataW.trod_int Tryd.underlying3 z1
  obtain ⟨k1, q1, _, _⟩ := DataW.trod_int Tryd.underlying3 f1
  obtain ⟨k2, q2, _, _⟩ := DataW.trod_int Tryd.underlying2 f2
  obtain ⟨k3, q3, _, _⟩ := DataW.trod_int Tryd.underlying3 f3
  obtain rfl := (List.cons.inj qj0).1
  obtain rfl := (List.cons.inj qj1).1
  obtain rfl := (List.cons.inj q1).1
  obtain rfl := (List.cons.inj q2).1
  obtain rfl := (List.cons.inj q3).1
  exact ⟨⟨j0, j1, k1, k2, k3⟩, rfl⟩
theorem rows_of {fuel : Nat} {v : Value} {x : DataW H × List MemPlace} (h : DataW.trod enc Tryd.prog w base (fun _ => true) held fuel tRs [v] = some x) : ∃ L : List R, RowsIn w v L := by
  rcases open_slice Tryd.underlying38 h with ⟨hcs, _⟩ | ⟨a, len, cap, m, n', D, Pl, hcs, _, hl, hm, hz, _, hi⟩
  · rw [(List.cons.inj hcs).1]
    exact ⟨[], rows_nil w⟩
  · rw [(List.cons.inj hcs).1]
    simp only [if_true] at hz
    have key : ∀ i, i < len → ∃ x : R, RowAt w (a.add (i * 5)) x := by
      intro i hil
      obtain ⟨cs', h1, h2⟩ := hi i (by omega)
      rw [sc_row] at h1
      obtain ⟨x, rfl⟩ := row_of h2
      obtain ⟨_, _, hat⟩ := World.cells?_some h1
      have far : ∀ k, 0 < k → (a.add (i * 5)).add k = ⟨(a.add (i * 5)).block, (a.add (i * 5)).off + k, none⟩ := fun k hk => by
        unfold Addr.add
        rw [if_neg (by omega : ¬ k = 0)]
      refine ⟨x, ?_, ?_, ?_, ?_, ?_⟩
      · have h0 := hat 0 (by decide)
        have e : (a.add (i * 5)).add 0 = a.add (i * 5) := rfl
        rw [e] at h0
        exact h0
      · have h0 := hat 1 (by decide)
        rw [far 1 (by omega)] at h0
        exact h0
      · have h0 := hat 2 (by decide)
        rw [far 2 (by omega)] at h0
        exact h0
      · have h0 := hat 3 (by decide)
        rw [far 3 (by omega)] at h0
        exact h0
      · have h0 := hat 4 (by decide)
        rw [far 4 (by omega)] at h0
        exact h0
    have hall : ∃ L : List R, L.length = len ∧ ∀ j x, L[j]? = some x → RowAt w (a.add (j * 5)) x := by
      refine ⟨(List.range len).map fun i => if hi : i < len then (key i hi).choose else ⟨0, 0, 0, 0, 0⟩, by simp, fun j x hx => ?_⟩
      rw [List.getElem?_map] at hx
      have hj : j < len := by
        rcases Nat.lt_or_ge j len with h | h
        · exact h
        · rw [List.getElem?_eq_none (by simpa using h)] at hx
          cases hx
      rw [List.getElem?_range hj] at hx
      simp only [Option.map_some, hj, dif_pos, Option.some.injEq] at hx
      rw [← hx]
      exact (key j hj).choose_spec
    obtain ⟨L, hL, hR⟩ := hall
    exact ⟨L, some a, cap, by rw [hL], by omega, ⟨by omega, fun e => by cases e⟩, fun j x hx => ⟨a, rfl, hR j x hx⟩⟩
theorem open_rows_in {p : Option Addr} {n c : Nat} {v : Value} {d : DataW H} {ps : List MemPlace} (e : v = .slice p n c) (h : DataW.Trod enc Tryd.prog w base (fun _ => true) held tRs v d ps) : ∃ L : List R, RowsIn w v L := by
  obtain ⟨fuel, h⟩ := h
  subst e
  exact rows_of h
set_option maxRecDepth 100000 in
theorem open_stmt {r : Reach} {b0 : Nat} {v : Value} {d : DataW H} {ps : List MemPlace} (hv : Value.okWide Tryd.prog w r b0 tSt v) (h : DataW.Trod enc Tryd.prog w base (fun _ => true) held tSt v d ps) :
    ∃ p s u L, v = stV p s u ∧ RowsIn w u L := by
  obtain ⟨cs, rfl, hsz⟩ := okWide_struct Tryd.underlying48 hv
  obtain ⟨fuel, hf0⟩ := h
  obtain ⟨ys, n, _, _, hlen, hyl, hf⟩ := DataW.trod_struct Tryd.underlying48 hf0
  have hlen2 : cs.toList.length = 3 := by rw [Array.length_toList, hsz]; exact sc_st
  obtain ⟨c0, c1, c2, hcs⟩ := sl3 hlen2
  obtain rfl : cs = #[c0, c1, c2] := by rw [← Array.toArray_toList (xs := cs), hcs]
  have hys : ys.length = 3 := hyl
  have g : ∀ i, i < 3 → ∃ y, ys[i]? = some y := fun i hi => ⟨_, List.getElem?_eq_getElem (by omega)⟩
  have f0 : DataW.trod enc Tryd.prog w base (fun _ => true) held n 3 (([c0, c1, c2].drop 0).take (Tryd.prog.cellsOf 3)) = ys[0]? := hf 0 _ rfl
  have f1 : DataW.trod enc Tryd.prog w base (fun _ => true) held n 3 (([c0, c1, c2].drop 1).take (Tryd.prog.cellsOf 3)) = ys[1]? := hf 1 _ rfl
  have f2 : DataW.trod enc Tryd.prog w base (fun _ => true) held n tRs (([c0, c1, c2].drop 2).take (Tryd.prog.cellsOf tRs)) = ys[2]? := hf 2 _ rfl
  simp only [sc_int, sc_rows, List.drop_zero, List.take_succ_cons, List.take_zero, List.drop_succ_cons] at f0 f1 f2
  obtain ⟨y0, e0⟩ := g 0 (by omega)
  obtain ⟨y1, e1⟩ := g 1 (by omega)
  obtain ⟨y2, e2⟩ := g 2 (by omega)
  rw [e0] at f0
  rw [e1] at f1
  rw [e2] at f2
  obtain ⟨k0, q0, _, _⟩ := DataW.trod_int Tryd.underlying3 f0
  obtain ⟨k1, q1, _, _⟩ := DataW.trod_int Tryd.underlying3 f1
  obtain ⟨L, hL⟩ := rows_of f2
  obtain rfl := (List.cons.inj q0).1
  obtain rfl := (List.cons.inj q1).1
  exact ⟨k0, k1, c2, L, rfl, hL⟩
end Go.Proofs.YtkffpmeocfhcpaaDoor
