/- Acts that came in, opened. -/
import Derived.Test.YtajphjlfefhajaaNtGreat
import Derived.Deep.Slices
import Derived.DataReads
import Derived.SizedLaws
import Derived.ProofKit
set_option linter.unusedVariables false
namespace Go.Proofs.Ytajphjlfefhajaa
open Go.ChangeShapes Go.WideShapes Go.ChangeAt Go.RowKit Csv Go.Deep
namespace Nt
variable {H : Type} {enc : TypeId × Value → H} {w : World} {base : Nat} {held : Bool}
theorem nc_u8 : Try.prog.cellsOf 5 = 1 := by kernel_rfl
theorem nc_int : Try.prog.cellsOf 3 = 1 := by kernel_rfl
theorem nc_i64 : Try.prog.cellsOf 2 = 1 := by kernel_rfl
theorem nc_str : Try.prog.cellsOf 9 = 1 := by kernel_rfl
theorem nc_key : Try.prog.cellsOf 33 = 2 := by kernel_rfl
theorem nc_msg : Try.prog.cellsOf 35 = 7 := by kernel_rfl
theorem nc_act : Try.prog.cellsOf tAc = 10 := by kernel_rfl
theorem nlist7 {α : Type} {l : List α} (h : l.length = 7) : ∃ a b c d e f g, l = [a, b, c, d, e, f, g] := by
  match l, h with
  | [a, b, c, d, e, f, g], _ => exact ⟨a, b, c, d, e, f, g, rfl⟩
theorem nlist10 {α : Type} {l : List α} (h : l.length = 10) : ∃ a b c d e f g i j k, l = [a, b, c, d, e, f, g, i, j, k] := by
  match l, h with
  | [a, b, c, d, e, f, g, i, j, k], _ => exact ⟨a, b, c, d, e, f, g, i, j, k, rfl⟩
theorem ni64_of {n : Int} (h : (Lit.int .i64 n).wf = true) : I64 n := by
  simp [Lit.wf, IntKind.min, IntKind.max, IntKind.signed, IntKind.bits] at h
  unfold I64 top
  omega
theorem nu8_of {n : Int} (h : (Lit.int .u8 n).wf = true) : 0 ≤ n ∧ n ≤ 255 := by
  simp [Lit.wf, IntKind.min, IntKind.max, IntKind.signed, IntKind.bits] at h; omega
set_option maxRecDepth 100000 in
/-- The seven cells of a message, read. -/
theorem nmsg_of {fuel : Nat} {cs : List Value} {x : DataW H × List MemPlace} (h : DataW.trod enc Try.prog w base (fun _ => true) held fuel tMg cs = some x) :
    ∃ m : Mg, cs = mgVals m ∧ m.s.size ≤ maxLen := by
  obtain ⟨ys, n, _, _, hlen, hyl, hf⟩ := DataW.trod_struct Try.underlying35 h
  rw [nc_msg] at hlen
  obtain ⟨c0, c1, c2, c3, c4, c5, c6, rfl⟩ := nlist7 hlen
  have hys : ys.length = 6 := hyl
  have g : ∀ i, i < 6 → ∃ y, ys[i]? = some y := fun i hi => ⟨_, List.getElem?_eq_getElem (by omega)⟩
  have f0 : DataW.trod enc Try.prog w base (fun _ => true) held n 3 (([c0, c1, c2, c3, c4, c5, c6].drop 0).take (Try.prog.cellsOf 3)) = ys[0]? := hf 0 _ rfl
  have f1 : DataW.trod enc Try.prog w base (fun _ => true) held n 33 (([c0, c1, c2, c3, c4, c5, c6].drop 1).take (Try.prog.cellsOf 33)) = ys[1]? := hf 1 _ rfl
  have f2 : DataW.trod enc Try.prog w base (fun _ => true) held n 9 (([c0, c1, c2, c3, c4, c5, c6].drop 3).take (Try.prog.cellsOf 9)) = ys[2]? := hf 2 _ rfl
  have f3 : DataW.trod enc Try.prog w base (fun _ => true) held n 3 (([c0, c1, c2, c3, c4, c5, c6].drop 4).take (Try.prog.cellsOf 3)) = ys[3]? := hf 3 _ rfl
  have f4 : DataW.trod enc Try.prog w base (fun _ => true) held n 2 (([c0, c1, c2, c3, c4, c5, c6].drop 5).take (Try.prog.cellsOf 2)) = ys[4]? := hf 4 _ rfl
  have f5 : DataW.trod enc Try.prog w base (fun _ => true) held n 3 (([c0, c1, c2, c3, c4, c5, c6].drop 6).take (Try.prog.cellsOf 3)) = ys[5]? := hf 5 _ rfl
  simp only [nc_int, nc_str, nc_i64, nc_key, List.drop_zero, List.take_succ_cons, List.take_zero, List.drop_succ_cons] at f0 f1 f2 f3 f4 f5
  obtain ⟨y0, e0⟩ := g 0 (by omega)
  obtain ⟨y1, e1⟩ := g 1 (by omega)
  obtain ⟨y2, e2⟩ := g 2 (by omega)
  obtain ⟨y3, e3⟩ := g 3 (by omega)
  obtain ⟨y4, e4⟩ := g 4 (by omega)
  obtain ⟨y5, e5⟩ := g 5 (by omega)
  rw [e0] at f0
  rw [e1] at f1
  rw [e2] at f2
  rw [e3] at f3
  rw [e4] at f4
  rw [e5] at f5
  obtain ⟨k0, q0, _, w0⟩ := DataW.trod_int Try.underlying3 f0
  obtain ⟨zs, m, _, _, _, hzl, hz⟩ := DataW.trod_struct Try.underlying33 f1
  have hzs : zs.length = 2 := hzl
  have z0 : DataW.trod enc Try.prog w base (fun _ => true) held m 3 (([c1, c2].drop 0).take (Try.prog.cellsOf 3)) = zs[0]? := hz 0 _ rfl
  have z1 : DataW.trod enc Try.prog w base (fun _ => true) held m 3 (([c1, c2].drop 1).take (Try.prog.cellsOf 3)) = zs[1]? := hz 1 _ rfl
  simp only [nc_int, List.drop_zero, List.take_succ_cons, List.take_zero, List.drop_succ_cons] at z0 z1
  obtain ⟨u0, eu0⟩ : ∃ y, zs[0]? = some y := ⟨_, List.getElem?_eq_getElem (by omega)⟩
  obtain ⟨u1, eu1⟩ : ∃ y, zs[1]? = some y := ⟨_, List.getElem?_eq_getElem (by omega)⟩
  rw [eu0] at z0
  rw [eu1] at z1
  obtain ⟨j0, qj0, _, wj0⟩ := DataW.trod_int Try.underlying3 z0
  obtain ⟨j1, qj1, _, wj1⟩ := DataW.trod_int Try.underlying3 z1
  obtain ⟨k2, q2, _, w2⟩ := DataW.trod_string Try.underlying9 f2
  obtain ⟨k3, q3, _, w3⟩ := DataW.trod_int Try.underlying3 f3
  obtain ⟨k4, q4, _, w4⟩ := DataW.trod_int Try.underlying2 f4
  obtain ⟨k5, q5, _, w5⟩ := DataW.trod_int Try.underlying3 f5
  obtain rfl := (List.cons.inj q0).1
  obtain rfl := (List.cons.inj qj0).1
  obtain rfl := (List.cons.inj qj1).1
  obtain rfl := (List.cons.inj q2).1
  obtain rfl := (List.cons.inj q3).1
  obtain rfl := (List.cons.inj q4).1
  obtain rfl := (List.cons.inj q5).1
  exact ⟨⟨k0, j0, j1, k2, k3, k4, k5⟩, rfl, w2⟩
set_option maxRecDepth 100000 in
/-- The ten cells of an act, read. -/
theorem nact_of {fuel : Nat} {cs : List Value} {x : DataW H × List MemPlace} (h : DataW.trod enc Try.prog w base (fun _ => true) held fuel tAc cs = some x) :
    ∃ a : Ac, cs = acVals a ∧ AcOk a := by
  obtain ⟨ys, n, _, _, hlen, hyl, hf⟩ := DataW.trod_struct Try.underlying37 h
  rw [nc_act] at hlen
  obtain ⟨c0, c1, c2, c3, c4, c5, c6, c7, c8, c9, rfl⟩ := nlist10 hlen
  have hys : ys.length = 4 := hyl
  have g : ∀ i, i < 4 → ∃ y, ys[i]? = some y := fun i hi => ⟨_, List.getElem?_eq_getElem (by omega)⟩
  have f0 : DataW.trod enc Try.prog w base (fun _ => true) held n 5 (([c0, c1, c2, c3, c4, c5, c6, c7, c8, c9].drop 0).take (Try.prog.cellsOf 5)) = ys[0]? := hf 0 _ rfl
  have f1 : DataW.trod enc Try.prog w base (fun _ => true) held n 35 (([c0, c1, c2, c3, c4, c5, c6, c7, c8, c9].drop 1).take (Try.prog.cellsOf 35)) = ys[1]? := hf 1 _ rfl
  have f2 : DataW.trod enc Try.prog w base (fun _ => true) held n 3 (([c0, c1, c2, c3, c4, c5, c6, c7, c8, c9].drop 8).take (Try.prog.cellsOf 3)) = ys[2]? := hf 2 _ rfl
  have f3 : DataW.trod enc Try.prog w base (fun _ => true) held n 3 (([c0, c1, c2, c3, c4, c5, c6, c7, c8, c9].drop 9).take (Try.prog.cellsOf 3)) = ys[3]? := hf 3 _ rfl
  simp only [nc_u8, nc_int, nc_msg, List.drop_zero, List.take_succ_cons, List.take_zero, List.drop_succ_cons] at f0 f1 f2 f3
  obtain ⟨y0, e0⟩ := g 0 (by omega)
  obtain ⟨y1, e1⟩ := g 1 (by omega)
  obtain ⟨y2, e2⟩ := g 2 (by omega)
  obtain ⟨y3, e3⟩ := g 3 (by omega)
  rw [e0] at f0
  rw [e1] at f1
  rw [e2] at f2
  rw [e3] at f3
  obtain ⟨k, q0, _, w0⟩ := DataW.trod_int Try.underlying5 f0
  obtain ⟨m, q1, wm⟩ := nmsg_of f1
  obtain ⟨n2, q2, _, w2⟩ := DataW.trod_int Try.underlying3 f2
  obtain ⟨n3, q3, _, w3⟩ := DataW.trod_int Try.underlying3 f3
  obtain rfl := (List.cons.inj q0).1
  obtain rfl := (List.cons.inj q2).1
  obtain rfl := (List.cons.inj q3).1
  unfold mgVals at q1
  simp only [List.cons.injEq] at q1
  obtain ⟨rfl, rfl, rfl, rfl, rfl, rfl, rfl, _⟩ := q1
  obtain ⟨k', rfl⟩ : ∃ k' : Nat, k = k' := ⟨k.toNat, by have := nu8_of w0; omega⟩
  have wk := nu8_of w0
  exact ⟨⟨k', m, n2, n3⟩, rfl, ⟨by show k' < 256; omega, wm, ni64_of w2, ni64_of w3⟩⟩
set_option maxRecDepth 100000 in
/-- An act by value. -/
theorem open_nact {r : Reach} {b0 : Nat} {v : Value} {d : DataW H} {ps : List MemPlace} (hv : Value.okWide Try.prog w r b0 tAc v) (h : DataW.Trod enc Try.prog w base (fun _ => true) held tAc v d ps) :
    ∃ a : Ac, v = acV a ∧ AcOk a ∧ True := by
  obtain ⟨cs, rfl, _⟩ := okWide_struct Try.underlying37 hv
  obtain ⟨fuel, h⟩ := h
  obtain ⟨a, h1, h2⟩ := nact_of h
  have e : cs = (acVals a).toArray := by
    have h1' : cs.toList = acVals a := h1
    rw [← h1']
  exact ⟨a, by rw [e]; rfl, h2, trivial⟩
theorem open_nacts {p : Option Addr} {n c : Nat} {v : Value} {d : DataW H} {ps : List MemPlace} (e : v = .slice p n c) (h : DataW.Trod enc Try.prog w base (fun _ => true) held 22 v d ps) : ∃ L : List Ac, AcsAt w v L := by
  obtain ⟨fuel, h⟩ := h
  subst e
  rcases open_slice Try.underlying22 h with ⟨hcs, _⟩ | ⟨a, len, cap, m, n', D, Pl, hcs, _, hl, hm, hz, _, hi⟩
  · rw [(List.cons.inj hcs).1]
    exact ⟨[], none, 0, rfl, by simp [maxLen], fun j x hx => by simp at hx⟩
  · rw [(List.cons.inj hcs).1]
    simp only [if_true] at hz
    have key : ∀ i, i < len → ∃ x : Ac, AcOk x ∧ AcAt w (a.add (i * 10)) x := by
      intro i hil
      obtain ⟨cs', h1, h2⟩ := hi i (by omega)
      rw [nc_act] at h1
      obtain ⟨x, rfl, hg⟩ := nact_of h2
      obtain ⟨_, _, hat⟩ := World.cells?_some h1
      have c : ∀ j, 0 < j → j < 10 → w.cell? ⟨(a.add (i * 10)).block, (a.add (i * 10)).off + j, none⟩ = (acVals x)[j]? := fun j h0 hj => by
        rw [← hat j hj]
        congr 1
        unfold Addr.add
        rw [if_neg (by omega : ¬ j = 0)]
      refine ⟨x, hg, ?_, c 1 (by omega) (by omega), c 2 (by omega) (by omega), c 3 (by omega) (by omega), c 4 (by omega) (by omega), c 5 (by omega) (by omega), c 6 (by omega) (by omega), c 7 (by omega) (by omega), c 8 (by omega) (by omega), c 9 (by omega) (by omega)⟩
      have h0 := hat 0 (by omega)
      have e : (a.add (i * 10)).add 0 = a.add (i * 10) := rfl
      rw [e] at h0
      exact h0
    refine ⟨(List.range len).pmap (fun i hi => (key i hi).choose) (fun i hi => List.mem_range.1 hi), some a, cap, ?_, ?_, fun j x hx => ?_⟩
    · simp
    · simp; omega
    · rw [List.getElem?_pmap] at hx
      by_cases hj : j < len
      · simp only [List.getElem?_range hj, Option.pmap_some, Option.some.injEq] at hx
        subst hx
        exact ⟨(key j hj).choose_spec.1, a, rfl, (key j hj).choose_spec.2⟩
      · have : (List.range len)[j]? = none := List.getElem?_eq_none (by simp; omega)
        simp [this] at hx
end Nt
end Go.Proofs.Ytajphjlfefhajaa
