
/- Acts that came in, opened. -/
import Derived.Test.YtpecbfcboocmcaaDiskNone
import Derived.Test.YtpecbfcboocmcaaOpenArgs
import Derived.Deep.Slices
import Derived.DataReads
set_option linter.unusedVariables false
namespace Go.Proofs.Ytpecbfcboocmcaa
open Go.ChangeShapes Go.WideShapes Go.ChangeAt Go.RowKit Csv Go.Deep

abbrev tAct : TypeId := 34
variable {H : Type} {enc : TypeId × Value → H} {w : World} {base : Nat} {held : Bool}
theorem cells_ints : Try.prog.cellsOf 32 = 1 := by kernel_rfl
theorem cells_act : Try.prog.cellsOf tAct = 6 := by kernel_rfl
theorem six_of {α : Type} {l : List α} (h : l.length = 6) : ∃ a b c d e f, l = [a, b, c, d, e, f] := by
  match l, h with
  | [a, b, c, d, e, f], _ => exact ⟨a, b, c, d, e, f, rfl⟩
theorem wf_u8 {n : Int} (h : (Lit.int .u8 n).wf = true) : 0 ≤ n ∧ n ≤ 255 := by
  simp [Lit.wf, IntKind.min, IntKind.max, IntKind.signed, IntKind.bits] at h; omega
/-- The six cells of an act, read. -/
theorem act_of {fuel : Nat} {cs : List Value} {x : DataW H × List MemPlace} (h : DataW.trod enc Try.prog w base (fun _ => true) held fuel tAct cs = some x) :
    ∃ a : ActM, cs = a.vals ∧ a.Good ∧ IntsAt w a.kv a.ks := by
  obtain ⟨ys, n, _, _, hlen, hyl, hf⟩ := DataW.trod_struct Try.underlying34 h
  rw [cells_act] at hlen
  obtain ⟨c0, c1, c2, c3, c4, c5, rfl⟩ := six_of hlen
  have hys : ys.length = 6 := hyl
  have g : ∀ i, i < 6 → ∃ y, ys[i]? = some y := fun i hi => ⟨_, List.getElem?_eq_getElem (by omega)⟩
  have f0 : DataW.trod enc Try.prog w base (fun _ => true) held n 5 (([c0, c1, c2, c3, c4, c5].drop 0).take (Try.prog.cellsOf 5)) = ys[0]? := hf 0 _ rfl
  have f1 : DataW.trod enc Try.prog w base (fun _ => true) held n 3 (([c0, c1, c2, c3, c4, c5].drop 1).take (Try.prog.cellsOf 3)) = ys[1]? := hf 1 _ rfl
  have f2 : DataW.trod enc Try.prog w base (fun _ => true) held n 3 (([c0, c1, c2, c3, c4, c5].drop 2).take (Try.prog.cellsOf 3)) = ys[2]? := hf 2 _ rfl
  have f3 : DataW.trod enc Try.prog w base (fun _ => true) held n 3 (([c0, c1, c2, c3, c4, c5].drop 3).take (Try.prog.cellsOf 3)) = ys[3]? := hf 3 _ rfl
  have f4 : DataW.trod enc Try.prog w base (fun _ => true) held n 9 (([c0, c1, c2, c3, c4, c5].drop 4).take (Try.prog.cellsOf 9)) = ys[4]? := hf 4 _ rfl
  have f5 : DataW.trod enc Try.prog w base (fun _ => true) held n 32 (([c0, c1, c2, c3, c4, c5].drop 5).take (Try.prog.cellsOf 32)) = ys[5]? := hf 5 _ rfl
  simp only [cells_u8, cells_int, cells_str, cells_ints, List.drop_zero, List.take_succ_cons, List.take_zero, List.drop_succ_cons] at f0 f1 f2 f3 f4 f5
  obtain ⟨y0, e0⟩ := g 0 (by omega)
  obtain ⟨y1, e1⟩ := g 1 (by omega)
  obtain ⟨y2, e2⟩ := g 2 (by omega)
  obtain ⟨y3, e3⟩ := g 3 (by omega)
  obtain ⟨y4, e4⟩ := g 4 (by omega)
  obtain ⟨y5, e5⟩ := g 5 (by omega)
  rw [e0] at f0
  rw [e1] at f1
  rw [e2] at f2
  rw [e3] at f3
  rw [e4] at f4
  rw [e5] at f5
  obtain ⟨k, q0, _, w0⟩ := DataW.trod_int Try.underlying5 f0
  obtain ⟨n1, q1, _, w1⟩ := DataW.trod_int Try.underlying3 f1
  obtain ⟨n2, q2, _, w2⟩ := DataW.trod_int Try.underlying3 f2
  obtain ⟨n3, q3, _, w3⟩ := DataW.trod_int Try.underlying3 f3
  obtain ⟨s, q4, _, w4⟩ := DataW.trod_string Try.underlying9 f4
  obtain rfl := (List.cons.inj q0).1
  obtain rfl := (List.cons.inj q1).1
  obtain rfl := (List.cons.inj q2).1
  obtain rfl := (List.cons.inj q3).1
  obtain rfl := (List.cons.inj q4).1
  obtain ⟨k', rfl⟩ : ∃ k' : Nat, k = k' := ⟨k.toNat, by have := wf_u8 w0; omega⟩
  have wk := wf_u8 w0
  rcases open_ints Try.underlying32 Try.underlying3 cells_int f5 with ⟨hcs, _⟩ | ⟨a, len, cap, zs, hcs, _, hl, hm, hz, _, hcell, _⟩
  · obtain rfl := (List.cons.inj hcs).1
    exact ⟨⟨k', n1, n2, n3, s, .slice none 0 0, []⟩, rfl, ⟨by show k' ≤ 255; omega, i64_of w1, i64_of w2, i64_of w3, w4, fun p m c e => by cases e; exact Nat.le_refl _⟩, IntsAt.nil w⟩
  · obtain rfl := (List.cons.inj hcs).1
    simp only [if_true] at hz
    refine ⟨⟨k', n1, n2, n3, s, .slice (some a) len cap, zs.take len⟩, rfl, ⟨by show k' ≤ 255; omega, i64_of w1, i64_of w2, i64_of w3, w4, fun p m c e => by cases e; exact hl⟩, some a, cap, ?_, ?_, fun j x hx => ⟨a, rfl, ?_⟩⟩
    · simp [hz]; omega
    · simp [hz]; omega
    · have hj : j < len := by
        have := (List.getElem?_eq_some_iff.1 hx).1
        simp at this; omega
      rw [hcell j (by omega)]
      rw [List.getElem?_take, if_pos hj] at hx
      simp [List.getD, hx]
set_option maxRecDepth 100000 in
/-- An act by value. -/
theorem open_act {r : Reach} {b0 : Nat} {v : Value} {d : DataW H} {ps : List MemPlace} (hv : Value.okWide Try.prog w r b0 tAct v) (h : DataW.Trod enc Try.prog w base (fun _ => true) held tAct v d ps) :
    ∃ a : ActM, v = .agg a.vals.toArray ∧ a.Good ∧ IntsAt w a.kv a.ks := by
  obtain ⟨cs, rfl, _⟩ := okWide_struct Try.underlying34 hv
  obtain ⟨fuel, h⟩ := h
  obtain ⟨a, h1, h2, h3⟩ := act_of h
  have e : cs = a.vals.toArray := by
    have h1' : cs.toList = a.vals := h1
    rw [← h1']
  exact ⟨a, by rw [e], h2, h3⟩
theorem open_acts_arg {p : Option Addr} {n c : Nat} {v : Value} {d : DataW H} {ps : List MemPlace} (e : v = .slice p n c) (h : DataW.Trod enc Try.prog w base (fun _ => true) held 22 v d ps) : ∃ L : List ActM, ActsAt w v L := by
  obtain ⟨fuel, h⟩ := h
  subst e
  rcases open_slice Try.underlying22 h with ⟨hcs, _⟩ | ⟨a, len, cap, m, n', D, Pl, hcs, _, hl, hm, hz, _, hi⟩
  · rw [(List.cons.inj hcs).1]
    exact ⟨[], none, 0, rfl, by simp [maxLen], fun j x hx => by simp at hx⟩
  · rw [(List.cons.inj hcs).1]
    simp only [if_true] at hz
    have key : ∀ i, i < len → ∃ x : ActM, x.Good ∧ ActAt w (a.add (i * 6)) x := by
      intro i hil
      obtain ⟨cs', h1, h2⟩ := hi i (by omega)
      rw [cells_act] at h1
      obtain ⟨x, rfl, hg, hk⟩ := act_of h2
      obtain ⟨_, _, hat⟩ := World.cells?_some h1
      have c : ∀ j, 0 < j → j < 6 → w.cell? ⟨(a.add (i * 6)).block, (a.add (i * 6)).off + j, none⟩ = x.vals[j]? := fun j h0 hj => by
        rw [← hat j hj]
        congr 1
        unfold Addr.add
        rw [if_neg (by omega : ¬ j = 0)]
      refine ⟨x, hg, ?_, c 1 (by omega) (by omega), c 2 (by omega) (by omega), c 3 (by omega) (by omega), c 4 (by omega) (by omega), c 5 (by omega) (by omega), hk⟩
      have h0 := hat 0 (by omega)
      have e : (a.add (i * 6)).add 0 = a.add (i * 6) := rfl
      rw [e] at h0
      exact h0
    refine ⟨(List.range len).pmap (fun i hi => (key i hi).choose) (fun i hi => List.mem_range.1 hi), some a, cap, ?_, ?_, fun j x hx => ?_⟩
    · simp
    · simp; omega
    · rw [List.getElem?_pmap] at hx
      by_cases hj : j < len
      · simp only [List.getElem?_range hj, Option.pmap_some, Option.some.injEq] at hx
        subst hx
        exact ⟨(key j hj).choose_spec.1, a, rfl, (key j hj).choose_spec.2⟩
      · have : (List.range len)[j]? = none := List.getElem?_eq_none (by simp; omega)
        simp [this] at hx
end Go.Proofs.Ytpecbfcboocmcaa
