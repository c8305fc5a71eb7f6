
/- Postings that came in, opened. -/
import Derived.Test.YtffipjhpoaalhaaOpenArgs
import Derived.Test.YtffipjhpoaalhaaBkMath
import Derived.Deep.Slices
import Derived.DataReads
set_option linter.unusedVariables false
namespace Go.Proofs.Ytffipjhpoaalhaa
open Go.ChangeShapes Go.WideShapes Go.ChangeAt Go.RowKit Csv Go.Deep Bk

/-- A posting as it lies in memory: its Id's bytes, and four numbers. -/
structure PI where
  s : ByteArray
  ord : Int
  deb : Int
  cre : Int
  amt : Int
def PI.pm (x : PI) : PM := ⟨x.s.data.toList, x.ord, x.deb, x.cre, x.amt⟩
structure PI.Good (x : PI) : Prop where
  s : x.s.size ≤ maxLen
  ord : I64 x.ord
  deb : I64 x.deb
  cre : I64 x.cre
  amt : I64 x.amt
def PI.vals (x : PI) : List Value := [.string x.s, .int .i64 x.ord, .int .i64 x.deb, .int .i64 x.cre, .int .i64 x.amt]
def PI.val (x : PI) : Value := .agg #[.string x.s, .int .i64 x.ord, .int .i64 x.deb, .int .i64 x.cre, .int .i64 x.amt]
/-- A posting in five cells. -/
def PostAt (w : World) (a : Addr) (x : PI) : Prop :=
  w.cell? a = some (.string x.s) ∧ w.cell? ⟨a.block, a.off + 1, none⟩ = some (.int .i64 x.ord) ∧ w.cell? ⟨a.block, a.off + 2, none⟩ = some (.int .i64 x.deb) ∧ w.cell? ⟨a.block, a.off + 3, none⟩ = some (.int .i64 x.cre) ∧ w.cell? ⟨a.block, a.off + 4, none⟩ = some (.int .i64 x.amt)
theorem PostAt.keeps {w w' : World} {a : Addr} {x : PI} (h : PostAt w a x) (k : Keeps w w') : PostAt w' a x := ⟨cell_keeps k h.1, cell_keeps k h.2.1, cell_keeps k h.2.2.1, cell_keeps k h.2.2.2.1, cell_keeps k h.2.2.2.2⟩
def PostsAt (w : World) (v : Value) (L : List PI) : Prop :=
  ∃ p c, v = .slice p L.length c ∧ L.length ≤ maxLen ∧ L.length ≤ c ∧ ∀ j x, L[j]? = some x → x.Good ∧ ∃ a : Addr, p = some a ∧ PostAt w (a.add (j * 5)) x
theorem PostsAt.keeps {w w' : World} {v : Value} {L : List PI} (h : PostsAt w v L) (k : Keeps w w') : PostsAt w' v L := by
  obtain ⟨p, c, h1, h2, hc, h3⟩ := h
  refine ⟨p, c, h1, h2, hc, fun j x hx => ?_⟩
  obtain ⟨g, a, ha, hc⟩ := h3 j x hx
  exact ⟨g, a, ha, hc.keeps k⟩

abbrev tPo : TypeId := 33
variable {H : Type} {enc : TypeId × Value → H} {w : World} {base : Nat} {held : Bool}
theorem cells_post : Try.prog.cellsOf tPo = 5 := by kernel_rfl
theorem cells_i64 : Try.prog.cellsOf 2 = 1 := by kernel_rfl
theorem five_of {α : Type} {l : List α} (h : l.length = 5) : ∃ a b c d e, l = [a, b, c, d, e] := by
  match l, h with
  | [a, b, c, d, e], _ => exact ⟨a, b, c, d, e, rfl⟩
/-- The five cells of a posting, read. -/
theorem post_of {fuel : Nat} {cs : List Value} {x : DataW H × List MemPlace} (h : DataW.trod enc Try.prog w base (fun _ => true) held fuel tPo cs = some x) :
    ∃ a : PI, cs = a.vals ∧ a.Good := by
  obtain ⟨ys, n, _, _, hlen, hyl, hf⟩ := DataW.trod_struct Try.underlying33 h
  rw [cells_post] at hlen
  obtain ⟨c0, c1, c2, c3, c4, rfl⟩ := five_of hlen
  have hys : ys.length = 5 := hyl
  have g : ∀ i, i < 5 → ∃ y, ys[i]? = some y := fun i hi => ⟨_, List.getElem?_eq_getElem (by omega)⟩
  have f0 : DataW.trod enc Try.prog w base (fun _ => true) held n 9 (([c0, c1, c2, c3, c4].drop 0).take (Try.prog.cellsOf 9)) = ys[0]? := hf 0 _ rfl
  have f1 : DataW.trod enc Try.prog w base (fun _ => true) held n 3 (([c0, c1, c2, c3, c4].drop 1).take (Try.prog.cellsOf 3)) = ys[1]? := hf 1 _ rfl
  have f2 : DataW.trod enc Try.prog w base (fun _ => true) held n 3 (([c0, c1, c2, c3, c4].drop 2).take (Try.prog.cellsOf 3)) = ys[2]? := hf 2 _ rfl
  have f3 : DataW.trod enc Try.prog w base (fun _ => true) held n 3 (([c0, c1, c2, c3, c4].drop 3).take (Try.prog.cellsOf 3)) = ys[3]? := hf 3 _ rfl
  have f4 : DataW.trod enc Try.prog w base (fun _ => true) held n 2 (([c0, c1, c2, c3, c4].drop 4).take (Try.prog.cellsOf 2)) = ys[4]? := hf 4 _ rfl
  simp only [cells_int, cells_str, cells_i64, List.drop_zero, List.take_succ_cons, List.take_zero, List.drop_succ_cons] at f0 f1 f2 f3 f4
  obtain ⟨y0, e0⟩ := g 0 (by omega)
  obtain ⟨y1, e1⟩ := g 1 (by omega)
  obtain ⟨y2, e2⟩ := g 2 (by omega)
  obtain ⟨y3, e3⟩ := g 3 (by omega)
  obtain ⟨y4, e4⟩ := g 4 (by omega)
  rw [e0] at f0
  rw [e1] at f1
  rw [e2] at f2
  rw [e3] at f3
  rw [e4] at f4
  obtain ⟨s, q0, _, w0⟩ := DataW.trod_string Try.underlying9 f0
  obtain ⟨k1, q1, _, w1⟩ := DataW.trod_int Try.underlying3 f1
  obtain ⟨k2, q2, _, w2⟩ := DataW.trod_int Try.underlying3 f2
  obtain ⟨k3, q3, _, w3⟩ := DataW.trod_int Try.underlying3 f3
  obtain ⟨k4, q4, _, w4⟩ := DataW.trod_int Try.underlying2 f4
  obtain rfl := (List.cons.inj q0).1
  obtain rfl := (List.cons.inj q1).1
  obtain rfl := (List.cons.inj q2).1
  obtain rfl := (List.cons.inj q3).1
  obtain rfl := (List.cons.inj q4).1
  exact ⟨⟨s, k1, k2, k3, k4⟩, rfl, w0, i64_of w1, i64_of w2, i64_of w3, i64_of w4⟩
theorem open_posts_arg {p : Option Addr} {n c : Nat} {v : Value} {d : DataW H} {ps : List MemPlace} (e : v = .slice p n c) (h : DataW.Trod enc Try.prog w base (fun _ => true) held 22 v d ps) : ∃ L : List PI, PostsAt w v L := by
  obtain ⟨fuel, h⟩ := h
  subst e
  rcases open_slice Try.underlying22 h with ⟨hcs, _⟩ | ⟨a, len, cap, m, n', D, Pl, hcs, _, hl, hm, hz, _, hi⟩
  · rw [(List.cons.inj hcs).1]
    exact ⟨[], none, 0, rfl, by simp [maxLen], by simp, fun j x hx => by simp at hx⟩
  · rw [(List.cons.inj hcs).1]
    simp only [if_true] at hz
    have key : ∀ i, i < len → ∃ x : PI, x.Good ∧ PostAt w (a.add (i * 5)) x := by
      intro i hil
      obtain ⟨cs', h1, h2⟩ := hi i (by omega)
      rw [cells_post] at h1
      obtain ⟨x, rfl, hg⟩ := post_of h2
      obtain ⟨_, _, hat⟩ := World.cells?_some h1
      have far : ∀ k, 0 < k → (a.add (i * 5)).add k = ⟨(a.add (i * 5)).block, (a.add (i * 5)).off + k, none⟩ := fun k hk => by
        unfold Addr.add
        rw [if_neg (by omega : ¬ k = 0)]
      refine ⟨x, hg, ?_, ?_, ?_, ?_, ?_⟩
      · have h0 := hat 0 (by decide)
        have e : (a.add (i * 5)).add 0 = a.add (i * 5) := rfl
        rw [e] at h0
        exact h0
      · have h0 := hat 1 (by decide)
        rw [far 1 (by omega)] at h0
        exact h0
      · have h0 := hat 2 (by decide)
        rw [far 2 (by omega)] at h0
        exact h0
      · have h0 := hat 3 (by decide)
        rw [far 3 (by omega)] at h0
        exact h0
      · have h0 := hat 4 (by decide)
        rw [far 4 (by omega)] at h0
        exact h0
    refine ⟨(List.range len).pmap (fun i hi => (key i hi).choose) (fun i hi => List.mem_range.1 hi), some a, cap, ?_, ?_, ?_, fun j x hx => ?_⟩
    · simp
    · simp; omega
    · simp; omega
    · rw [List.getElem?_pmap] at hx
      by_cases hj : j < len
      · simp only [List.getElem?_range hj, Option.pmap_some, Option.some.injEq] at hx
        subst hx
        exact ⟨(key j hj).choose_spec.1, a, rfl, (key j hj).choose_spec.2⟩
      · have : (List.range len)[j]? = none := List.getElem?_eq_none (by simp; omega)
        simp [this] at hx
end Go.Proofs.Ytffipjhpoaalhaa
