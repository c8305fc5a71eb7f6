
/- Acts that came in; Great; mailed. -/
import Derived.Test.YtajphjlfefhajaaNtDo
import Derived.Deep.Slices
import Derived.ProofKit
set_option linter.unusedVariables false
namespace Go.Proofs.Ytajphjlfefhajaa
open Go.ChangeShapes Go.WideShapes Go.ChangeAt Go.RowKit Csv Ky Go.Deep
namespace Nt
def acVals (x : Ac) : List Value := [.int .u8 (x.kind : Int), .int .i64 x.m.t, .int .i64 x.m.o, .int .i64 x.m.k, .string x.m.s, .int .i64 x.m.q, .int .i64 x.m.a, .int .i64 x.m.c, .int .i64 x.i, .int .i64 x.k]
/-- An act in ten cells. -/
def AcAt (w : World) (a : Addr) (x : Ac) : Prop :=
  w.cell? a = some (.int .u8 (x.kind : Int)) ∧ w.cell? ⟨a.block, a.off + 1, none⟩ = some (.int .i64 x.m.t) ∧ w.cell? ⟨a.block, a.off + 2, none⟩ = some (.int .i64 x.m.o) ∧ w.cell? ⟨a.block, a.off + 3, none⟩ = some (.int .i64 x.m.k) ∧ w.cell? ⟨a.block, a.off + 4, none⟩ = some (.string x.m.s) ∧ w.cell? ⟨a.block, a.off + 5, none⟩ = some (.int .i64 x.m.q) ∧ w.cell? ⟨a.block, a.off + 6, none⟩ = some (.int .i64 x.m.a) ∧ w.cell? ⟨a.block, a.off + 7, none⟩ = some (.int .i64 x.m.c) ∧ w.cell? ⟨a.block, a.off + 8, none⟩ = some (.int .i64 x.i) ∧ w.cell? ⟨a.block, a.off + 9, none⟩ = some (.int .i64 x.k)
theorem AcAt.keeps {w w' : World} {a : Addr} {x : Ac} (h : AcAt w a x) (k : Keeps w w') : AcAt w' a x :=
  ⟨cell_keeps k h.1, cell_keeps k h.2.1, cell_keeps k h.2.2.1, cell_keeps k h.2.2.2.1, cell_keeps k h.2.2.2.2.1, cell_keeps k h.2.2.2.2.2.1, cell_keeps k h.2.2.2.2.2.2.1, cell_keeps k h.2.2.2.2.2.2.2.1, cell_keeps k h.2.2.2.2.2.2.2.2.1, cell_keeps k h.2.2.2.2.2.2.2.2.2⟩
/-- What an act that came in is. -/
structure AcOk (x : Ac) : Prop where
  u8 : x.kind < 256
  s : x.m.s.size ≤ maxLen
  i : I64 x.i
  k : I64 x.k
/-- Acts that came in. -/
def AcsAt (w : World) (v : Value) (L : List Ac) : Prop :=
  ∃ p c, v = .slice p L.length c ∧ L.length ≤ maxLen ∧ ∀ j x, L[j]? = some x → AcOk x ∧ ∃ a : Addr, p = some a ∧ AcAt w (a.add (j * 10)) x
theorem AcsAt.keeps {w w' : World} {v : Value} {L : List Ac} (h : AcsAt w v L) (k : Keeps w w') : AcsAt w' v L := by
  obtain ⟨p, c, h1, h2, h3⟩ := h
  refine ⟨p, c, h1, h2, fun j x hx => ?_⟩
  obtain ⟨g, a, ha, hc⟩ := h3 j x hx
  exact ⟨g, a, ha, hc.keeps k⟩
def greatA (L : List Ac) (n : Int) : Bool := L.any (fun x => decide ((50 : Int) < (x.m.s.size : Int))) || decide (n < (L.length : Int))
def NoLongA (L : List Ac) (k : Nat) : Prop := ∀ j x, j < k → L[j]? = some x → (x.m.s.size : Int) ≤ 50
theorem great_yes {L : List Ac} {n : Int} {k : Nat} {x : Ac} (hx : L[k]? = some x) (h : (50 : Int) < (x.m.s.size : Int)) : greatA L n = true := by
  unfold greatA
  rw [Bool.or_eq_true]
  exact Or.inl (List.any_eq_true.2 ⟨x, List.mem_of_getElem? hx, by simpa using h⟩)
theorem great_end {L : List Ac} {n : Int} (h : NoLongA L L.length) : greatA L n = decide (n < (L.length : Int)) := by
  have e : L.any (fun x => decide ((50 : Int) < (x.m.s.size : Int))) = false := by
    rw [List.any_eq_false]
    intro x hx
    obtain ⟨j, hj⟩ := List.mem_iff_getElem?.1 hx
    have := h j x (List.getElem?_eq_some_iff.1 hj).1 hj
    simpa using this
  unfold greatA
  rw [e, Bool.false_or]
theorem great_no {L : List Ac} {n : Int} (h : greatA L n = false) : (L.length : Int) ≤ n := by
  unfold greatA at h
  rw [Bool.or_eq_false_iff] at h
  simpa using h.2
set_option maxRecDepth 100000 in
set_option maxHeartbeats 8000000 in
theorem la_great (v : Value) (L : List Ac) (n : Int) (w : World) (h : AcsAt w v L) :
    Calls Try.prog 7 #[v, .int .i64 n] w fun e w' => e = .returned (.bool (greatA L n)) ∧ Keeps w w' := by
  have HP := Lib.hid h
  obtain ⟨p, c, rfl, hmx, _⟩ := h
  obtain ⟨N, hN⟩ : ∃ N, L.length = N := ⟨_, rfl⟩
  have HN := Lib.hid hN
  rw [hN] at hmx ⊢
  have hmx' : N ≤ 9223372036854775807 := by unfold Go.maxLen at hmx; omega
  clear hN hmx
  go_enter Try.func7, Try.ntmps7
  go_wp2
  go_loopw [5] (fun vi wr => ∃ k : Nat, k ≤ N ∧ vi = .int .i64 (k : Int) ∧ NoLongA L k ∧ Keeps w wr) (fun vi _ => N - (intOf vi).toNat)
  case atStart => exact ⟨0, by omega, rfl, (fun j x hj => by omega), Keeps.refl _⟩
  case round =>
    obtain ⟨k, hk, rfl, hno, hkr⟩ := hrel
    have HKR := Lib.hid hkr
    have HNO := Lib.hid hno
    clear hkr hno
    by_cases hlt : k < N
    · obtain ⟨x, hx⟩ : ∃ x, L[k]? = some x := ⟨_, List.getElem?_eq_getElem (by have := HN.out; omega)⟩
      obtain ⟨p', c', e', _, hc⟩ := HP.out
      simp only [Value.slice.injEq] at e'
      obtain ⟨rfl, _, rfl⟩ := e'
      obtain ⟨_, ad, rfl, q⟩ := hc k x hx
      obtain ⟨q0, q1, q2, q3, q4, q5, q6, q7, q8, q9⟩ := q.keeps HKR.out
      have HX := Lib.hid hx
      have hi1 : (k : Int) < (N : Int) := by omega
      have hi2 : (k : Int) ≤ (N : Int) := by omega
      have hi0 : (0 : Int) ≤ (k : Int) := by omega
      clear hc q hx q0 q1 q2 q3 q5 q6 q7 q8 q9
      by_cases hs : (50 : Int) < (x.m.s.size : Int)
      · have E : Hid (greatA L n = true) := Lib.hid (great_yes HX.out hs)
        go_wp2
        go_ret
        exact ⟨by rw [E.out]; rfl, HKR.out⟩
      · have HN2 : Hid (NoLongA L (k + 1)) := Lib.hid fun j y hj hy => by
          by_cases hjk : j = k
          · subst hjk
            rw [HX.out] at hy
            cases hy
            omega
          · exact HNO.out j y (by omega) hy
        go_wp2
        exact ⟨⟨k + 1, by omega, by go_num, HN2.out, HKR.out⟩, by simp [intOf]; omega⟩
    · obtain rfl : k = N := by omega
      have hz : ¬ ((k : Int) < (k : Int)) := by omega
      have E := Lib.hid (great_end (n := n) (show NoLongA L L.length from by have := HNO.out; rwa [← HN.out] at this))
      go_wp2
      go_ret
      exact ⟨by rw [E.out, HN.out]; rfl, HKR.out⟩
end Nt
end Go.Proofs.Ytajphjlfefhajaa
