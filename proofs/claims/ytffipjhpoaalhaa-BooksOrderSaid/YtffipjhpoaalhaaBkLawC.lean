
/- The document's Balance, and what the laws of the books ask by themselves: Great, Same. -/
import Derived.Test.YtffipjhpoaalhaaBkPostR
import Derived.LoopN
import Derived.Laws.Rows
import Derived.Lib.SmallJoins
import Derived.WalkKit
import Derived.Deep.RegionHeld3
import Derived.Deep.QuietTactic
import Derived.BigQuiet
set_option linter.unusedVariables false
namespace Go.Proofs.Ytffipjhpoaalhaa
open Go.ChangeShapes Go.WideShapes Go.ChangeAt Go.RowKit Csv Bk Mon

def balM (l : List PM) (a o : Int) : Int := if o < 0 then 0 else bal l a o
set_option maxRecDepth 100000 in
set_option maxHeartbeats 8000000 in
theorem rbalance_any (r : Nat) (L : List PI) (a o : Int) (w : World) (h : RBk w r L) (hg : GoodL L) (hok : OkL (pms L)) (hl : L.length ≤ 1000) :
    Calls Try.prog 14 #[.pointer (some ⟨r, 0, none⟩), .int .i64 a, .int .i64 o] w fun e w' => e = .returned (.int .i64 (balM (pms L) a o)) ∧ Keeps w w' := by
  obtain ⟨v, hv, hrow⟩ := h
  obtain ⟨pv, cv, rfl⟩ := postK.own_shape hrow
  have HS : Hid (∀ W, Keeps w W → Calls Try.prog 26 #[.slice pv L.length cv, .int .i64 a, .int .i64 o] W fun e w' => ∃ b, e = .returned (.tuple #[.int .i64 (bal (pms L) a o), .bool b]) ∧ Keeps W w') := Lib.hid fun W kW => by
    refine (rsum_any _ L a o W (own_posts (postK.own_keeps hrow kW) hg (by omega)) hl (fun j hj => hok.fit j a o)).mono ?_
    rintro e w' ⟨n, b, rfl, ⟨h1, h2, h3⟩, kk⟩
    have e2 : (pms L).take L.length = pms L := by unfold pms; rw [List.take_of_length_le (by rw [List.length_map]; omega)]
    have hb : b = true := by rw [h1, e2]; exact hok.all a o
    rw [h3 hb, e2]
    exact ⟨b, rfl, kk⟩
  have c0 := Joins.cell_of_block hv 0
  simp only [List.getElem?_toArray, List.getElem?_cons_zero] at c0
  clear hv hrow hg hok
  go_enter Try.func14, Try.ntmps14
  by_cases ho : o < 0
  · have E : Hid (balM (pms L) a o = 0) := Lib.hid (if_pos ho)
    go_wp2
    go_ret
    exact ⟨by rw [E.out]; rfl, Keeps.refl _⟩
  · have E : Hid (balM (pms L) a o = bal (pms L) a o) := Lib.hid (if_neg ho)
    go_wp2_with fail
    refine (HS.out _ (Keeps.refl _)).mono ?_
    rintro e w2 ⟨b, rfl, k2⟩
    have K2 := Lib.hid k2
    clear k2
    go_wp2
    go_ret
    exact ⟨by rw [E.out]; rfl, K2.out⟩

/-- More than is gone through: so many, or a long Id. -/
def greatP (L : List PI) (n : Int) : Bool := L.any (fun x => decide ((100 : Int) < (x.s.size : Int))) || decide (n < (L.length : Int))
def NoLong (L : List PI) (k : Nat) : Prop := ∀ j x, j < k → L[j]? = some x → (x.s.size : Int) ≤ 100
theorem great_yes {L : List PI} {n : Int} {k : Nat} {x : PI} (hx : L[k]? = some x) (h : (100 : Int) < (x.s.size : Int)) : greatP L n = true := by
  unfold greatP
  rw [Bool.or_eq_true]
  exact Or.inl (List.any_eq_true.2 ⟨x, List.mem_of_getElem? hx, by simpa using h⟩)
theorem great_end {L : List PI} {n : Int} (h : NoLong L L.length) : greatP L n = decide (n < (L.length : Int)) := by
  have e : L.any (fun x => decide ((100 : Int) < (x.s.size : Int))) = false := by
    rw [List.any_eq_false]
    intro x hx
    obtain ⟨j, hj⟩ := List.mem_iff_getElem?.1 hx
    have := h j x (List.getElem?_eq_some_iff.1 hj).1 hj
    simpa using this
  unfold greatP
  rw [e, Bool.false_or]
set_option maxRecDepth 100000 in
set_option maxHeartbeats 8000000 in
theorem great_any (v : Value) (L : List PI) (n : Int) (w : World) (h : PostsAt w v L) :
    Calls Try.prog 8 #[v, .int .i64 n] w fun e w' => e = .returned (.bool (greatP L n)) ∧ Keeps w w' := by
  have HP := Lib.hid h
  obtain ⟨p, c, rfl, hmx, _, _⟩ := h
  obtain ⟨N, hN⟩ : ∃ N, L.length = N := ⟨_, rfl⟩
  have HN := Lib.hid hN
  rw [hN] at hmx ⊢
  have hmx' : N ≤ 9223372036854775807 := by unfold Go.maxLen at hmx; omega
  clear hN hmx
  go_enter Try.func8, Try.ntmps8
  go_wp2
  go_loopw [5] (fun vi wr => ∃ k : Nat, k ≤ N ∧ vi = .int .i64 (k : Int) ∧ NoLong L k ∧ Keeps w wr) (fun vi _ => N - (intOf vi).toNat)
  case atStart => exact ⟨0, by omega, rfl, (fun j x hj => by omega), Keeps.refl _⟩
  case round =>
    obtain ⟨k, hk, rfl, hno, hkr⟩ := hrel
    have HKR := Lib.hid hkr
    have HNO := Lib.hid hno
    clear hkr hno
    by_cases hlt : k < N
    · obtain ⟨x, hx⟩ : ∃ x, L[k]? = some x := ⟨_, List.getElem?_eq_getElem (by have := HN.out; omega)⟩
      obtain ⟨p', c', e', _, hcc, hc⟩ := HP.out
      simp only [Value.slice.injEq] at e'
      obtain ⟨rfl, _, rfl⟩ := e'
      obtain ⟨_, ad, rfl, q⟩ := hc k x hx
      obtain ⟨q0, q1, q2, q3, q4⟩ := q.keeps HKR.out
      have HX := Lib.hid hx
      have hi1 : (k : Int) < (N : Int) := by omega
      have hi2 : (k : Int) ≤ (N : Int) := by omega
      have hi0 : (0 : Int) ≤ (k : Int) := by omega
      clear hc q hx q1 q2 q3 q4 hcc
      by_cases hs : (100 : Int) < (x.s.size : Int)
      · have E : Hid (greatP L n = true) := Lib.hid (great_yes HX.out hs)
        go_wp2
        go_ret
        exact ⟨by rw [E.out]; rfl, HKR.out⟩
      · have HN2 : Hid (NoLong L (k + 1)) := Lib.hid fun j y hj hy => by
          by_cases hjk : j = k
          · subst hjk
            rw [HX.out] at hy
            cases hy
            omega
          · exact HNO.out j y (by omega) hy
        go_wp2
        exact ⟨⟨k + 1, by omega, by go_num, HN2.out, HKR.out⟩, by simp [intOf]; omega⟩
    · obtain rfl : k = N := by omega
      have hz : ¬ ((k : Int) < (k : Int)) := by omega
      have E := Lib.hid (great_end (n := n) (show NoLong L L.length from by have := HNO.out; rwa [← HN.out] at this))
      go_wp2
      go_ret
      exact ⟨by rw [E.out, HN.out]; rfl, HKR.out⟩

/-- The same, element by element. -/
def SameTo (L M : List PI) (k : Nat) : Prop := ∀ j, j < k → (pms L)[j]? = (pms M)[j]?
theorem pms_len (L : List PI) : (pms L).length = L.length := by unfold pms; rw [List.length_map]
theorem pms_at {L : List PI} {k : Nat} {x : PI} (h : L[k]? = some x) : (pms L)[k]? = some x.pm := by unfold pms; rw [List.getElem?_map, h]; rfl
theorem same_no {L M : List PI} {k : Nat} {x y : PI} (hx : L[k]? = some x) (hy : M[k]? = some y) (h : x.pm ≠ y.pm) : decide (pms L = pms M) = false := by
  rw [decide_eq_false_iff_not]
  intro e
  have := pms_at hx
  rw [e, pms_at hy] at this
  exact h (Option.some.inj this).symm
theorem same_yes {L M : List PI} (hl : L.length = M.length) (h : SameTo L M L.length) : decide (pms L = pms M) = true := by
  rw [decide_eq_true_eq]
  apply List.ext_getElem?
  intro j
  by_cases hj : j < L.length
  · exact h j hj
  · rw [List.getElem?_eq_none (by rw [pms_len]; omega), List.getElem?_eq_none (by rw [pms_len]; omega)]
theorem same_len {L M : List PI} (h : ¬ L.length = M.length) : decide (pms L = pms M) = false := by
  rw [decide_eq_false_iff_not]
  intro e
  have := congrArg List.length e
  rw [pms_len, pms_len] at this
  exact h this
set_option maxRecDepth 100000 in
set_option maxHeartbeats 8000000 in
theorem same_any (v v' : Value) (L M : List PI) (w : World) (h : PostsAt w v L) (h' : PostsAt w v' M) :
    Calls Try.prog 16 #[v, v'] w fun e w' => e = .returned (.bool (decide (pms L = pms M))) ∧ Keeps w w' := by
  have HP := Lib.hid h
  have HQ := Lib.hid h'
  obtain ⟨p, c, rfl, hmx, _, _⟩ := h
  obtain ⟨p', c', rfl, hmx', _, _⟩ := h'
  by_cases hl : L.length = M.length
  · obtain ⟨N, hN⟩ : ∃ N, L.length = N := ⟨_, rfl⟩
    have HN := Lib.hid hN
    have HM := Lib.hid (show M.length = N by omega)
    rw [← hl, hN]
    rw [hN] at hmx
    have hmx' : N ≤ 9223372036854775807 := by unfold Go.maxLen at hmx; omega
    clear hN hmx hl
    go_enter Try.func16, Try.ntmps16
    go_wp2
    go_loopw [5] (fun vi wr => ∃ k : Nat, k ≤ N ∧ vi = .int .i64 (k : Int) ∧ SameTo L M k ∧ Keeps w wr) (fun vi _ => N - (intOf vi).toNat)
    case atStart => exact ⟨0, by omega, rfl, (fun j hj => by omega), Keeps.refl _⟩
    case round =>
      obtain ⟨k, hk, rfl, hno, hkr⟩ := hrel
      have HKR := Lib.hid hkr
      have HNO := Lib.hid hno
      clear hkr hno
      by_cases hlt : k < N
      · obtain ⟨x, hx⟩ : ∃ x, L[k]? = some x := ⟨_, List.getElem?_eq_getElem (by have := HN.out; omega)⟩
        obtain ⟨y, hy⟩ : ∃ y, M[k]? = some y := ⟨_, List.getElem?_eq_getElem (by have := HM.out; omega)⟩
        obtain ⟨p1, c1, e1, _, hc1, hd1⟩ := HP.out
        simp only [Value.slice.injEq] at e1
        obtain ⟨rfl, _, rfl⟩ := e1
        obtain ⟨_, ad, rfl, q⟩ := hd1 k x hx
        obtain ⟨p2, c2, e2, _, hc2, hd2⟩ := HQ.out
        simp only [Value.slice.injEq] at e2
        obtain ⟨rfl, _, rfl⟩ := e2
        obtain ⟨_, ad2, rfl, r⟩ := hd2 k y hy
        obtain ⟨q0, q1, q2, q3, q4⟩ := q.keeps HKR.out
        obtain ⟨r0, r1, r2, r3, r4⟩ := r.keeps HKR.out
        have HX := Lib.hid hx
        have HY := Lib.hid hy
        have hi1 : (k : Int) < (N : Int) := by omega
        have hi2 : (k : Int) ≤ (N : Int) := by omega
        have hi0 : (0 : Int) ≤ (k : Int) := by omega
        clear hd1 hd2 q r hx hy
        obtain ⟨xs, xo, xd, xc, xm⟩ := x
        obtain ⟨ys, yo, yd, yc, ym⟩ := y
        dsimp only at q0 q1 q2 q3 q4 r0 r1 r2 r3 r4
        by_cases he : xs = ys ∧ xo = yo ∧ xd = yd ∧ xc = yc ∧ xm = ym
        · obtain ⟨rfl, rfl, rfl, rfl, rfl⟩ := he
          have HN2 : Hid (SameTo L M (k + 1)) := Lib.hid fun j hj => by
            by_cases hjk : j = k
            · subst hjk
              rw [pms_at HX.out, pms_at HY.out]
            · exact HNO.out j (by omega)
          go_wp2
          go_quiet (fail)
          go_wp2
          exact ⟨⟨k + 1, by omega, by go_num, HN2.out, HKR.out.trans ⟨rfl, rfl, rfl, Nat.le_refl _, fun _ _ => rfl⟩⟩, by simp [intOf]; omega⟩
        · have E : Hid (decide (pms L = pms M) = false) := Lib.hid (by
            refine same_no HX.out HY.out fun e => he ?_
            unfold PI.pm at e
            simp only [PM.mk.injEq] at e
            exact ⟨bytes_inj e.1, e.2.1, e.2.2.1, e.2.2.2.1, e.2.2.2.2⟩)
          by_cases e0 : xs = ys
          · by_cases e1 : xo = yo
            · by_cases e2 : xd = yd
              · by_cases e3 : xc = yc
                · have e4 : (xm == ym) = false := by
                    have : xm ≠ ym := fun e => he ⟨e0, e1, e2, e3, e⟩
                    simpa using this
                  subst e0 e1 e2 e3
                  clear he
                  go_wp2
                  go_quiet (fail)
                  go_wp2
                  go_ret
                  exact ⟨by rw [E.out]; rfl, HKR.out.trans ⟨rfl, rfl, rfl, Nat.le_refl _, fun _ _ => rfl⟩⟩
                · have e4 : (xc == yc) = false := by simpa using e3
                  subst e0 e1 e2
                  clear he e3
                  go_wp2
                  go_quiet (fail)
                  go_wp2
                  go_ret
                  exact ⟨by rw [E.out]; rfl, HKR.out.trans ⟨rfl, rfl, rfl, Nat.le_refl _, fun _ _ => rfl⟩⟩
              · have e4 : (xd == yd) = false := by simpa using e2
                subst e0 e1
                clear he e2
                go_wp2
                go_quiet (fail)
                go_wp2
                go_ret
                exact ⟨by rw [E.out]; rfl, HKR.out.trans ⟨rfl, rfl, rfl, Nat.le_refl _, fun _ _ => rfl⟩⟩
            · have e4 : (xo == yo) = false := by simpa using e1
              subst e0
              clear he e1
              go_wp2
              go_quiet (fail)
              go_wp2
              go_ret
              exact ⟨by rw [E.out]; rfl, HKR.out.trans ⟨rfl, rfl, rfl, Nat.le_refl _, fun _ _ => rfl⟩⟩
          · have e4 := str_ne e0
            clear he e0
            go_wp2
            go_quiet (fail)
            go_wp2
            go_ret
            exact ⟨by rw [E.out]; rfl, HKR.out.trans ⟨rfl, rfl, rfl, Nat.le_refl _, fun _ _ => rfl⟩⟩
      · obtain rfl : k = N := by omega
        have hz : ¬ ((k : Int) < (k : Int)) := by omega
        have E := Lib.hid (same_yes (by rw [HN.out, HM.out]) (show SameTo L M L.length from by have := HNO.out; rwa [← HN.out] at this))
        go_wp2
        go_ret
        exact ⟨by rw [E.out]; rfl, HKR.out⟩
  · have E := Lib.hid (same_len hl)
    have hl' : ((L.length : Int) == (M.length : Int)) = false := by
      rw [beq_eq_false_iff_ne]; omega
    have hl2 : ((L.length : Int) != (M.length : Int)) = true := by
      rw [bne_iff_ne]; omega
    clear hmx hmx' hl
    go_enter Try.func16, Try.ntmps16
    go_wp2
    go_ret
    exact ⟨by rw [E.out]; rfl, Keeps.refl _⟩
end Go.Proofs.Ytffipjhpoaalhaa
