
/- The chapter's deed: waited. -/
import Derived.Test.YtbemkcnikoiecaaWtLaw
set_option linter.unusedVariables false
set_option linter.unusedSimpArgs false
namespace Go.Proofs.Ytbemkcnikoiecaa
open Go.ChangeShapes Go.WideShapes Go.ChangeAt Go.RowKit Csv Ky Ob
namespace Wt
variable {P : WtP}
/-- What waits ahead of a tick. -/
def stW (k : Nat) : List W5 := if k ≤ 1 then [⟨1, 1, 1, 1, false⟩] else if k ≤ 3 then [⟨1, 1, 2, 3, false⟩] else if k ≤ 7 then [⟨1, 1, 3, 7, false⟩] else if k ≤ 15 then [⟨1, 1, 4, 15, false⟩] else if k ≤ 31 then [⟨1, 1, 5, 31, false⟩] else [⟨1, 1, 5, 31, true⟩]
theorem near_k {k : Nat} (h : k ≤ 100) : near (k : Int) = k := by
  unfold near far
  rw [if_neg (by omega), if_pos (by omega)]
theorem stW_yes {k : Nat} (h : k = 1 ∨ k = 3 ∨ k = 7 ∨ k = 15) : toldL (stW k) (k : Int) = [(1, 1)] ∧ tickL (stW k) (k : Int) = stW (k + 1) := by
  rcases h with rfl | rfl | rfl | rfl <;> exact ⟨rfl, rfl⟩
theorem stW_no {k : Nat} (hk : k ≤ 30) (h1 : k ≠ 1) (h3 : k ≠ 3) (h7 : k ≠ 7) (h15 : k ≠ 15) : toldL (stW k) (k : Int) = [] ∧ tickL (stW k) (k : Int) = stW (k + 1) := by
  have hn : near (k : Int) = k := near_k (by omega)
  have gen : ∀ x : W5, x.p = false → (k : Int) < x.n → toldL [x] (k : Int) = [] ∧ tickL [x] (k : Int) = [x] := fun x hp hx => by
    have hb : nowB (near (k : Int)) x = false := by unfold nowB; rw [hn, hp]; simp; exact hx
    constructor
    · unfold toldL toldB; simp [hb]
    · unfold tickL tick1; simp [hb]
  have cases : (k = 0) ∨ (k = 2) ∨ (4 ≤ k ∧ k ≤ 6) ∨ (8 ≤ k ∧ k ≤ 14) ∨ (16 ≤ k ∧ k ≤ 30) := by omega
  rcases cases with rfl | rfl | ⟨a, c⟩ | ⟨a, c⟩ | ⟨a, c⟩
  · exact ⟨rfl, rfl⟩
  · exact ⟨rfl, rfl⟩
  · have e1 : stW k = [⟨1, 1, 3, 7, false⟩] := by unfold stW; rw [if_neg (by omega), if_neg (by omega), if_pos (by omega)]
    have e2 : stW (k + 1) = [⟨1, 1, 3, 7, false⟩] := by unfold stW; rw [if_neg (by omega), if_neg (by omega), if_pos (by omega)]
    rw [e1, e2]
    exact gen _ rfl (by show (k : Int) < 7; omega)
  · have e1 : stW k = [⟨1, 1, 4, 15, false⟩] := by unfold stW; rw [if_neg (by omega), if_neg (by omega), if_neg (by omega), if_pos (by omega)]
    have e2 : stW (k + 1) = [⟨1, 1, 4, 15, false⟩] := by unfold stW; rw [if_neg (by omega), if_neg (by omega), if_neg (by omega), if_pos (by omega)]
    rw [e1, e2]
    exact gen _ rfl (by show (k : Int) < 15; omega)
  · have e1 : stW k = [⟨1, 1, 5, 31, false⟩] := by unfold stW; rw [if_neg (by omega), if_neg (by omega), if_neg (by omega), if_neg (by omega), if_pos (by omega)]
    have e2 : stW (k + 1) = [⟨1, 1, 5, 31, false⟩] := by unfold stW; rw [if_neg (by omega), if_neg (by omega), if_neg (by omega), if_neg (by omega), if_pos (by omega)]
    rw [e1, e2]
    exact gen _ rfl (by show (k : Int) < 31; omega)
theorem w_start : startL [] 1 1 0 = stW 0 := rfl
theorem w_31 : toldL (stW 31) 31 = [] ∧ tickL (stW 31) 31 = stW 32 := ⟨rfl, rfl⟩
theorem w_again : hasB (stW 32) 1 1 = true ∧ againL (stW 32) 1 1 40 = [⟨1, 1, 1, 41, false⟩] := ⟨rfl, rfl⟩
theorem w_not : hasB [⟨1, 1, 1, 41, false⟩] 2 0 = false ∧ againL [⟨1, 1, 1, 41, false⟩] 2 0 40 = [⟨1, 1, 1, 41, false⟩] := ⟨rfl, rfl⟩
theorem w_41 : toldL [⟨1, 1, 1, 41, false⟩] 41 = [(1, 1)] := rfl
theorem small {n : Int} (h0 : 0 ≤ n) (h1 : n ≤ 1000) : I64 n := by unfold I64 top; omega
/-- Waits of the law's own, and a key's box beside them. -/
structure MK (P : WtP) (W : World) (K : Nat) (o d : Int) (X : World) (b : Nat) (l : List W5) : Prop where
  m : Mine P.At W (fun i => i = K) X b l
  box : X.heap[K]? = some (keBox o d)
section
variable {W X : World} {K b : Nat} {o d : Int} {l : List W5}
theorem MK.keeps (h : MK P W K o d X b l) {Y : World} (k : Keeps X Y) : MK P W K o d Y b l := ⟨h.m.keeps P.lies k, wbox_keep h.box k⟩
theorem MK.cells (h : MK P W K o d X b l) : X.cell? ⟨K, 0, none⟩ = some (.int .i64 o) ∧ X.cell? ⟨K, 1, none⟩ = some (.int .i64 d) := ke_box_cells h.box
theorem mk_lift {f : FuncId} {args : Array Value} {v : Value} {l' : List W5} (h : MK P W K o d X b l) (c : Calls Try.prog f args X fun e w' => e = .returned v ∧ Mine P.At W (fun i => i = K) w' b l' ∧ Still (fun i => i = K) X w') : Calls Try.prog f args X fun e w' => e = .returned v ∧ MK P W K o d w' b l' :=
  c.mono fun e w' ⟨h1, h2, h3⟩ => ⟨h1, h2, (h3 K rfl).trans h.box⟩
end
set_option maxHeartbeats 8000000 in
set_option maxRecDepth 100000 in
theorem la_waited (W : World) (hp : ∀ Y, Keeps W Y → P.Has Y) : Calls Try.prog 8 #[] W fun e w' => e = .returned (.bool true) ∧ Keeps W w' := by
  have HP := Lib.hid hp
  have CN : Hid (Calls Try.prog 9 #[] W fun e w' => ∃ c, e = .returned (.pointer (some ⟨c, 0, none⟩)) ∧ Mine P.At W E0 w' c []) := Lib.hid (mi_new (hp _ (Keeps.refl _)) (Keeps.refl _) (e0 _))
  have CT : Hid (∀ X b K k, k ≤ 30 → MK P W K 1 1 X b (stW k) → Calls Try.prog 27 #[.pointer (some ⟨b, 0, none⟩), .int .i64 (k : Int), .agg #[.int .i64 1, .int .i64 1], .bool (decide (k = 1 ∨ k = 3 ∨ k = 7 ∨ k = 15))] X fun e w' => e = .returned (.bool true) ∧ MK P W K 1 1 w' b (stW (k + 1))) := Lib.hid fun X b K k hk h => by
    by_cases hc : k = 1 ∨ k = 3 ∨ k = 7 ∨ k = 15
    · obtain ⟨e1, e2⟩ := stW_yes hc
      rw [decide_eq_true hc]
      have c := la_tells_yes h.m (fun Y kY => hp Y (h.m.k.trans kY)) (k : Int) 1 1 (small (by omega) (by omega)) e1
      rw [e2] at c
      exact mk_lift h c
    · obtain ⟨e1, e2⟩ := stW_no hk (fun e => hc (Or.inl e)) (fun e => hc (Or.inr (Or.inl e))) (fun e => hc (Or.inr (Or.inr (Or.inl e)))) (fun e => hc (Or.inr (Or.inr (Or.inr e))))
      rw [decide_eq_false hc]
      have c := la_tells_no h.m (fun Y kY => hp Y (h.m.k.trans kY)) (k : Int) 1 1 (small (by omega) (by omega)) e1
      rw [e2] at c
      exact mk_lift h c
  have CS : Hid (∀ X b K, MK P W K 1 1 X b [] → Calls Try.prog 21 #[.pointer (some ⟨b, 0, none⟩), .agg #[.int .i64 1, .int .i64 1], .int .i64 0] X fun e w' => e = .returned (.tuple #[]) ∧ MK P W K 1 1 w' b (stW 0)) := Lib.hid fun X b K h => mk_lift h (mi_start h.m (hp _ h.m.k) 1 1 0 (small (by omega) (by omega)) (small (by omega) (by omega)) (small (by omega) (by omega)))
  have C31 : Hid (∀ X b K, MK P W K 1 1 X b (stW 31) → Calls Try.prog 27 #[.pointer (some ⟨b, 0, none⟩), .int .i64 31, .agg #[.int .i64 1, .int .i64 1], .bool false] X fun e w' => e = .returned (.bool true) ∧ MK P W K 1 1 w' b (stW 32)) := Lib.hid fun X b K h => mk_lift h (w_31.2 ▸ la_tells_no h.m (fun Y kY => hp Y (h.m.k.trans kY)) 31 1 1 (small (by omega) (by omega)) w_31.1)
  have CL : Hid (∀ X b K, MK P W K 1 1 X b (stW 32) → Calls Try.prog 25 #[.pointer (some ⟨b, 0, none⟩)] X fun e w' => ∃ g c, e = .returned (.slice (some ⟨g, 0, none⟩) 1 c) ∧ w'.cell? ⟨g, 4, none⟩ = some (.bool true) ∧ MK P W K 1 1 w' b (stW 32)) := Lib.hid fun X b K h => (mi_list h.m (hp _ h.m.k)).mono fun e w' ⟨u, h1, h2, h3⟩ => by
    rcases h2.2 with ⟨_, e0⟩ | ⟨g, cap, cur, rfl, _⟩
    · cases e0
    · exact ⟨g, cap, h1, pwK.own_at h2 (k := 0) (x := ⟨1, 1, 5, 31, true⟩) rfl (j := 4) rfl, h.keeps h3⟩
  have CA : Hid (∀ X b K, MK P W K 1 1 X b (stW 32) → Calls Try.prog 15 #[.pointer (some ⟨b, 0, none⟩), .agg #[.int .i64 1, .int .i64 1], .int .i64 40] X fun e w' => e = .returned (.bool true) ∧ MK P W K 1 1 w' b [⟨1, 1, 1, 41, false⟩]) := Lib.hid fun X b K h => mk_lift h (mi_again h.m (hp _ h.m.k) 1 1 40 (small (by omega) (by omega)) (small (by omega) (by omega)) (small (by omega) (by omega)))
  have CB : Hid (∀ X b K, MK P W K 1 1 X b [⟨1, 1, 1, 41, false⟩] → Calls Try.prog 15 #[.pointer (some ⟨b, 0, none⟩), .agg #[.int .i64 2, .int .i64 0], .int .i64 40] X fun e w' => e = .returned (.bool false) ∧ MK P W K 1 1 w' b [⟨1, 1, 1, 41, false⟩]) := Lib.hid fun X b K h => mk_lift h (mi_again h.m (hp _ h.m.k) 2 0 40 (small (by omega) (by omega)) (small (by omega) (by omega)) (small (by omega) (by omega)))
  have C41 : Hid (∀ X b K, MK P W K 1 1 X b [⟨1, 1, 1, 41, false⟩] → Calls Try.prog 27 #[.pointer (some ⟨b, 0, none⟩), .int .i64 41, .agg #[.int .i64 1, .int .i64 1], .bool true] X fun e w' => e = .returned (.bool true) ∧ Keeps W w') := Lib.hid fun X b K h => (la_tells_yes h.m (fun Y kY => hp Y (h.m.k.trans kY)) 41 1 1 (small (by omega) (by omega)) w_41).mono fun e w' ⟨h1, h2, _⟩ => ⟨h1, h2.k⟩
  have CG : Hid (∀ X, Keeps W X → Calls Try.prog 23 #[.int .i64 5] X fun e w' => e = .returned (.int .i64 16) ∧ Keeps W w') := Lib.hid fun X k => (P.gap 5 X (small (by omega) (by omega)) (hp _ k)).mono fun e w' ⟨h1, h2⟩ => ⟨h1, k.trans h2⟩
  clear hp
  go_enter Try.func8, Try.ntmps8
  go_wp2_with fail
  refine CN.out.mono ?_
  rintro e w1 ⟨b, rfl, hm⟩
  obtain ⟨w2, hw2⟩ : ∃ w2, w1.alloc (keBox 1 1) = w2 := ⟨_, rfl⟩
  have M2 : Hid (MK P W w1.heap.size 1 1 w2 b []) := Lib.hid ⟨hw2 ▸ (hm.aside P.lies (keBox 1 1)).sub (fun i hi => Or.inr hi), hw2 ▸ heap_alloc_new _ _⟩
  have EW2 := Lib.hid hw2
  obtain ⟨K, hK⟩ : ∃ K, w1.heap.size = K := ⟨_, rfl⟩
  rw [hK] at M2
  have HK := Lib.hid hK
  unfold keBox at EW2
  clear hw2 hm CN hK
  go_upto_region 3 with (fail)
  rw [EW2.out, HK.out]
  clear EW2 HK
  obtain ⟨z0, z1⟩ := M2.out.cells
  go_wp2_with fail
  refine (CS.out _ _ _ M2.out).mono ?_
  rintro e w3 ⟨rfl, m3⟩
  have M3 := Lib.hid m3
  clear m3 z0 z1 M2
  go_wp2_with fail
  go_loopg [3] 31 (fun g v3 X => ∃ k : Nat, k + g = 31 ∧ v3 = .int .i64 (k : Int) ∧ MK P W K 1 1 X b (stW k))
  case atStart => exact ⟨0, by omega, rfl, M3.out⟩
  case round =>
    obtain ⟨k, hk, rfl, hm⟩ := hrel
    have HI := Lib.hid hk
    have HM := Lib.hid hm
    obtain ⟨z0, z1⟩ := hm.cells
    clear hk hm
    cases gk with
    | zero =>
      obtain rfl : k = 31 := by have := HI.out; omega
      rw [show ((31 : Nat) : Int) = (31 : Int) from rfl]
      go_wp2_with fail
      refine (C31.out _ _ _ HM.out).mono ?_
      rintro e w4 ⟨rfl, m4⟩
      have M4 := Lib.hid m4
      clear m4 z0 z1
      go_wp2_with fail
      refine (CL.out _ _ _ M4.out).mono ?_
      rintro e w5 ⟨g5, c5, rfl, _, m5⟩
      have M5 := Lib.hid m5
      clear m5
      go_wp2_with fail
      refine (CL.out _ _ _ M5.out).mono ?_
      rintro e w6 ⟨g6, c6, rfl, p6, m6⟩
      have M6 := Lib.hid m6
      obtain ⟨z0, z1⟩ := m6.cells
      clear m6
      go_wp2_with fail
      refine (CA.out _ _ _ M6.out).mono ?_
      rintro e w7 ⟨rfl, m7⟩
      have M7 := Lib.hid m7
      clear m7 z0 z1 p6
      go_wp2_with fail
      refine (CB.out _ _ _ M7.out).mono ?_
      rintro e w8 ⟨rfl, m8⟩
      have M8 := Lib.hid m8
      obtain ⟨z0, z1⟩ := m8.cells
      clear m8
      go_wp2_with fail
      refine (C41.out _ _ _ M8.out).mono ?_
      rintro e w9 ⟨rfl, k9⟩
      have K9 := Lib.hid k9
      clear k9 z0 z1
      go_wp2_with fail
      refine (CG.out _ K9.out).mono ?_
      rintro e wa ⟨rfl, ka⟩
      have KA := Lib.hid ka
      clear ka
      go_wp2
      go_ret
      exact ⟨rfl, KA.out⟩
    | succ g =>
      have hk30 : k ≤ 30 := by have := HI.out; omega
      have hk1 : (k : Int) ≤ 30 := by omega
      have C := Lib.hid (CT.out _ _ _ k hk30 HM.out)
      have wi : Hid (wrap64 ((k : Int) + 1) = (k : Int) + 1) := Lib.hid (i64w (by unfold top; omega) (by unfold top; omega))
      have t1 : decide (k = 1 ∨ k = 3 ∨ k = 7 ∨ k = 15) = (((k : Int) == 1) || ((k : Int) == 3) || ((k : Int) == 7) || ((k : Int) == 15)) := by
        have e : ∀ n : Nat, ((k : Int) == (n : Int)) = decide (k = n) := fun n => by
          by_cases h : k = n
          · subst h; simp
          · have h2 : ¬ ((k : Int) = (n : Int)) := by omega
            simp [h, h2]
        have e1 := e 1
        have e3 := e 3
        have e7 := e 7
        have e15 := e 15
        rw [show ((1 : Nat) : Int) = 1 from rfl] at e1
        rw [show ((3 : Nat) : Int) = 3 from rfl] at e3
        rw [show ((7 : Nat) : Int) = 7 from rfl] at e7
        rw [show ((15 : Nat) : Int) = 15 from rfl] at e15
        rw [e1, e3, e7, e15]
        simp only [Bool.decide_or, Bool.or_assoc]
      rw [t1] at C
      clear t1
      obtain ⟨b1, hb1⟩ : ∃ B, ((k : Int) == 1) = B := ⟨_, rfl⟩
      obtain ⟨b3, hb3⟩ : ∃ B, ((k : Int) == 3) = B := ⟨_, rfl⟩
      obtain ⟨b7, hb7⟩ : ∃ B, ((k : Int) == 7) = B := ⟨_, rfl⟩
      obtain ⟨b15, hb15⟩ : ∃ B, ((k : Int) == 15) = B := ⟨_, rfl⟩
      rw [hb1, hb3, hb7, hb15] at C
      have H30 := Lib.hid hk30
      clear hk30
      cases b1 with
      | true =>
        clear hb3 hb7 hb15
        simp only [Bool.true_or] at C
        go_wp2_with fail
        refine C.out.mono ?_
        rintro e w4 ⟨rfl, m4⟩
        have M4 := Lib.hid m4
        clear m4
        go_wp2_with fail
        go_roundg g
        case measure => omega
        case rel => exact ⟨k + 1, by have := HI.out; omega, by first | (rw [wi.out]; rfl) | rfl | go_num, M4.out⟩
      | false =>
      cases b3 with
      | true =>
        clear hb7 hb15
        simp only [Bool.true_or, Bool.false_or] at C
        go_wp2_with fail
        refine C.out.mono ?_
        rintro e w4 ⟨rfl, m4⟩
        have M4 := Lib.hid m4
        clear m4
        go_wp2_with fail
        go_roundg g
        case measure => omega
        case rel => exact ⟨k + 1, by have := HI.out; omega, by first | (rw [wi.out]; rfl) | rfl | go_num, M4.out⟩
      | false =>
      cases b7 with
      | true =>
        clear hb15
        simp only [Bool.true_or, Bool.false_or] at C
        go_wp2_with fail
        refine C.out.mono ?_
        rintro e w4 ⟨rfl, m4⟩
        have M4 := Lib.hid m4
        clear m4
        go_wp2_with fail
        go_roundg g
        case measure => omega
        case rel => exact ⟨k + 1, by have := HI.out; omega, by first | (rw [wi.out]; rfl) | rfl | go_num, M4.out⟩
      | false =>
      simp only [Bool.false_or] at C
      cases b15 with
      | true =>
        go_wp2_with fail
        refine C.out.mono ?_
        rintro e w4 ⟨rfl, m4⟩
        have M4 := Lib.hid m4
        clear m4
        go_wp2_with fail
        go_roundg g
        case measure => omega
        case rel => exact ⟨k + 1, by have := HI.out; omega, by first | (rw [wi.out]; rfl) | rfl | go_num, M4.out⟩
      | false =>
        go_wp2_with fail
        refine C.out.mono ?_
        rintro e w4 ⟨rfl, m4⟩
        have M4 := Lib.hid m4
        clear m4
        go_wp2_with fail
        go_roundg g
        case measure => omega
        case rel => exact ⟨k + 1, by have := HI.out; omega, by first | (rw [wi.out]; rfl) | rfl | go_num, M4.out⟩
end Wt
end Go.Proofs.Ytbemkcnikoiecaa
