
/- The program's waits: tried, New, begin, Start, Due, Stop, Again. -/
import Derived.Test.YtbemkcnikoiecaaWmC1
set_option linter.unusedVariables false
set_option linter.unusedSimpArgs false
namespace Go.Proofs.Ytbemkcnikoiecaa
open Go.ChangeShapes Go.WideShapes Go.ChangeAt Go.RowKit Csv Ky Km Ob
namespace Wt
theorem only_drew {F : Nat → Prop} {W X : World} (h : Only F W X) : Only F W X.drew := h.trans (Only.of_keeps (ky_drew X))
theorem PwAt.drew {W : World} {b m : Nat} {l : List W5} (h : PwAt W b m l) : PwAt W.drew b m l := h.keeps (ky_drew W)
/-- A wait that is asked for again, or parked. -/
def tryW (m : Int) (x : W5) : W5 := if 5 ≤ x.t then { x with p := true } else { x with t := x.t + 1, n := m + gapN (x.t + 1) }
theorem tick1_now {m : Int} {x : W5} (h : nowB m x = true) : tick1 m x = tryW m x := by unfold tick1 tryW; rw [if_pos h]
theorem tick1_not {m : Int} {x : W5} (h : nowB m x = false) : tick1 m x = x := by unfold tick1; rw [if_neg (by rw [h]; exact Bool.false_ne_true)]
set_option maxHeartbeats 4000000 in
set_option maxRecDepth 100000 in
theorem pw_tried (x : W5) (m : Int) (W : World) (hx : Ok x) (m0 : 0 ≤ m) (m1 : m ≤ far) : Calls Try.prog 33 #[wtV x, .int .i64 m] W fun e w' => e = .returned (wtV (tryW m x)) ∧ Keeps W w' := by
  obtain ⟨o, d, t, n, p⟩ := x
  obtain ⟨_, t0, t5, _, _⟩ := hx
  simp only at t0 t5
  unfold far at m1
  have K2 := Lib.hid fun (a b : Obj) => Keeps.trans (ky_box W a) (ky_box (W.alloc a) b)
  by_cases h : 5 ≤ t
  · have E : Hid (wtV (tryW m ⟨o, d, t, n, p⟩) = .agg #[.int .i64 o, .int .i64 d, .int .i64 t, .int .i64 n, .bool true]) := Lib.hid (by unfold tryW; rw [if_pos h]; rfl)
    rw [E.out]
    unfold wtV
    go_enter Try.func33, Try.ntmps33
    go_wp2
    refine bodyPost_ret (v := .agg #[.int .i64 o, .int .i64 d, .int .i64 t, .int .i64 n, .bool true]) (by simp [results, Try.results33, go_sem]) rfl ?_
    exact ⟨rfl, K2.out _ _⟩
  · have g := gap_in (t + 1)
    obtain ⟨q, hq⟩ : ∃ q, gapN (t + 1) = q := ⟨_, rfl⟩
    have E : Hid (wtV (tryW m ⟨o, d, t, n, p⟩) = .agg #[.int .i64 o, .int .i64 d, .int .i64 (t + 1), .int .i64 (m + q), .bool p]) := Lib.hid (by unfold tryW; rw [if_neg h]; rw [← hq]; rfl)
    have CG := Lib.hid fun X => pw_gap (t + 1) X
    rw [hq] at CG
    rw [E.out]
    rw [hq] at g
    unfold wtV
    clear hq
    go_enter Try.func33, Try.ntmps33
    go_wp2_with fail
    refine (CG.out _).mono ?_
    rintro e w1 ⟨rfl, rfl⟩
    go_wp2
    refine bodyPost_ret (v := .agg #[.int .i64 o, .int .i64 d, .int .i64 (t + 1), .int .i64 (m + q), .bool p]) (by simp [results, Try.results33, go_sem]) rfl ?_
    exact ⟨rfl, K2.out _ _⟩
/-! ### New -/
def WsAt (W : World) (b : Nat) (F : Nat → Prop) (l : List W5) : Prop := ∃ m, PwAt W b m l ∧ ∀ i, F i ↔ i = b ∨ i = m
theorem ws_lies : Lies WsAt where
  loc := fun {W W' b F l} ⟨m, h, hF⟩ hs => ⟨m, h.loc (hs b ((hF b).2 (Or.inl rfl))) (hs m ((hF m).2 (Or.inr rfl))), hF⟩
  lt := fun {W b F l} ⟨m, h, hF⟩ {i} hi => by
    rcases (hF i).1 hi with rfl | rfl
    · exact h.lt.1
    · exact h.lt.2
theorem ws_goes {W X : World} {b m : Nat} {F : Nat → Prop} {l' : List W5} (hF : ∀ i, F i ↔ i = b ∨ i = m) (h : PwAt X b m l') (o : Only (fun i => i = m) W X) : Goes WsAt W X b F l' :=
  Goes.same ⟨m, h, hF⟩ (o.mono fun i hi => (hF i).2 (Or.inr hi))
set_option maxRecDepth 100000 in
theorem pw_new (W : World) : Calls Try.prog 9 #[] W fun e w' => New WsAt W w' e [] := by
  have hmm := @run_makeMap Try.prog
  go_enter Try.func9, Try.ntmps9
  go_wp2
  go_ret
  have k1 := ky_box W (.map #[] 0)
  have k2 := ky_box (W.alloc (.map #[] 0)) (.cells #[.map (some W.heap.size)] tWs)
  have z1 : (W.alloc (.map #[] 0)).heap.size = W.heap.size + 1 := by simp
  refine ⟨⟨W.heap.size + 1, fun i => i = W.heap.size + 1 ∨ i = W.heap.size, rfl, ⟨W.heap.size, ⟨?_, ⟨_, own_map (World.ownsMap_made W Try.prog tKy asIs) (k2.block _ (by rw [z1]; omega)), apW_nil⟩, inv_nil⟩, fun i => Iff.rfl⟩, fun i hi => by omega⟩, k1.trans k2⟩
  have := heap_alloc_new (W.alloc (.map #[] 0)) (.cells #[.map (some W.heap.size)] tWs)
  rw [z1] at this
  exact this
end Wt
end Go.Proofs.Ytbemkcnikoiecaa
