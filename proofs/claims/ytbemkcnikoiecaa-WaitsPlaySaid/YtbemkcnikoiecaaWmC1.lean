
/- The program's waits: as they lie; none, tick, Gap, tried, New, Start, Due, Stop, Again. -/
import Derived.Test.YtbemkcnikoiecaaWmIs
import Derived.Test.YtbemkcnikoiecaaWtP
import Derived.Deep.RegionWith
import Derived.Deep.DeepCutAuto
set_option linter.unusedVariables false
set_option linter.unusedSimpArgs false
namespace Go.Proofs.Ytbemkcnikoiecaa
open Go.ChangeShapes Go.WideShapes Go.ChangeAt Go.RowKit Csv Ky Km Ob
namespace Wt
abbrev tWs : TypeId := 50
def wsObj (m : Nat) : Obj := .cells #[.map (some m)] tWs (0, 0)
/-- Waits, as they lie: a box, a map. -/
structure PwAt (W : World) (b m : Nat) (l : List W5) : Prop where
  box : W.heap[b]? = some (wsObj m)
  map : ∃ D, W.ownsMap Try.prog tKy asIs m l.length D ∧ ApW D l
  inv : Inv l
section
variable {W X : World} {b m : Nat} {l l' : List W5}
theorem PwAt.lt (h : PwAt W b m l) : b < W.heap.size ∧ m < W.heap.size := by
  obtain ⟨D, ho, _⟩ := h.map
  exact ⟨wbox_lt h.box, ho.lt⟩
theorem PwAt.ne (h : PwAt W b m l) : b ≠ m := fun e => by
  obtain ⟨D, ⟨es, clock, hb, _⟩, _⟩ := h.map
  have := h.box
  rw [e, hb] at this
  cases this
theorem PwAt.loc (h : PwAt W b m l) (e1 : X.heap[b]? = W.heap[b]?) (e2 : X.heap[m]? = W.heap[m]?) : PwAt X b m l := by
  obtain ⟨D, ho, hA⟩ := h.map
  exact ⟨e1.trans h.box, ⟨D, own_map ho e2, hA⟩, h.inv⟩
theorem PwAt.keeps (h : PwAt W b m l) (k : Keeps W X) : PwAt X b m l := h.loc (k.block b h.lt.1) (k.block m h.lt.2)
theorem PwAt.cell (h : PwAt W b m l) : W.cell? ⟨b, 0, none⟩ = some (.map (some m)) := by
  simp [World.cell?, h.box, wsObj]
/-- Another map in its place. -/
theorem PwAt.turn {n : Nat} {D : DataW Value} (h : PwAt W b m l) (hb : X.heap[b]? = W.heap[b]?) (ho : X.ownsMap Try.prog tKy asIs m n D) (hA : ApW D l') (hi : Inv l') : PwAt X b m l' :=
  ⟨hb.trans h.box, ⟨D, by rw [← hA.size ho hi.dist hi.keysOk]; exact own_tight ho, hA⟩, hi⟩
theorem grown_only {m : Nat} (g : W.grownBy X (some m)) : Only (fun i => i = m) W X := ⟨g.os, g.tape, g.output, g.size, fun i hi hn => g.block i hi (fun e => hn (by cases e; rfl))⟩
theorem keeps_eq {W X : World} (h : X = W) : Keeps W X := by subst h; exact Keeps.refl _
end
/-! ### none, tick, Gap, tried -/
theorem pw_none {W : World} {b m : Nat} {l : List W5} (h : PwAt W b m l) : Calls Try.prog 31 #[.pointer (some ⟨b, 0, none⟩)] W fun e w' => e = .returned (.bool false) ∧ w' = W := by
  have c0 := h.cell
  have hq := fun w => run_eql_map_nil_sl (P := Try.prog) w tMw _ _ (some m) Try.underlying48
  clear h
  go_enter Try.func31, Try.ntmps31
  go_wp2
  go_ret
  exact ⟨rfl, rfl⟩
theorem pw_none_nil (W : World) : Calls Try.prog 31 #[.pointer none] W fun e w' => e = .returned (.bool true) ∧ w' = W := by
  go_enter Try.func31, Try.ntmps31
  go_wp2
  go_ret
  exact ⟨rfl, rfl⟩
set_option maxRecDepth 100000 in
theorem pw_none_zero {W : World} {b : Nat} (h : W.cell? ⟨b, 0, none⟩ = some (.map none)) : Calls Try.prog 31 #[.pointer (some ⟨b, 0, none⟩)] W fun e w' => e = .returned (.bool true) ∧ w' = W := by
  have hq := fun w => run_eql_map_nil_sl (P := Try.prog) w tMw _ _ none Try.underlying48
  go_enter Try.func31, Try.ntmps31
  go_wp2
  go_ret
  exact ⟨rfl, rfl⟩
set_option maxRecDepth 100000 in
theorem pw_tick (n : Int) (W : World) : Calls Try.prog 32 #[.int .i64 n] W fun e w' => e = .returned (.int .i64 (near n)) ∧ w' = W := by
  by_cases h0 : n < 0
  · have E : near n = 0 := by unfold near; rw [if_pos h0]
    rw [E]
    have h1 : ¬ 0 ≤ n := by omega
    go_enter Try.func32, Try.ntmps32
    go_wp2
    all_goals
      go_ret
      exact ⟨rfl, rfl⟩
  · by_cases h1 : n < 1099511627776
    · have E : near n = n := by unfold near far; rw [if_neg h0, if_pos h1]
      rw [E]
      have h2 : 0 ≤ n := by omega
      go_enter Try.func32, Try.ntmps32
      go_wp2
      all_goals
        go_ret
        exact ⟨rfl, rfl⟩
    · have E : near n = 1099511627776 := by unfold near far; rw [if_neg h0, if_neg h1]
      rw [E]
      have h2 : 0 ≤ n := by omega
      have h3 : 1099511627776 ≤ n := by omega
      go_enter Try.func32, Try.ntmps32
      go_wp2
      all_goals
        go_ret
        first
          | exact ⟨rfl, rfl⟩
          | (refine ⟨?_, rfl⟩; show Ending.returned (Value.int .i64 n) = _; rw [show n = 1099511627776 by omega])
set_option maxRecDepth 100000 in
theorem pw_gap (t : Int) (W : World) : Calls Try.prog 23 #[.int .i64 t] W fun e w' => e = .returned (.int .i64 (gapN t)) ∧ w' = W := by
  have hc : t < 1 ∨ (t = 1 ∨ t = 2 ∨ t = 3 ∨ t = 4 ∨ t = 5 ∨ t = 6 ∨ t = 7 ∨ t = 8 ∨ t = 9 ∨ t = 10 ∨ t = 11 ∨ t = 12 ∨ t = 13 ∨ t = 14 ∨ t = 15 ∨ t = 16) ∨ 16 < t := by omega
  rcases hc with h | h | h
  · have E : gapN t = 0 := by unfold gapN; rw [if_pos h]
    rw [E]
    go_enter Try.func23, Try.ntmps23
    go_wp2
    all_goals
      go_ret
      exact ⟨rfl, rfl⟩
  · rcases h with rfl | rfl | rfl | rfl | rfl | rfl | rfl | rfl | rfl | rfl | rfl | rfl | rfl | rfl | rfl | rfl
    all_goals
      go_enter Try.func23, Try.ntmps23
      go_wp2
      all_goals
        go_ret
        exact ⟨rfl, rfl⟩
  · have E : gapN t = 16 := by
      unfold gapN
      rw [if_neg (by omega), if_neg (by omega), if_neg (by omega), if_neg (by omega), if_neg (by omega)]
    rw [E]
    have h1 : ¬ t < 1 := by omega
    have h2 : ¬ t < 16 := by omega
    have h3 : ¬ t ≤ 16 := by omega
    go_enter Try.func23, Try.ntmps23
    go_wp2
    all_goals
      go_ret
      exact ⟨rfl, rfl⟩
end Wt
end Go.Proofs.Ytbemkcnikoiecaa
