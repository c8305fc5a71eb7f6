
/- The program's waits: Copy. -/
import Derived.Test.YtbemkcnikoiecaaWmC4
set_option linter.unusedVariables false
set_option linter.unusedSimpArgs false
namespace Go.Proofs.Ytbemkcnikoiecaa
open Go.ChangeShapes Go.WideShapes Go.ChangeAt Go.RowKit Csv Ky Km Ob
namespace Wt
set_option maxHeartbeats 4000000 in
set_option maxRecDepth 100000 in
theorem clone_w (b : Nat) (es : Array MapEntry) (clock : Nat) (w : World) (hb : w.heap[b]? = some (.map es clock)) :
    Calls Try.prog 34 #[.map (some b)] w fun e w' => e = .returned (.map (some w.heap.size)) ∧ w' = w.alloc (.map es clock) := by
  have hq := fun w => run_eql_map_nil_sl (P := Try.prog) w tMw _ _ (some b) Try.underlying48
  go_enter Try.func34, Try.ntmps34
  go_wp2
  rw [run_callFunc_extern Try.func43 (by kernel_rfl) (by kernel_rfl) (by kernel_rfl) (e := Extern.MapsClone.clone) (by kernel_rfl), run_maps_clone_sl w tMw hb]
  simp only [Result.andThen]
  rw [Oper.upon_value]
  go_wp2
  rw [run_typeAssert_map_sl _ tMw 20 _ _ _ Try.underlying48]
  simp only [Result.andThen]
  rw [Oper.upon_value]
  go_wp2
  go_ret
  exact ⟨rfl, rfl⟩
set_option maxRecDepth 100000 in
theorem pw_copy {W : World} {b m : Nat} {l : List W5} (h : PwAt W b m l) :
    Calls Try.prog 20 #[.pointer (some ⟨b, 0, none⟩)] W fun e w' => New WsAt W w' e l := by
  have CN := Lib.hid (pw_none h)
  have c0 := h.cell
  obtain ⟨D, ho, hA⟩ := h.map
  obtain ⟨es, clock, hb, F, hs, hD⟩ := ho
  have CL := Lib.hid (clone_w m es clock W hb)
  have OW : Hid (∀ (X : World) (c : Nat), X.heap[c]? = some (.map es clock) → X.ownsMap Try.prog tKy asIs c l.length D) := Lib.hid fun X c hc => ⟨es, clock, hc, F, hs, hD⟩
  have HI := Lib.hid (And.intro hA h.inv)
  clear h hA hb F hs hD
  go_enter Try.func20, Try.ntmps20
  go_wp2_with fail
  refine CN.out.mono ?_
  rintro e w1 ⟨rfl, rfl⟩
  go_wp2_with fail
  refine CL.out.mono ?_
  rintro e w2 ⟨rfl, rfl⟩
  go_wp2
  go_ret
  have k1 := ky_box w1 (.map es clock)
  have k2 := ky_box (w1.alloc (.map es clock)) (.cells #[.map (some w1.heap.size)] tWs)
  have z1 : (w1.alloc (.map es clock)).heap.size = w1.heap.size + 1 := by simp
  refine ⟨⟨w1.heap.size + 1, fun i => i = w1.heap.size + 1 ∨ i = w1.heap.size, rfl, ⟨w1.heap.size, ⟨?_, ⟨D, OW.out _ _ ((k2.block _ (by rw [z1]; omega)).trans (heap_alloc_new w1 _)), HI.out.1⟩, HI.out.2⟩, fun i => Iff.rfl⟩, fun i hi => by omega⟩, k1.trans k2⟩
  have := heap_alloc_new (w1.alloc (.map es clock)) (.cells #[.map (some w1.heap.size)] tWs)
  rw [z1] at this
  exact this
end Wt
end Go.Proofs.Ytbemkcnikoiecaa
