
/- Slices of texts, of integers and of bytes that came in, opened. -/
import Derived.Test.YtbemkcnikoiecaaFixedC
import Derived.Deep.Slices
import Derived.SliceStrings
set_option linter.unusedVariables false
namespace Go.Proofs.Ytbemkcnikoiecaa
open Go.ChangeShapes Go.WideShapes Go.ChangeAt Go.RowKit Csv Go.Deep

/-- What is read of a slice of bytes. -/
def U8sAt (w : World) (v : Value) (l : Bs) : Prop := ∃ p c, v = .slice p l.length c ∧ l.length ≤ maxLen ∧ BytesRd w p l
theorem U8sAt.keeps {w w' : World} {v : Value} {l : Bs} (h : U8sAt w v l) (k : Keeps w w') : U8sAt w' v l := by
  obtain ⟨p, c, h1, h2, h3⟩ := h
  exact ⟨p, c, h1, h2, h3.keeps k⟩

variable {H : Type} {enc : TypeId × Value → H} {w : World} {base : Nat} {held : Bool}

theorem cells_str : Try.prog.cellsOf 9 = 1 := by kernel_rfl
theorem cells_int : Try.prog.cellsOf 3 = 1 := by kernel_rfl
theorem cells_u8 : Try.prog.cellsOf 5 = 1 := by kernel_rfl

theorem open_u8s_arg {p : Option Addr} {n c : Nat} {v : Value} {d : DataW H} {ps : List MemPlace} (e : v = .slice p n c) (h : DataW.Trod enc Try.prog w base (fun _ => true) held 52 v d ps) : ∃ l : Bs, U8sAt w v l := by
  obtain ⟨fuel, h⟩ := h
  subst e
  rcases open_ints Try.underlying52 Try.underlying5 cells_u8 h with ⟨hcs, _⟩ | ⟨a, len, cap, zs, hcs, _, hl, hm, hz, _, hcell, hwf⟩
  · rw [(List.cons.inj hcs).1]
    exact ⟨[], none, 0, rfl, by simp [maxLen], fun j c hc => by simp at hc⟩
  · rw [(List.cons.inj hcs).1]
    simp only [if_true] at hz
    refine ⟨(zs.take len).map (fun n => UInt8.ofNat n.toNat), some a, cap, ?_, ?_, fun j x hx => ⟨a, rfl, ?_⟩⟩
    · simp [hz]; omega
    · simp [hz]; omega
    · have hj : j < len := by
        have := (List.getElem?_eq_some_iff.1 hx).1
        simp at this; omega
      rw [hcell j (by omega)]
      rw [List.getElem?_map, List.getElem?_take, if_pos hj] at hx
      obtain ⟨n, hn, rfl⟩ := Option.map_eq_some_iff.1 hx
      have hw := hwf n (List.mem_of_getElem? hn)
      simp [Lit.wf, IntKind.min, IntKind.max, IntKind.signed, IntKind.bits] at hw
      simp [List.getD, hn]
      omega
end Go.Proofs.Ytbemkcnikoiecaa
