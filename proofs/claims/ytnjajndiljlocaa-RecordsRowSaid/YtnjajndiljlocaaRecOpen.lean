
/- A slice of texts that came in, opened, with its capacity. -/
import Derived.Test.YtnjajndiljlocaaRecTorn
import Derived.Test.YtnjajndiljlocaaOpenArgs
set_option linter.unusedVariables false
namespace Go.Proofs.Ytnjajndiljlocaa
open Go.ChangeShapes Go.WideShapes Go.ChangeAt Go.RowKit Csv Go.Deep
variable {H : Type} {enc : TypeId × Value → H} {w : World} {base : Nat} {held : Bool}

theorem open_strs_cap {p : Option Addr} {n c : Nat} {v : Value} {d : DataW H} {ps : List MemPlace} (e : v = .slice p n c) (h : DataW.Trod enc Try.prog w base (fun _ => true) held 27 v d ps) : ∃ r : List Bs, StrsAt w v r ∧ ∀ p n c, v = .slice p n c → n ≤ c := by
  obtain ⟨r, hr, _⟩ := open_strs_arg e h
  refine ⟨r, hr, ?_⟩
  obtain ⟨fuel, h⟩ := h
  subst e
  rcases open_strings Try.underlying27 Try.underlying9 cells_str h with ⟨hcs, _⟩ | ⟨a, len, cap, ss, hcs, _, hl, hm, hz, _, hcell, hsz⟩
  · intro p' n' c' e'
    rw [(List.cons.inj hcs).1] at e'
    cases e'
    exact Nat.le_refl _
  · intro p' n' c' e'
    rw [(List.cons.inj hcs).1] at e'
    cases e'
    omega
theorem recordsRow_law (v : Value) (P : List (List UInt8)) (b : ByteArray) (pl : Int) (w : World) (h : StrsAt w v P ∧ ∀ p n c, v = .slice p n c → n ≤ c) (hb : b.size ≤ maxLen) (hpl : (Lit.int .u16 pl).wf = true) :
    Calls Try.prog 4 #[v, .string b, .int .u16 pl] w fun e w' => e = .returned (.bool true) ∧ Keeps w w' := recordsRow_go v P b pl w h.1 hb hpl
theorem recordsTorn_law (v : Value) (P : List (List UInt8)) (ct : Int) (w : World) (h : StrsAt w v P ∧ ∀ p n c, v = .slice p n c → n ≤ c) (hct : (Lit.int .u16 ct).wf = true) :
    Calls Try.prog 6 #[v, .int .u16 ct] w fun e w' => e = .returned (.bool true) ∧ Keeps w w' := recordsTorn_go v P ct w h.1 h.2 hct
end Go.Proofs.Ytnjajndiljlocaa
