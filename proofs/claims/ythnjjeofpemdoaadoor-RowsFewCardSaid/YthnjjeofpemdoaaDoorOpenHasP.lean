
/- What the program's table of parties holds when a call begins. -/
import Derived.Test.YthnjjeofpemdoaaDoorRows
import Derived.Test.YthnjjeofpemdoaaDoorKyC1
import Derived.LaidSub
import Derived.LaidMore
import Derived.ProofKit
import Derived.OpenShut
import Derived.Lib.SmallJoins
set_option linter.unusedVariables false
namespace Go.Proofs.YthnjjeofpemdoaaDoor
open Go.ChangeShapes Go.WideShapes Go.ChangeAt Go.RowKit Mon Ky
variable {H : Type} {enc : TypeId × Value → H} {w : World} {base : Nat} {held : Bool} {sp : Nat → Bool}

theorem hasP_of {W : World} {l : List (String × DataW Unit)} (h : laidMetH Tryd.prog l W) (hf : l.filter (fun p => p.1 == "consignor/keys.parties") = [("consignor/keys.parties", Rows.laid_consignor_keys_parties)]) : HasP W := by
  have h := h.filter fun p => p.1 == "consignor/keys.parties"
  rw [hf, MakeChecks.laidMetH_plain _ _ _ (by kernel_rfl)] at h
  obtain ⟨ps, ⟨g, t, cs, fuel, p, q, hg, ht, hv, hd, _, _⟩, _, _⟩ := h
  obtain rfl := Option.some.inj ((show Tryd.prog.globalNamed "consignor/keys.parties" = some 0 by kernel_rfl).symm.trans hg)
  obtain rfl := Option.some.inj ((show (Tryd.prog.globals[0]?).map (·.type) = some 71 by kernel_rfl).symm.trans ht)
  obtain ⟨xs, m, _, ex, _, hl, hel⟩ := DataW.trod_array Tryd.underlying71 hd
  have c5 : Tryd.prog.cellsOf 3 = 1 := by kernel_rfl
  intro d hd6
  have hE := hel d hd6
  rw [c5, Nat.mul_one, List.getElem?_eq_getElem (by omega)] at hE
  obtain ⟨z, e1, e2, _⟩ := DataW.trod_int Tryd.underlying3 hE
  have e3 : (xs.map (·.1)) = [.lit (.int .i64 1), .lit (.int .i64 0), .lit (.int .i64 2), .lit (.int .i64 1), .lit (.int .i64 0), .lit (.int .i64 2)] := (DataW.agg.inj (Prod.mk.inj ex).1).symm
  have e4 : (xs.map (·.1))[d]? = some (.lit (.int .i64 z)) := by
    rw [List.getElem?_map, List.getElem?_eq_getElem (by omega : d < xs.length)]
    simp [e2]
  rw [e3] at e4
  have hz : z = partyK d := by
    obtain rfl | rfl | rfl | rfl | rfl | rfl : d = 0 ∨ d = 1 ∨ d = 2 ∨ d = 3 ∨ d = 4 ∨ d = 5 := by omega
    all_goals (simp at e4; rw [← e4]; rfl)
  rw [World.var?_cell hg hv d, ← hz]
  have h0 : ((cs.toList.drop d).take 1)[0]? = some (.int .i64 z) := by rw [e1]; rfl
  simpa using h0
theorem hasP_heap {w W : World} (e : w.heap = W.heap) (h : HasP w) : HasP W := fun d hd => by
  have := h d hd
  unfold World.cell? at this ⊢
  rw [← e]; exact this
theorem hasPW_of {W : World} {l : List (String × DataW Unit)} (hx : ∃ w0 : World, w0.heap = W.heap ∧ laidMetH Tryd.prog l w0) (hf : l.filter (fun p => p.1 == "consignor/keys.parties") = [("consignor/keys.parties", Rows.laid_consignor_keys_parties)]) : HasP W := by
  obtain ⟨w0, e, h⟩ := hx
  exact hasP_heap e (hasP_of h hf)
end Go.Proofs.YthnjjeofpemdoaaDoor
