
/- The program's Put of orders, and the document's. -/
import Derived.Test.YtkffpmeocfhcpaaDoorOdC2
import Derived.Test.YtkffpmeocfhcpaaDoorBitsReadC
import Derived.Test.YtkffpmeocfhcpaaDoorBitsRefC
import Derived.Test.YtkffpmeocfhcpaaDoorKyRefG
import Derived.Deep.RegionHeld3
import Derived.Deep.QuietTactic
import Derived.BigQuiet
set_option linter.unusedVariables false
namespace Go.Proofs.YtkffpmeocfhcpaaDoor
open Go.ChangeShapes Go.WideShapes Go.ChangeAt Go.RowKit Bit Ky Od

def putOS (i : Int) (r s : ByteArray) (q a : Int) : ByteArray := ⟨(putO i r s q a).toArray⟩
theorem od_cells (w : World) (i : Int) (r s : ByteArray) (q a : Int) : ∀ W, Keeps (w.alloc (odBox i r s q a)) W →
    W.cell? ⟨w.heap.size, 0, none⟩ = some (.int .i64 i) ∧ W.cell? ⟨w.heap.size, 1, none⟩ = some (.string r) ∧ W.cell? ⟨w.heap.size, 2, none⟩ = some (.string s) ∧ W.cell? ⟨w.heap.size, 3, none⟩ = some (.int .i64 q) ∧ W.cell? ⟨w.heap.size, 4, none⟩ = some (.int .i64 a) := fun W k => by
  have e := (k.block _ (by simp)).trans (heap_alloc_new w (odBox i r s q a))
  exact ⟨Joins.cell_of_block e 0, Joins.cell_of_block e 1, Joins.cell_of_block e 2, Joins.cell_of_block e 3, Joins.cell_of_block e 4⟩
theorem cat_raw {i q a : Int} {r s V1 V2 V3 V4 V5 S1 S2 S3 S4 : ByteArray} (h1 : ⟨(sev i.toNat).toArray⟩ = V1) (h2 : ⟨(text r.data.toList).toArray⟩ = V2) (h3 : ⟨(text s.data.toList).toArray⟩ = V3) (h4 : ⟨(sev q.toNat).toArray⟩ = V4) (h5 : ⟨(sev a.toNat).toArray⟩ = V5)
    (e1 : V1 ++ V2 = S1) (e2 : S1 ++ V3 = S2) (e3 : S2 ++ V4 = S3) (e4 : S3 ++ V5 = S4) : S4 = ⟨(rawO i r s q a).toArray⟩ := by
  subst h1 h2 h3 h4 h5 e1 e2 e3 e4
  unfold rawO
  simp only [ByteArray.mk_append_mk]
theorem small_sev {n : Int} (h0 : 0 ≤ n) (h : n ≤ 1099511627776) : (⟨(sev n.toNat).toArray⟩ : ByteArray).size ≤ 10 := by
  rw [size_mk]
  exact sev_le (by have ht : topN = 18446744073709551616 := rfl; omega)
theorem small_text {r : ByteArray} (h : r.size ≤ 16) : (⟨(text r.data.toList).toArray⟩ : ByteArray).size ≤ 26 := by
  rw [size_mk]
  unfold text
  rw [List.length_append, len_data]
  have := sev_le (n := r.size) (by have ht : topN = 18446744073709551616 := rfl; omega)
  omega
theorem u64s {n : Int} (h0 : 0 ≤ n) (h : n ≤ 1099511627776) : IntKind.u64.wrap n = ((n.toNat : Nat) : Int) := by
  rw [u64w h0 (by have ht : (topN : Int) = 18446744073709551616 := rfl; omega)]; omega

end Go.Proofs.YtkffpmeocfhcpaaDoor
