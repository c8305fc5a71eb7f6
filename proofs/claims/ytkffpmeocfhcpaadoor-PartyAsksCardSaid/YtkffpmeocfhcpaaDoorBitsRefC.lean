
/- The contracts of the document's Put, Get, Var, Sign, Back, Text (layer 2). -/
import Derived.Test.YtkffpmeocfhcpaaDoorBitsReadC
set_option linter.unusedVariables false
namespace Go.Proofs.YtkffpmeocfhcpaaDoor
open Go.ChangeShapes Go.WideShapes Go.ChangeAt Go.RowKit Bit

theorem u64_div {n k : Nat} (h : n < topN) : IntKind.u64.wrap ((n : Int) / k) = ((n / k : Nat) : Int) := by
  have := Nat.div_le_self n k
  rw [← Int.natCast_ediv, u64w (Int.natCast_nonneg _) (by omega)]
theorem byte_sum (n c : Nat) (h : n * 256 < topN) (hc : c < 256) : IntKind.u64.wrap (IntKind.u64.wrap ((n : Int) * 256) + IntKind.u64.wrap (c : Int)) = ((n * 256 + c : Nat) : Int) := by
  have ht : topN = 18446744073709551616 := rfl
  rw [u64w (n := (n : Int) * 256) (by omega) (by omega), u64w (n := (c : Int)) (by omega) (by omega), u64w (by omega) (by omega)]; omega
theorem be_front1 (k N : Nat) : (⟨#[b8 (N / 256 ^ k)]⟩ : ByteArray) ++ ⟨(be k N).toArray⟩ = ⟨(be (k + 1) N).toArray⟩ := by
  rw [be_front]; exact ByteArray.mk_append_mk [_] _
theorem hi_front1 (n : Nat) (l : List UInt8) : (⟨#[hi n]⟩ : ByteArray) ++ ⟨l.toArray⟩ = ⟨(hi n :: l).toArray⟩ := ByteArray.mk_append_mk [_] _
theorem b8_val (n : Nat) : (n : Int) % 256 = (b8 n).toNat := by rw [b8_toNat]; rfl
theorem hi_val (n : Nat) : (n : Int) % 128 + 128 = (hi n).toNat := by rw [hi_toNat]; rfl
theorem bcell {W w1 : World} (hb : Below W.heap.size W w1) : (∀ b o, b < W.heap.size → w1.cell? ⟨b, o, none⟩ = W.cell? ⟨b, o, none⟩) ∧ (∀ b o, b < W.heap.size → w1.frozen? ⟨b, o, none⟩ = W.frozen? ⟨b, o, none⟩) :=
  ⟨fun b o h => hb.cell (p := ⟨b, o, none⟩) h, fun b o h => hb.frozen (p := ⟨b, o, none⟩) h⟩
/-- One byte of a row, as a text, wherever it lies. -/
theorem byte_any {P : Program} (src e : TypeId) (hs : P.underlying src = some (.slice e)) (he : P.underlying e = some (.int .u8)) (v : Int) (c : UInt8) (hv : v = c.toNat) (dst : TypeId) (hd : P.underlying dst = some .string) :
    ∀ (w : World) (b : Nat), w.cell? ⟨b, 0, none⟩ = some (Value.int .u8 v) → (convert src dst (.slice (some ⟨b, 0, none⟩) 1 1)).run P w = .ok (.string ⟨#[c]⟩) w := by
  intro w b hc
  exact loaded_string (P := P) w src e hs he b 1 1 [c] rfl (fun i hi => by
    obtain rfl : i = 0 := by omega
    rw [hc, hv]; rfl) dst hd

end Go.Proofs.YtkffpmeocfhcpaaDoor
