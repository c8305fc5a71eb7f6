
/- The contracts of the document's Sum, Seal, Open (layer 3). -/
import Derived.Test.YtlaepdpgegoopaaSumsOpenC
set_option linter.unusedVariables false
namespace Go.Proofs.Ytlaepdpgegoopaa
open Go.ChangeShapes Go.WideShapes Go.ChangeAt Go.RowKit Bit Crc

theorem shr_succ (c j : Nat) : c / 2 ^ (j + 1) = c / 2 ^ j / 2 := by rw [Nat.pow_succ, Nat.div_div_eq_div_mul]
theorem rbit_odd {Z c j Y : Nat} (h : Z ^^^ (c / 2 ^ j) = steps j (Y ^^^ c)) (hp : (Z + c / 2 ^ j) % 2 = 1) : (Z / 2 ^^^ poly) ^^^ (c / 2 ^ (j + 1)) = steps (j + 1) (Y ^^^ c) := by
  rw [steps, ← h, stp_odd (by rw [odd_xor]; omega), half_xor, shr_succ, Nat.xor_assoc, Nat.xor_comm poly, ← Nat.xor_assoc]
theorem rbit_even {Z c j Y : Nat} (h : Z ^^^ (c / 2 ^ j) = steps j (Y ^^^ c)) (hp : (Z + c / 2 ^ j) % 2 = 0) : (Z / 2) ^^^ (c / 2 ^ (j + 1)) = steps (j + 1) (Y ^^^ c) := by
  rw [steps, ← h, stp_even (by rw [odd_xor]; omega), half_xor, shr_succ]
theorem rpar (z c j : Nat) : ((z : Int) + (c : Int) / 2 ^ j) % 2 = (((z + c / 2 ^ j) % 2 : Nat) : Int) := by simp
theorem half_w {z : Nat} (h : z < two32) : (z : Int) / 2 % 4294967296 = ((z / 2 : Nat) : Int) := by unfold two32 at h; omega
theorem xpoly2 {z : Nat} (h : z < two32) : bits .xor .u32 ((z : Int) / 2 % 4294967296) 2197175160 = ((z / 2 ^^^ poly : Nat) : Int) := by
  rw [half_w h, poly_int, x32 (by unfold two32 at *; omega) poly_lt]
theorem half_lt {z : Nat} (h : z < two32) : z / 2 < two32 := by unfold two32 at *; omega
theorem end_byte {c : Nat} (h : c < 256) : c / 2 ^ 8 = 0 := by omega

theorem rflip {x : Nat} (h : x < two32) : (4294967295 - (x : Int)) % 4294967296 = ((ones - x : Nat) : Int) := by unfold two32 at h; unfold ones; omega
def RBitRel (Y c : Nat) (x i : Value) : Prop := ∃ k X : Nat, k ≤ 8 ∧ i = .int .i64 k ∧ x = .int .u32 X ∧ X < two32 ∧ X ^^^ (c / 2 ^ k) = steps k (Y ^^^ c)

theorem four_string {P : Program} (w : World) (src e : TypeId) (hs : P.underlying src = some (.slice e)) (he : P.underlying e = some (.int .u8)) (a b c d : Int) (n : Nat) (ha : a = (b8 n).toNat) (hb : b = (b8 (n / 256)).toNat) (hc : c = (b8 (n / 65536)).toNat) (hd : d = (b8 (n / 16777216)).toNat) :
    ∀ dst, P.underlying dst = some .string → (convert src dst (.slice (some ⟨w.heap.size, 0, none⟩) 4 4)).run P (w.alloc (.cells #[Value.int .u8 a, Value.int .u8 b, Value.int .u8 c, Value.int .u8 d] e)) = .ok (.string ⟨(le4 n).toArray⟩) (w.alloc (.cells #[Value.int .u8 a, Value.int .u8 b, Value.int .u8 c, Value.int .u8 d] e)) :=
  loaded_string (P := P) (w.alloc (.cells #[Value.int .u8 a, Value.int .u8 b, Value.int .u8 c, Value.int .u8 d] e)) src e hs he w.heap.size 4 4 (le4 n) rfl fun i hi => by
    rw [World.cell?_alloc_at _ _ _ _ rfl, ha, hb, hc, hd]
    rcases (show i = 0 ∨ i = 1 ∨ i = 2 ∨ i = 3 from by omega) with rfl | rfl | rfl | rfl <;> rfl

end Go.Proofs.Ytlaepdpgegoopaa
