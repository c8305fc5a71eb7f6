
/- Small words on numbers and endings, for the walks. -/
import Derived.Test.YtbemkcnikoiecaaProg
import Derived.WalkKit
import Derived.ProofKit
import Derived.OpenShut
import Derived.Lib.Hide
set_option linter.unusedVariables false
namespace Go.Proofs.Ytbemkcnikoiecaa
open Go.ChangeShapes Go.WideShapes Go.ChangeAt Go.RowKit

theorem vint {k : IntKind} {a b : Int} (h : a = b) : Value.int k a = Value.int k b := by rw [h]
theorem vbool {a b : Bool} (h : a = b) : Value.bool a = Value.bool b := by rw [h]
theorem vstr {a b : ByteArray} (h : a = b) : Value.string a = Value.string b := by rw [h]
theorem ret_bool {a b : Bool} (h : a = b) : Ending.returned (.bool a) = .returned (.bool b) := by rw [h]
theorem ret_int {k : IntKind} {a b : Int} (h : a = b) : Ending.returned (.int k a) = .returned (.int k b) := by rw [h]
theorem ret_str {a b : ByteArray} (h : a = b) : Ending.returned (.string a) = .returned (.string b) := by rw [h]
theorem ret_int_bool {k : IntKind} {a b : Int} {c d : Bool} (h : a = b) (g : c = d) : Ending.returned (.tuple #[.int k a, .bool c]) = .returned (.tuple #[.int k b, .bool d]) := by rw [h, g]
theorem ret_str_bool {a b : ByteArray} {c d : Bool} (h : a = b) (g : c = d) : Ending.returned (.tuple #[.string a, .bool c]) = .returned (.tuple #[.string b, .bool d]) := by rw [h, g]

/-- 2^63 and 2^64, behind names. -/
def top : Int := 9223372036854775808
def topN : Nat := 18446744073709551616
theorem u64w {n : Int} (h0 : 0 ≤ n) (h : n < (topN : Int)) : IntKind.u64.wrap n = n := IntWalk.u64_in n ⟨h0, by have : (topN : Int) = 18446744073709551616 := rfl; omega⟩
theorem u64w_mod (n : Int) : IntKind.u64.wrap n = n % (topN : Int) := by
  simp [IntKind.wrap, IntKind.signed, IntKind.bits, topN]
theorem i64w {n : Int} (h0 : -top ≤ n) (h : n < top) : wrap64 n = n := IntWalk.wrap64_in n (by unfold top at *; omega)
theorem i64w_def (n : Int) : wrap64 n = (n + top) % (topN : Int) - top := by have e : (topN : Int) = 18446744073709551616 := rfl; rw [e]; unfold wrap64 top; omega

/-- An int64, as the form has it. -/
def I64 (n : Int) : Prop := -top ≤ n ∧ n < top
theorem i64_of {n : Int} (h : (Lit.int .i64 n).wf = true) : I64 n := by
  simp only [Lit.wf, IntKind.min, IntKind.max, IntKind.signed, IntKind.bits, Bool.and_eq_true, decide_eq_true_eq, if_true] at h
  unfold I64 top; omega

/-- What makes memory of its own, and turns nothing. -/
abbrev Keeps (w w' : World) : Prop := Below w.heap.size w w'
theorem Keeps.refl (w : World) : Keeps w w := Below.refl _ _
theorem Keeps.trans {a b c : World} (h : Keeps a b) (g : Keeps b c) : Keeps a c := Below.trans h (g.mono h.size)
theorem Keeps.of_eq {a b : World} (h : a = b) : Keeps a b := by subst h; exact Keeps.refl _

/-- A byte, as a value; a row of bytes, as values. -/
abbrev bv (c : UInt8) : Value := .int .u8 c.toNat
theorem loaded_string {P : Program} (w : World) (src e : TypeId) (hs : P.underlying src = some (.slice e)) (he : P.underlying e = some (.int .u8)) (b len cap : Nat) (l : List UInt8) (hlen : l.length = len)
    (hcell : ∀ i, i < len → w.cell? ⟨b, i, none⟩ = (l.map bv)[i]?) :
    ∀ dst, P.underlying dst = some .string → (convert src dst (.slice (some ⟨b, 0, none⟩) len cap)).run P w = .ok (.string ⟨l.toArray⟩) w := by
  intro dst hd
  have h := run_convert_bytes_arg (P := P) w src e hs he b 0 len cap (l.map fun c => (c.toNat : Int)) (by simpa using hlen) (fun i hi => by
    rw [Nat.zero_add, hcell i hi]
    have : i < l.length := by omega
    simp [List.getD, this]) dst hd
  rw [h]
  congr 2
  simp only [strOfNums, List.map_map]
  congr 2
  refine (List.map_congr_left (g := id) fun c _ => ?_).trans (List.map_id _)
  simp

/-- 'string([]byte{c})': the text of one byte that was just laid. -/
theorem byte_string {P : Program} (w : World) (src e : TypeId) (hs : P.underlying src = some (.slice e)) (he : P.underlying e = some (.int .u8)) (v : Int) (c : UInt8) (hv : v = c.toNat) :
    ∀ dst, P.underlying dst = some .string → (convert src dst (.slice (some ⟨w.heap.size, 0, none⟩) 1 1)).run P (w.alloc (.cells #[Value.int .u8 v] e)) = .ok (.string ⟨#[c]⟩) (w.alloc (.cells #[Value.int .u8 v] e)) :=
  loaded_string (P := P) (w.alloc (.cells #[Value.int .u8 v] e)) src e hs he w.heap.size 1 1 [c] rfl fun i hi => by
    obtain rfl : i = 0 := by omega
    rw [World.cell?_alloc_at _ _ _ _ rfl, hv]; rfl

/-! ### Texts as lists -/
theorem mk_data (s : ByteArray) : (⟨s.data.toList.toArray⟩ : ByteArray) = s := by simp
theorem data_mk (l : List UInt8) : (⟨l.toArray⟩ : ByteArray).data.toList = l := by simp
theorem extract_list (s : ByteArray) (a b : Nat) : (s.extract a b).toList = (s.data.toList.drop a).take (b - a) := by
  rw [ByteArray.toList_eq]; simp [List.take_drop]
theorem extract_end (s : ByteArray) (a : Nat) : s.extract a s.size = ⟨(s.data.toList.drop a).toArray⟩ := by
  apply ByteArray.ext
  apply Array.ext'
  rw [← ByteArray.toList_eq, extract_list, List.take_of_length_le (by simp)]
theorem size_mk (l : List UInt8) : (⟨l.toArray⟩ : ByteArray).size = l.length := by simp [ByteArray.size]
theorem len_data (s : ByteArray) : s.data.toList.length = s.size := by simp
theorem get_data (s : ByteArray) (k : Nat) (h : k < s.size) : s.data.toList[k]'(by simpa using h) = s[k] := rfl
end Go.Proofs.Ytbemkcnikoiecaa
