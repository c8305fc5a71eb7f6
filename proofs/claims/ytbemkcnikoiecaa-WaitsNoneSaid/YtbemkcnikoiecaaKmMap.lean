
/- Maps keyed by deeds' keys: looked up, laid in, taken out. -/
import Derived.Test.YtbemkcnikoiecaaWtMem
import Derived.Test.YtbemkcnikoiecaaObj
import Derived.Test.YtbemkcnikoiecaaKyCP
import Derived.Maps.OwnSet
import Derived.Maps.Ext
import Derived.DeepKeys4
import Derived.Lib.LazyBuf
import Derived.Laws.IdiomCopy
import Derived.Shelf.SlMaps.Clone
set_option linter.unusedVariables false
namespace Go.Proofs.Ytbemkcnikoiecaa
open Go.ChangeShapes Go.WideShapes Go.ChangeAt Go.RowKit Ky
open Go.Maps (Keyed)
namespace Km
theorem lawKy : Keyed Try.prog tKy := Keyed.of_law (deep_law_laid (by kernel_rfl) (m := 2) (by omega) (of_decide_eq_true (by kernel_rfl)) (by kernel_rfl) (by kernel_rfl))
/-- A key of a map, and what is there, if anything. -/
def At (D : DataW Value) (k : Lit) : Option Value → Prop
  | none => Maps.has D k = false ∧ ∀ z, D.atKey k z = z
  | some v => Maps.has D k = true ∧ ∀ z, D.atKey k z = .held v
theorem at_nil (k : Lit) : At (.map []) k none := ⟨rfl, fun _ => rfl⟩
theorem At.put_same {D : DataW Value} {k : Lit} {v : Value} (hm : Maps.IsMap D) (hk : WideAt.IsKeyLit k) : At (D.put k (.held v)) k (some v) :=
  ⟨Maps.has_put_same hm hk _, fun z => Maps.atKey_put_same hm hk _ z⟩
theorem At.put_other {D : DataW Value} {k j : Lit} {d : DataW Value} {x : Option Value} (h : At D k x) (hne : k ≠ j) : At (D.put j d) k x := by
  cases x with
  | none => exact ⟨by rw [Maps.has_put_other hne]; exact h.1, fun z => by rw [Maps.atKey_put_other hne]; exact h.2 z⟩
  | some v => exact ⟨by rw [Maps.has_put_other hne]; exact h.1, fun z => by rw [Maps.atKey_put_other hne]; exact h.2 z⟩
section
variable {w : World} {b n : Nat} {D : DataW Value} {t k e : TypeId} {key z : Value} {kl : Lit} {x : Option Value}
theorem look_at (h : w.ownsMap Try.prog k asIs b n D) (K : Keyed Try.prog k) (ht : Try.prog.underlying t = some (.map k e)) (hz : (zeroValue e).run Try.prog w = .ok z w) (hkey : keyOf Try.prog k key = some kl) (ha : At D kl x) :
    (Instr.lookup t (.map (some b)) key false).run Try.prog w = .ok (x.getD z) w := by
  obtain ⟨u, ps, hr, hu⟩ := h.lookup K ht hz (show asIs z = some (.held z, []) from rfl) hkey
  have := asIs_inv hu
  cases x with
  | none => rw [ha.2] at this; cases this; exact hr
  | some v => rw [ha.2] at this; cases this; exact hr
theorem look_ok (h : w.ownsMap Try.prog k asIs b n D) (K : Keyed Try.prog k) (ht : Try.prog.underlying t = some (.map k e)) (hz : (zeroValue e).run Try.prog w = .ok z w) (hkey : keyOf Try.prog k key = some kl) (ha : At D kl x) :
    (Instr.lookup t (.map (some b)) key true).run Try.prog w = .ok (.tuple #[x.getD z, .bool x.isSome]) w := by
  obtain ⟨u, ps, hr, hu⟩ := h.look_ok K ht hz (show asIs z = some (.held z, []) from rfl) hkey
  have := asIs_inv hu
  cases x with
  | none => rw [ha.2] at this; cases this; rw [ha.1] at hr; exact hr
  | some v => rw [ha.2] at this; cases this; rw [ha.1] at hr; exact hr
theorem put_at (v : Value) (h : w.ownsMap Try.prog k asIs b n D) (K : Keyed Try.prog k) (ht : Try.prog.underlying t = some (.map k e)) (hn : n < maxLen) (hkey : keyOf Try.prog k key = some kl) :
    ∃ w', (Instr.mapUpdate t (.map (some b)) key v).run Try.prog w = .ok () w' ∧ w'.ownsMap Try.prog k asIs b (n + 1) (D.put kl (.held v)) ∧ w.grownBy w' (some b) :=
  h.update K ht hn hkey (show asIs v = some (.held v, []) from rfl)
end
theorem own_map {w w' : World} {P : Program} {k : TypeId} {R : Value → Option (DataW Value × List MemPlace)} {b n : Nat} {D : DataW Value} (h : w.ownsMap P k R b n D) (e : w'.heap[b]? = w.heap[b]?) : w'.ownsMap P k R b n D := by
  obtain ⟨es, clock, hb, r⟩ := h
  exact ⟨es, clock, e.trans hb, r⟩
theorem At.del_same {D : DataW Value} {k : Lit} (h : True) : At (D.del k) k none := ⟨Maps.has_del_same, fun z => Maps.atKey_del_same z⟩
theorem At.del_other {D : DataW Value} {k j : Lit} {x : Option Value} (h : At D k x) (hne : k ≠ j) : At (D.del j) k x := by
  cases x with
  | none => exact ⟨by rw [Maps.has_del_other hne]; exact h.1, fun z => by rw [Maps.atKey_del_other hne]; exact h.2 z⟩
  | some v => exact ⟨by rw [Maps.has_del_other hne]; exact h.1, fun z => by rw [Maps.atKey_del_other hne]; exact h.2 z⟩
/-- The bound, brought down to how many there are. -/
theorem own_tight {w : World} {k : TypeId} {b n : Nat} {D : DataW Value} (h : w.ownsMap Try.prog k asIs b n D) : w.ownsMap Try.prog k asIs b (Maps.size D) D := by
  obtain ⟨es, clock, hb, F, hs, rfl⟩ := h
  exact ⟨es, clock, hb, F, Nat.le_of_eq (by rw [Maps.size_eq, length_read]), rfl⟩
def kK (o d : Int) : Lit := .string (keyBytes [.int .i64 o, .int .i64 d])
theorem wf_i {n : Int} (h : I64 n) : (Lit.int .i64 n).wf = true := by
  unfold I64 top at h
  exact WalkArith.wf_i64 (by omega)
theorem cells_ky : Try.prog.cellsOf tKy = 2 := by kernel_rfl
theorem cells_in : Try.prog.cellsOf 3 = 1 := by kernel_rfl
theorem isKey_ky : Try.prog.keyType tKy = true := by kernel_rfl
theorem some_types : ∃ n, Try.prog.types.size = n + 1 := ⟨Try.prog.types.size - 1, by have : 0 < Try.prog.types.size := of_decide_eq_true (by kernel_rfl); omega⟩
theorem lits_int {d : Nat} {n : Int} (h : I64 n) : Try.prog.keyLits (d + 1) 3 [.int .i64 n] = some [.int .i64 n] := by
  simp [Program.keyLits, Try.underlying3, wf_i h]
theorem kK_is {a o : Int} (ha : I64 a) (ho : I64 o) : keyOf Try.prog tKy (kyV a o) = some (kK a o) := by
  obtain ⟨n, hn⟩ := some_types
  have hl : Try.prog.keyLits (Try.prog.types.size + 1) tKy [.int .i64 a, .int .i64 o] = some [.int .i64 a, .int .i64 o] := by
    rw [hn]
    unfold Program.keyLits
    rw [Try.underlying28]
    simp [cells_ky, cells_in, lits_int ha, lits_int ho]
  have hf : (Value.agg #[.int .i64 a, .int .i64 o]).formed Try.prog tKy = true := by
    simp [Value.formed, Try.underlying28, cells_ky]
  unfold keyOf kyV
  rw [Try.underlying28]
  simp only [isKey_ky, hf, Bool.and_self, if_true]
  rw [show (Value.agg #[.int .i64 a, .int .i64 o]).cells.toList = [.int .i64 a, .int .i64 o] from rfl, hl]
  rfl
theorem kK_inj {a o a' o' : Int} (ha : I64 a) (ho : I64 o) (ha' : I64 a') (ho' : I64 o') (h : kK a o = kK a' o') : a = a' ∧ o = o' := by
  have := lawKy.inj (kK_is ha ho) (h ▸ kK_is ha' ho')
  unfold kyV at this
  simp at this
  exact this
theorem key_kK (o d : Int) : WideAt.IsKeyLit (kK o d) := trivial
set_option maxRecDepth 100000 in
theorem ky_parts {d : Nat} {c0 c1 : Value} {ls : List Lit} (h : Try.prog.keyLits (d + 1) tKy [c0, c1] = some ls) : ∃ l0 l1, Try.prog.keyLits d 3 [c0] = some l0 ∧ Try.prog.keyLits d 3 [c1] = some l1 := by
  unfold Program.keyLits at h
  rw [Try.underlying28] at h
  simp [cells_ky, cells_in, Option.bind_eq_some_iff] at h
  obtain ⟨l0, h0, _, ⟨l1, h1, _⟩, _⟩ := h
  exact ⟨_, _, h0, h1⟩
set_option maxRecDepth 100000 in
theorem lits_int_inv {d : Nat} {c : Value} {ls : List Lit} (h : Try.prog.keyLits (d + 1) 3 [c] = some ls) : ∃ n : Int, c = .int .i64 n ∧ I64 n := by
  cases c <;> simp [Program.keyLits, Try.underlying3] at h
  obtain ⟨⟨rfl, hw⟩, _⟩ := h
  exact ⟨_, rfl, i64_of hw⟩
set_option maxRecDepth 100000 in
/-- What reads as a key of a deed is one. -/
theorem ky_inv {key : Value} {kl : Lit} (h : keyOf Try.prog tKy key = some kl) : ∃ x : Int × Int, key = kyV x.1 x.2 ∧ I64 x.1 ∧ I64 x.2 := by
  unfold keyOf at h
  rw [Try.underlying28] at h
  simp only at h
  split at h
  · rename_i hc
    simp only [Bool.and_eq_true] at hc
    cases key with
    | agg cs =>
      have hsz : cs.size = 2 := by
        have := hc.2
        simpa [Value.formed, Try.underlying28, cells_ky] using this
      obtain ⟨l⟩ := cs
      match l, hsz with
      | [c0, c1], _ =>
        obtain ⟨n, hn⟩ := some_types
        rw [hn] at h
        simp only [Value.cells, Option.map_eq_some_iff] at h
        obtain ⟨ls, hls, _⟩ := h
        obtain ⟨l00, l01, h0, h1⟩ := ky_parts (c0 := c0) (c1 := c1) hls
        obtain ⟨x, rfl, hx⟩ := lits_int_inv h0
        obtain ⟨y, rfl, hy⟩ := lits_int_inv h1
        exact ⟨(x, y), rfl, hx, hy⟩
    | _ =>
      have := hc.2
      simp [Value.formed, Try.underlying28] at this
  · cases h
end Km
end Go.Proofs.Ytbemkcnikoiecaa
