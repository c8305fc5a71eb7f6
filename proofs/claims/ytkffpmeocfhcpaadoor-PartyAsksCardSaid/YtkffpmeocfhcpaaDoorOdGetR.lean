
/- What bytes say of an order: the mathematics, and what Get leaves (GotO). The program's Get of orders. The document's Get of orders. -/
import Derived.Test.YtkffpmeocfhcpaaDoorOdPutC
import Derived.Test.YtkffpmeocfhcpaaDoorBitsCutC
import Derived.Test.YtkffpmeocfhcpaaDoorBitsRef2C
set_option linter.unusedVariables false
namespace Go.Proofs.YtkffpmeocfhcpaaDoor
open Go.ChangeShapes Go.WideShapes Go.ChangeAt Go.RowKit Bit Ky Od

theorem ctT_len (l : List UInt8) : (ctT l).length ≤ l.length := by
  have := rdR_len l
  unfold ctT
  split
  · rw [List.length_take]; omega
  · simp
theorem ctR_len (l : List UInt8) : (ctR l).length ≤ l.length := by
  have := rdR_len l
  unfold ctR
  split
  · rw [List.length_drop]; omega
  · simp
/-- The answer of Get. -/
def IsO (l : List UInt8) (i : Int) (r s : ByteArray) (q a c : Int) : Prop :=
  (okO l = true ∧ Fit i r s q a ∧ rawO i r s q a = l ∧ c = 0) ∨ (okO l = false ∧ i = 0 ∧ r = ⟨#[]⟩ ∧ s = ⟨#[]⟩ ∧ q = 0 ∧ a = 0 ∧ c = 10)
theorem raw_inj {i q a i' q' a' : Int} {r s r' s' : ByteArray} (h : Fit i r s q a) (h' : Fit i' r' s' q' a') (e : rawO i r s q a = rawO i' r' s' q' a') : i = i' ∧ r = r' ∧ s = s' ∧ q = q' ∧ a = a' := by
  obtain ⟨e1, e2, e3, e4, e5⟩ := read_raw h []
  obtain ⟨f1, f2, f3, f4, f5⟩ := read_raw h' []
  rw [e] at e1 e2 e3 e4 e5
  exact ⟨e1.symm.trans f1, e2.symm.trans f2, e3.symm.trans f3, e4.symm.trans f4, e5.symm.trans f5⟩
theorem IsO.same {l : List UInt8} {i q a c i' q' a' c' : Int} {r s r' s' : ByteArray} (h : IsO l i r s q a c) (h' : IsO l i' r' s' q' a' c') : i = i' ∧ r = r' ∧ s = s' ∧ q = q' ∧ a = a' ∧ c = c' := by
  rcases h with ⟨h1, h2, h3, h4⟩ | ⟨h1, h2, h3, h4, h5, h6, h7⟩ <;> rcases h' with ⟨g1, g2, g3, g4⟩ | ⟨g1, g2, g3, g4, g5, g6, g7⟩
  · obtain ⟨e1, e2, e3, e4, e5⟩ := raw_inj h2 g2 (h3.trans g3.symm)
    exact ⟨e1, e2, e3, e4, e5, h4.trans g4.symm⟩
  · rw [h1] at g1; cases g1
  · rw [h1] at g1; cases g1
  · exact ⟨h2.trans g2.symm, h3.trans g3.symm, h4.trans g4.symm, h5.trans g5.symm, h6.trans g6.symm, h7.trans g7.symm⟩
theorem no_wrap {l : List UInt8} {n1 n4 n5 : Nat} {T2 T3 : ByteArray} {I1 I4 I5 : Int} (e1 : g1 l = n1) (e2 : g2 l = T2) (e3 : g3 l = T3) (e4 : g4 l = n4) (e5 : g5 l = n5)
    (w1 : wrap64 n1 = I1) (w4 : wrap64 n4 = I4) (w5 : wrap64 n5 = I5) (h : ¬ (Fit I1 T2 T3 I4 I5 ∧ rawO I1 T2 T3 I4 I5 = l)) : okO l = false := by
  cases ho : okO l with
  | false => rfl
  | true =>
    obtain ⟨hf, h2⟩ := ok_iff.1 ho
    rw [e1, e2, e3, e4, e5] at hf h2
    rw [wraps_small hf.i1 (by decide)] at w1
    rw [wraps_small hf.q1 (by decide)] at w4
    rw [wraps_small hf.a1 (by decide)] at w5
    subst w1 w4 w5
    exact absurd ⟨hf, h2⟩ h
theorem yes_raw {l : List UInt8} {i q a : Int} {r s : ByteArray} (h : Fit i r s q a) (e : rawO i r s q a = l) : okO l = true := e ▸ ok_raw h
theorem no_flags {l : List UInt8} (h : ¬ (rdB l = true ∧ ctB (rdR l) = true ∧ ctB (ctR (rdR l)) = true ∧ rdB (ctR (ctR (rdR l))) = true ∧ rdB (rdR (ctR (ctR (rdR l)))) = true ∧ g1 l ≤ 60 ∧ g4 l ≤ 999 ∧ g5 l ≤ 1099511627776)) : okO l = false := by
  cases ho : okO l with
  | false => rfl
  | true =>
    obtain ⟨hf, h2⟩ := ok_iff.1 ho
    refine absurd ⟨?_, ?_, ?_, ?_, ?_, by have := hf.i1; omega, by have := hf.q1; omega, by have := hf.a1; omega⟩ h
    · cases hb : rdB l with
      | true => rfl
      | false => have := hf.i0; unfold g1 at this; rw [(rd_no hb).1] at this; omega
    · cases hb : ctB (rdR l) with
      | true => rfl
      | false => have := hf.r0; unfold g2 at this; rw [(ct_no hb).1] at this; exact absurd this (by decide)
    · cases hb : ctB (ctR (rdR l)) with
      | true => rfl
      | false => have := hf.s0; unfold g3 at this; rw [(ct_no hb).1] at this; exact absurd this (by decide)
    · cases hb : rdB (ctR (ctR (rdR l))) with
      | true => rfl
      | false => have := hf.q0; unfold g4 at this; rw [(rd_no hb).1] at this; omega
    · cases hb : rdB (rdR (ctR (ctR (rdR l)))) with
      | true => rfl
      | false => have := hf.a0; unfold g5 at this; rw [(rd_no hb).1] at this; omega
/-- What Get leaves. -/
def GotO (l : List UInt8) (w : World) (e : Ending) (w' : World) : Prop := ∃ i r s q a c, e = .returned (.tuple #[odV i r s q a, .int .i64 c]) ∧ IsO l i r s q a c ∧ Keeps w w'
theorem five_set {W : World} {n : Nat} {x0 x1 x2 x3 x4 : Value} (h : W.heap[n]? = some (.cells #[x0, x1, x2, x3, x4] tOd (0, 0))) (a0 a1 a2 a3 a4 : Value) :
    (((((W.setCell ⟨n, 0, none⟩ a0).setCell ⟨n, 1, none⟩ a1).setCell ⟨n, 2, none⟩ a2).setCell ⟨n, 3, none⟩ a3).setCell ⟨n, 4, none⟩ a4).heap[n]? = some (.cells #[a0, a1, a2, a3, a4] tOd (0, 0)) :=
  Joins.block_setCell (i := 4) (Joins.block_setCell (i := 3) (Joins.block_setCell (i := 2) (Joins.block_setCell (i := 1) (Joins.block_setCell (i := 0) h a0) a1) a2) a3) a4
theorem five_keeps {w W : World} {n : Nat} (h : Keeps w W) (hn : w.heap.size ≤ n) (a0 a1 a2 a3 a4 : Value) :
    Keeps w (((((W.setCell ⟨n, 0, none⟩ a0).setCell ⟨n, 1, none⟩ a1).setCell ⟨n, 2, none⟩ a2).setCell ⟨n, 3, none⟩ a3).setCell ⟨n, 4, none⟩ a4) :=
  ((((h.setCell (p := ⟨n, 0, none⟩) hn a0).setCell (p := ⟨n, 1, none⟩) hn a1).setCell (p := ⟨n, 2, none⟩) hn a2).setCell (p := ⟨n, 3, none⟩) hn a3).setCell (p := ⟨n, 4, none⟩) hn a4
/-- Five cells of one block: what they hold. -/
theorem five_at {W : World} {n : Nat} {x0 x1 x2 x3 x4 : Value} (h : W.heap[n]? = some (.cells #[x0, x1, x2, x3, x4] tOd (0, 0))) :
    (W.cell? ⟨n, 0, none⟩ = some x0 ∧ W.cell? ⟨n, 1, none⟩ = some x1 ∧ W.cell? ⟨n, 2, none⟩ = some x2 ∧ W.cell? ⟨n, 3, none⟩ = some x3 ∧ W.cell? ⟨n, 4, none⟩ = some x4) ∧
    (W.frozen? ⟨n, 0, none⟩ = false ∧ W.frozen? ⟨n, 1, none⟩ = false ∧ W.frozen? ⟨n, 2, none⟩ = false ∧ W.frozen? ⟨n, 3, none⟩ = false ∧ W.frozen? ⟨n, 4, none⟩ = false) :=
  ⟨⟨Joins.cell_of_block h 0, Joins.cell_of_block h 1, Joins.cell_of_block h 2, Joins.cell_of_block h 3, Joins.cell_of_block h 4⟩,
   ⟨Joins.unfrozen_of_block h 0, Joins.unfrozen_of_block h 1, Joins.unfrozen_of_block h 2, Joins.unfrozen_of_block h 3, Joins.unfrozen_of_block h 4⟩⟩
def odZ : Obj := .cells #[.int .i64 0, .string ⟨#[]⟩, .string ⟨#[]⟩, .int .i64 0, .int .i64 0] tOd
/-- The five reads, one behind the other: what each answers, and how long it is. -/
theorem read_parts (s : ByteArray) (hs : s.size ≤ maxLen) : ∃ (n1 n4 n5 : Nat) (T2 T3 R1 R2 R3 R4 R5 : ByteArray) (b1 b2 b3 b4 b5 : Bool),
    (g1 s.data.toList = n1 ∧ g2 s.data.toList = T2 ∧ g3 s.data.toList = T3 ∧ g4 s.data.toList = n4 ∧ g5 s.data.toList = n5) ∧
    (n1 < topN ∧ n4 < topN ∧ n5 < topN) ∧ (R1.size ≤ maxLen ∧ R2.size ≤ maxLen ∧ R3.size ≤ maxLen ∧ R4.size ≤ maxLen ∧ T2.size ≤ maxLen ∧ T3.size ≤ maxLen) ∧
    (rdV s.data.toList = n1 ∧ (⟨(rdR s.data.toList).toArray⟩ : ByteArray) = R1 ∧ rdB s.data.toList = b1) ∧
    ((⟨(ctT R1.data.toList).toArray⟩ : ByteArray) = T2 ∧ (⟨(ctR R1.data.toList).toArray⟩ : ByteArray) = R2 ∧ ctB R1.data.toList = b2) ∧
    ((⟨(ctT R2.data.toList).toArray⟩ : ByteArray) = T3 ∧ (⟨(ctR R2.data.toList).toArray⟩ : ByteArray) = R3 ∧ ctB R2.data.toList = b3) ∧
    (rdV R3.data.toList = n4 ∧ (⟨(rdR R3.data.toList).toArray⟩ : ByteArray) = R4 ∧ rdB R3.data.toList = b4) ∧
    (rdV R4.data.toList = n5 ∧ (⟨(rdR R4.data.toList).toArray⟩ : ByteArray) = R5 ∧ rdB R4.data.toList = b5) ∧
    (¬ (b1 = true ∧ b2 = true ∧ b3 = true ∧ b4 = true ∧ b5 = true ∧ n1 ≤ 60 ∧ n4 ≤ 999 ∧ n5 ≤ 1099511627776) → okO s.data.toList = false) := by
  have l0 : s.data.toList.length ≤ maxLen := by rw [len_data]; exact hs
  have l1 := rdR_len s.data.toList
  have l2 := ctR_len (rdR s.data.toList)
  have l3 := ctR_len (ctR (rdR s.data.toList))
  have l4 := rdR_len (ctR (ctR (rdR s.data.toList)))
  have l5 := ctT_len (rdR s.data.toList)
  have l6 := ctT_len (ctR (rdR s.data.toList))
  refine ⟨g1 s.data.toList, g4 s.data.toList, g5 s.data.toList, g2 s.data.toList, g3 s.data.toList, ⟨(rdR s.data.toList).toArray⟩, ⟨(ctR (rdR s.data.toList)).toArray⟩, ⟨(ctR (ctR (rdR s.data.toList))).toArray⟩, ⟨(rdR (ctR (ctR (rdR s.data.toList)))).toArray⟩,
    ⟨(rdR (rdR (ctR (ctR (rdR s.data.toList))))).toArray⟩, rdB s.data.toList, ctB (rdR s.data.toList), ctB (ctR (rdR s.data.toList)), rdB (ctR (ctR (rdR s.data.toList))), rdB (rdR (ctR (ctR (rdR s.data.toList)))), ⟨rfl, rfl, rfl, rfl, rfl⟩, ⟨rdV_lt _, rdV_lt _, rdV_lt _⟩, ?_, ⟨rfl, rfl, rfl⟩, ⟨rfl, rfl, rfl⟩, ⟨rfl, rfl, rfl⟩, ⟨rfl, rfl, rfl⟩, ⟨rfl, rfl, rfl⟩, no_flags⟩
  unfold g2 g3
  simp only [size_mk]
  exact ⟨by omega, by omega, by omega, by omega, by omega, by omega⟩
end Go.Proofs.YtkffpmeocfhcpaaDoor
namespace Go.Proofs.YtkffpmeocfhcpaaDoor
open Go.ChangeShapes Go.WideShapes Go.ChangeAt Go.RowKit Bit Ky Od

theorem sbne {X s : ByteArray} (h : X ≠ s) : (X.toList == s.toList) = false := bytes_eq h
end Go.Proofs.YtkffpmeocfhcpaaDoor
namespace Go.Proofs.YtkffpmeocfhcpaaDoor
open Go.ChangeShapes Go.WideShapes Go.ChangeAt Go.RowKit Bit Ky Od

theorem box_cells {w : World} {x0 x1 x2 x3 x4 : Value} : ∀ W, Keeps (w.alloc (.cells #[x0, x1, x2, x3, x4] tOd)) W → W.heap[w.heap.size]? = some (.cells #[x0, x1, x2, x3, x4] tOd (0, 0)) := fun W k => (k.block _ (by simp)).trans (heap_alloc_new w _)
end Go.Proofs.YtkffpmeocfhcpaaDoor
