
/- What parties are asked: the mathematics, and a message in memory. The program's Msg of orders. The document's Msg of orders. -/
import Derived.Test.YtkffpmeocfhcpaaDoorOdGetR
import Derived.Test.YtkffpmeocfhcpaaDoorKyCP
import Derived.Deep.RegionWith
import Derived.StillTailTactics
set_option linter.unusedVariables false
namespace Go.Proofs.YtkffpmeocfhcpaaDoor
open Go.ChangeShapes Go.WideShapes Go.ChangeAt Go.RowKit Bit Ky Od

abbrev tMs : TypeId := 35
def msV (t o d : Int) (s : ByteArray) (q a c : Int) : Value := .agg #[.int .i64 t, .int .i64 o, .int .i64 d, .string s, .int .i64 q, .int .i64 a, .int .i64 c]
def msBox (t o d : Int) (s : ByteArray) (q a c : Int) : Obj := .cells #[.int .i64 t, .int .i64 o, .int .i64 d, .string s, .int .i64 q, .int .i64 a, .int .i64 c] tMs
/-- The message that asks for it. -/
def IsM (i : Int) (r s : ByteArray) (q a d : Int) (t o k : Int) (S : ByteArray) (Q A : Int) : Prop :=
  (checkO i r s q a = 0 ∧ 0 ≤ d ∧ d < 6 ∧ t = partyK d ∧ o = i ∧ k = d ∧ ((partyK d = 0 ∧ S = ⟨#[]⟩ ∧ Q = 0 ∧ A = a) ∨ (partyK d ≠ 0 ∧ S = s ∧ Q = q ∧ A = 0))) ∨
  (¬ (checkO i r s q a = 0 ∧ 0 ≤ d ∧ d < 6) ∧ t = 0 ∧ o = 0 ∧ k = 0 ∧ S = ⟨#[]⟩ ∧ Q = 0 ∧ A = 0)
theorem IsM.same {i q a d t o k Q A t' o' k' Q' A' : Int} {r s S S' : ByteArray} (h : IsM i r s q a d t o k S Q A) (h' : IsM i r s q a d t' o' k' S' Q' A') : t = t' ∧ o = o' ∧ k = k' ∧ S = S' ∧ Q = Q' ∧ A = A' := by
  rcases h with ⟨h1, h2, h3, rfl, rfl, rfl, h4⟩ | ⟨h1, rfl, rfl, rfl, rfl, rfl, rfl⟩ <;> rcases h' with ⟨g1, g2, g3, rfl, rfl, rfl, g4⟩ | ⟨g1, rfl, rfl, rfl, rfl, rfl, rfl⟩
  · rcases h4 with ⟨h4, rfl, rfl, rfl⟩ | ⟨h4, rfl, rfl, rfl⟩ <;> rcases g4 with ⟨g4, rfl, rfl, rfl⟩ | ⟨g4, rfl, rfl, rfl⟩
    · exact ⟨rfl, rfl, rfl, rfl, rfl, rfl⟩
    · exact absurd h4 g4
    · exact absurd g4 h4
    · exact ⟨rfl, rfl, rfl, rfl, rfl, rfl⟩
  · exact absurd ⟨h1, h2, h3⟩ g1
  · exact absurd ⟨g1, g2, g3⟩ h1
  · exact ⟨rfl, rfl, rfl, rfl, rfl, rfl⟩
def MsgOut (i : Int) (r s : ByteArray) (q a d : Int) (w : World) (e : Ending) (w' : World) : Prop := ∃ t o k S Q A, e = .returned (msV t o k S Q A 0) ∧ IsM i r s q a d t o k S Q A ∧ Keeps w w'
theorem party_lt {d : Int} : partyK d < 0 ↔ ¬ (0 ≤ d ∧ d < 6) := by
  unfold partyK
  split
  · rename_i h
    split
    · simp [h.1, h.2]
    · split <;> simp [h.1, h.2]
  · rename_i h
    simp [h]
theorem seven_set {W : World} {n : Nat} {x0 x1 x2 x3 x4 x5 x6 : Value} (h : W.heap[n]? = some (.cells #[x0, x1, x2, x3, x4, x5, x6] tMs (0, 0))) (a0 a1 a2 a3 a4 a5 a6 : Value) :
    (((((((W.setCell ⟨n, 0, none⟩ a0).setCell ⟨n, 1, none⟩ a1).setCell ⟨n, 2, none⟩ a2).setCell ⟨n, 3, none⟩ a3).setCell ⟨n, 4, none⟩ a4).setCell ⟨n, 5, none⟩ a5).setCell ⟨n, 6, none⟩ a6).heap[n]? = some (.cells #[a0, a1, a2, a3, a4, a5, a6] tMs (0, 0)) := by
  have h0 : (W.setCell ⟨n, 0, none⟩ a0).heap[n]? = some (.cells #[a0, x1, x2, x3, x4, x5, x6] tMs (0, 0)) := Joins.block_setCell (i := 0) h a0
  have h1 : ((W.setCell ⟨n, 0, none⟩ a0).setCell ⟨n, 1, none⟩ a1).heap[n]? = some (.cells #[a0, a1, x2, x3, x4, x5, x6] tMs (0, 0)) := Joins.block_setCell (i := 1) h0 a1
  have h2 : (((W.setCell ⟨n, 0, none⟩ a0).setCell ⟨n, 1, none⟩ a1).setCell ⟨n, 2, none⟩ a2).heap[n]? = some (.cells #[a0, a1, a2, x3, x4, x5, x6] tMs (0, 0)) := Joins.block_setCell (i := 2) h1 a2
  have h3 : ((((W.setCell ⟨n, 0, none⟩ a0).setCell ⟨n, 1, none⟩ a1).setCell ⟨n, 2, none⟩ a2).setCell ⟨n, 3, none⟩ a3).heap[n]? = some (.cells #[a0, a1, a2, a3, x4, x5, x6] tMs (0, 0)) := Joins.block_setCell (i := 3) h2 a3
  have h4 : (((((W.setCell ⟨n, 0, none⟩ a0).setCell ⟨n, 1, none⟩ a1).setCell ⟨n, 2, none⟩ a2).setCell ⟨n, 3, none⟩ a3).setCell ⟨n, 4, none⟩ a4).heap[n]? = some (.cells #[a0, a1, a2, a3, a4, x5, x6] tMs (0, 0)) := Joins.block_setCell (i := 4) h3 a4
  have h5 : ((((((W.setCell ⟨n, 0, none⟩ a0).setCell ⟨n, 1, none⟩ a1).setCell ⟨n, 2, none⟩ a2).setCell ⟨n, 3, none⟩ a3).setCell ⟨n, 4, none⟩ a4).setCell ⟨n, 5, none⟩ a5).heap[n]? = some (.cells #[a0, a1, a2, a3, a4, a5, x6] tMs (0, 0)) := Joins.block_setCell (i := 5) h4 a5
  have h6 : (((((((W.setCell ⟨n, 0, none⟩ a0).setCell ⟨n, 1, none⟩ a1).setCell ⟨n, 2, none⟩ a2).setCell ⟨n, 3, none⟩ a3).setCell ⟨n, 4, none⟩ a4).setCell ⟨n, 5, none⟩ a5).setCell ⟨n, 6, none⟩ a6).heap[n]? = some (.cells #[a0, a1, a2, a3, a4, a5, a6] tMs (0, 0)) := Joins.block_setCell (i := 6) h5 a6
  exact h6
theorem seven_keeps {w W : World} {n : Nat} (h : Keeps w W) (hn : w.heap.size ≤ n) (a0 a1 a2 a3 a4 a5 a6 : Value) :
    Keeps w (((((((W.setCell ⟨n, 0, none⟩ a0).setCell ⟨n, 1, none⟩ a1).setCell ⟨n, 2, none⟩ a2).setCell ⟨n, 3, none⟩ a3).setCell ⟨n, 4, none⟩ a4).setCell ⟨n, 5, none⟩ a5).setCell ⟨n, 6, none⟩ a6) :=
  ((((((h.setCell (p := ⟨n, 0, none⟩) hn a0).setCell (p := ⟨n, 1, none⟩) hn a1).setCell (p := ⟨n, 2, none⟩) hn a2).setCell (p := ⟨n, 3, none⟩) hn a3).setCell (p := ⟨n, 4, none⟩) hn a4).setCell (p := ⟨n, 5, none⟩) hn a5).setCell (p := ⟨n, 6, none⟩) hn a6
theorem seven_at {W : World} {n : Nat} {x0 x1 x2 x3 x4 x5 x6 : Value} (h : W.heap[n]? = some (.cells #[x0, x1, x2, x3, x4, x5, x6] tMs (0, 0))) :
    (W.cell? ⟨n, 0, none⟩ = some x0 ∧ W.cell? ⟨n, 1, none⟩ = some x1 ∧ W.cell? ⟨n, 2, none⟩ = some x2 ∧ W.cell? ⟨n, 3, none⟩ = some x3 ∧ W.cell? ⟨n, 4, none⟩ = some x4 ∧ W.cell? ⟨n, 5, none⟩ = some x5 ∧ W.cell? ⟨n, 6, none⟩ = some x6) ∧
    (W.frozen? ⟨n, 0, none⟩ = false ∧ W.frozen? ⟨n, 1, none⟩ = false ∧ W.frozen? ⟨n, 2, none⟩ = false ∧ W.frozen? ⟨n, 3, none⟩ = false ∧ W.frozen? ⟨n, 4, none⟩ = false ∧ W.frozen? ⟨n, 5, none⟩ = false ∧ W.frozen? ⟨n, 6, none⟩ = false) :=
  ⟨⟨Joins.cell_of_block h 0, Joins.cell_of_block h 1, Joins.cell_of_block h 2, Joins.cell_of_block h 3, Joins.cell_of_block h 4, Joins.cell_of_block h 5, Joins.cell_of_block h 6⟩,
   ⟨Joins.unfrozen_of_block h 0, Joins.unfrozen_of_block h 1, Joins.unfrozen_of_block h 2, Joins.unfrozen_of_block h 3, Joins.unfrozen_of_block h 4, Joins.unfrozen_of_block h 5, Joins.unfrozen_of_block h 6⟩⟩
theorem seven_below {B : Nat} {W : World} {n : Nat} (hn : B ≤ n) (a0 a1 a2 a3 a4 a5 a6 : Value) :
    Below B W (((((((W.setCell ⟨n, 0, none⟩ a0).setCell ⟨n, 1, none⟩ a1).setCell ⟨n, 2, none⟩ a2).setCell ⟨n, 3, none⟩ a3).setCell ⟨n, 4, none⟩ a4).setCell ⟨n, 5, none⟩ a5).setCell ⟨n, 6, none⟩ a6) :=
  (((((((Below.refl B W).setCell (p := ⟨n, 0, none⟩) hn a0).setCell (p := ⟨n, 1, none⟩) hn a1).setCell (p := ⟨n, 2, none⟩) hn a2).setCell (p := ⟨n, 3, none⟩) hn a3).setCell (p := ⟨n, 4, none⟩) hn a4).setCell (p := ⟨n, 5, none⟩) hn a5).setCell (p := ⟨n, 6, none⟩) hn a6
/-- A message in memory is written whole. -/
theorem seven_new {w W : World} {n : Nat} {i q a : Int} {r s : ByteArray} {x0 x1 x2 x3 x4 x5 x6 : Value} (h : Keeps w W) (hn : w.heap.size + 1 = n) (g : W.heap[w.heap.size]? = some (.cells #[.int .i64 i, .string r, .string s, .int .i64 q, .int .i64 a] tOd (0, 0))) (b : W.heap[n]? = some (.cells #[x0, x1, x2, x3, x4, x5, x6] tMs (0, 0))) (a0 a1 a2 a3 a4 a5 a6 : Value) :
    ∃ W', (((((((W.setCell ⟨n, 0, none⟩ a0).setCell ⟨n, 1, none⟩ a1).setCell ⟨n, 2, none⟩ a2).setCell ⟨n, 3, none⟩ a3).setCell ⟨n, 4, none⟩ a4).setCell ⟨n, 5, none⟩ a5).setCell ⟨n, 6, none⟩ a6) = W' ∧ Keeps w W' ∧ W'.heap[w.heap.size]? = some (.cells #[.int .i64 i, .string r, .string s, .int .i64 q, .int .i64 a] tOd (0, 0)) ∧ W'.heap[n]? = some (.cells #[a0, a1, a2, a3, a4, a5, a6] tMs (0, 0)) :=
  ⟨_, rfl, seven_keeps h (by omega) _ _ _ _ _ _ _, ((seven_below (B := w.heap.size + 1) (by omega) a0 a1 a2 a3 a4 a5 a6).block _ (by omega)).trans g, seven_set b _ _ _ _ _ _ _⟩
def msZ : Obj := msBox 0 0 0 ⟨#[]⟩ 0 0 0
end Go.Proofs.YtkffpmeocfhcpaaDoor
namespace Go.Proofs.YtkffpmeocfhcpaaDoor
open Go.ChangeShapes Go.WideShapes Go.ChangeAt Go.RowKit Bit Ky Od

theorem Keeps.setCell5 {w W : World} (h : Keeps w W) (v : Value) : Keeps w (W.setCell ⟨w.heap.size + 1, 5, none⟩ v) := Below.setCell h (p := ⟨w.heap.size + 1, 5, none⟩) (by simp) v
theorem Keeps.setCell4 {w W : World} (h : Keeps w W) (v : Value) : Keeps w (W.setCell ⟨w.heap.size + 1, 4, none⟩ v) := Below.setCell h (p := ⟨w.heap.size + 1, 4, none⟩) (by simp) v
theorem Keeps.setCell3 {w W : World} (h : Keeps w W) (v : Value) : Keeps w (W.setCell ⟨w.heap.size + 1, 3, none⟩ v) := Below.setCell h (p := ⟨w.heap.size + 1, 3, none⟩) (by simp) v
set_option maxHeartbeats 16000000 in
set_option maxRecDepth 100000 in
theorem od_msg (i : Int) (r s : ByteArray) (q a d : Int) (w : World) (hp : HasP w) (hr : r.size ≤ maxLen) (hs : s.size ≤ maxLen) :
    Calls Tryd.prog 24 #[odV i r s q a, .int .i64 d] w (MsgOut i r s q a d w) := by
  have KB := Lib.hid ((ky_box w (odBox i r s q a)).trans (ky_box (w.alloc (odBox i r s q a)) msZ))
  have CX : Hid (∀ W, Keeps ((w.alloc (odBox i r s q a)).alloc msZ) W → W.heap[w.heap.size]? = some (.cells #[.int .i64 i, .string r, .string s, .int .i64 q, .int .i64 a] tOd (0, 0)) ∧ W.heap[w.heap.size + 1]? = some (.cells #[.int .i64 0, .int .i64 0, .int .i64 0, .string ⟨#[]⟩, .int .i64 0, .int .i64 0, .int .i64 0] tMs (0, 0))) := Lib.hid fun W k => by
    have e1 := box_cells _ ((ky_box (w.alloc (odBox i r s q a)) msZ))
    have e3 := heap_alloc_new (w.alloc (odBox i r s q a)) msZ
    have hz : (w.alloc (odBox i r s q a)).heap.size = w.heap.size + 1 := by simp
    rw [hz] at e3
    have h0 : ((w.alloc (odBox i r s q a)).alloc msZ).heap.size = w.heap.size + 2 := by simp
    exact ⟨(k.block _ (by omega)).trans e1, (k.block _ (by omega)).trans e3⟩
  have HC := Lib.hid (od_check i r s q a ((w.alloc (odBox i r s q a)).alloc msZ) hr hs)
  have HP := Lib.hid (pk_party d ((w.alloc (odBox i r s q a)).alloc msZ) (hp.keeps KB.out))
  have PL : Hid (partyK d < 0 ↔ ¬ (0 ≤ d ∧ d < 6)) := Lib.hid party_lt
  obtain ⟨c, hc⟩ : ∃ c, checkO i r s q a = c := ⟨_, rfl⟩
  have HCC := Lib.hid hc
  rw [hc] at HC
  obtain ⟨p, hpp⟩ : ∃ c, partyK d = c := ⟨_, rfl⟩
  have HPP := Lib.hid hpp
  rw [hpp] at HP PL
  clear hc hp hr hs hpp
  unfold odBox msZ msBox at KB HC CX HP
  unfold odV at HC ⊢
  go_enter Tryd.func24, Tryd.ntmps24
  go_wp2_with fail
  refine HP.out.mono ?_
  rintro e w1 ⟨rfl, rfl⟩
  go_wp2_with fail
  refine HC.out.mono ?_
  rintro e w2 ⟨rfl, k⟩
  have K2 := Lib.hid (KB.out.trans k)
  obtain ⟨hb0, hb1⟩ := CX.out w2 k
  have B0 := Lib.hid hb0
  have B1 := Lib.hid hb1
  obtain ⟨⟨x0, x1, x2, x3, x4⟩, _⟩ := five_at hb0
  obtain ⟨⟨z0, z1, z2, z3, z4, z5, z6⟩, f0, f1, f2, f3, f4, f5, f6⟩ := seven_at hb1
  clear k HC HP hb0 hb1
  by_cases hc0 : c = 0 ∧ 0 ≤ p
  · obtain ⟨rfl, hp0⟩ := hc0
    have D : Hid (0 ≤ d ∧ d < 6) := Lib.hid (by have := PL.out; omega)
    by_cases hpz : p = 0
    · subst hpz
      have G : Hid (IsM i r s q a d 0 i d ⟨#[]⟩ 0 a) := Lib.hid (Or.inl ⟨HCC.out, D.out.1, D.out.2, HPP.out.symm, rfl, rfl, Or.inl ⟨HPP.out, rfl, rfl, rfl⟩⟩)
      obtain ⟨w5, hw5, k5, g5, b5⟩ := seven_new K2.out rfl B0.out B1.out (.int .i64 0) (.int .i64 i) (.int .i64 d) (.string ⟨#[]⟩) (.int .i64 0) (.int .i64 0) (.int .i64 0)
      have HW5 := Lib.hid hw5
      have K5 := Lib.hid k5
      have B5 := Lib.hid b5
      have G5 := Lib.hid g5
      clear hw5 k5 b5 g5
      go_upto_region 5 with (fail)
      rw [HW5.out]
      clear x0 x1 x2 x3 x4 z0 z1 z2 z3 z4 z5 z6 f0 f1 f2 f3 f4 f5 f6 HW5
      obtain ⟨⟨x0, x1, x2, x3, x4⟩, _⟩ := five_at G5.out
      obtain ⟨_, f0, f1, f2, f3, f4, f5, f6⟩ := seven_at B5.out
      go_upto_region 8 with (fail)
      have hb6 := Joins.block_setCell (i := 5) B5.out (.int .i64 a)
      have K6 := Lib.hid (Keeps.setCell5 K5.out (.int .i64 a))
      obtain ⟨w6, hw6⟩ : ∃ W, w5.setCell ⟨w.heap.size + 1, 5, none⟩ (.int .i64 a) = W := ⟨_, rfl⟩
      rw [hw6] at hb6 K6 ⊢
      have B6 : Hid (w6.heap[w.heap.size + 1]? = some (.cells #[.int .i64 0, .int .i64 i, .int .i64 d, .string ⟨#[]⟩, .int .i64 0, .int .i64 a, .int .i64 0] tMs (0, 0))) := Lib.hid hb6
      clear hw6 hb6 x0 x1 x2 x3 x4 f0 f1 f2 f3 f4 f5 f6
      obtain ⟨⟨z0, z1, z2, z3, z4, z5, z6⟩, f0, f1, f2, f3, f4, f5, f6⟩ := seven_at B6.out
      go_wp2
      obtain ⟨⟨e0, e1, e2, e3, e4, e5, e6⟩, _⟩ := seven_at (seven_set B6.out (.int .i64 0) (.int .i64 i) (.int .i64 d) (.string ⟨#[]⟩) (.int .i64 0) (.int .i64 a) (.int .i64 0))
      exact bodyPost_ret (v := msV 0 i d ⟨#[]⟩ 0 a 0) (by simp [results, Tryd.results24, go_sem, msV, e0, e1, e2, e3, e4, e5, e6]) rfl ⟨_, _, _, _, _, _, rfl, G.out, seven_keeps K6.out (by omega) _ _ _ _ _ _ _⟩
    · have G : Hid (IsM i r s q a d p i d s q 0) := Lib.hid (Or.inl ⟨HCC.out, D.out.1, D.out.2, HPP.out.symm, rfl, rfl, Or.inr ⟨by rw [HPP.out]; exact hpz, rfl, rfl, rfl⟩⟩)
      have t : (p == 0) = false := by rw [beq_eq_false_iff_ne]; exact hpz
      obtain ⟨w5, hw5, k5, g5, b5⟩ := seven_new K2.out rfl B0.out B1.out (.int .i64 p) (.int .i64 i) (.int .i64 d) (.string ⟨#[]⟩) (.int .i64 0) (.int .i64 0) (.int .i64 0)
      have HW5 := Lib.hid hw5
      have K5 := Lib.hid k5
      have B5 := Lib.hid b5
      have G5 := Lib.hid g5
      clear hw5 k5 b5 g5 hpz
      go_upto_region 5 with (fail)
      rw [HW5.out]
      clear x0 x1 x2 x3 x4 z0 z1 z2 z3 z4 z5 z6 f0 f1 f2 f3 f4 f5 f6 HW5
      obtain ⟨⟨x0, x1, x2, x3, x4⟩, _⟩ := five_at G5.out
      obtain ⟨_, f0, f1, f2, f3, f4, f5, f6⟩ := seven_at B5.out
      go_upto_region 7 with (fail)
      go_region
      go_upto_region 8 with (fail)
      have hb6 := Joins.block_setCell (i := 4) (Joins.block_setCell (i := 3) B5.out (.string s)) (.int .i64 q)
      have K6 := Lib.hid ((Keeps.setCell4 (Keeps.setCell3 K5.out (.string s)) (.int .i64 q)).trans (ky_drew _))
      obtain ⟨w6, hw6⟩ : ∃ W, ((w5.setCell ⟨w.heap.size + 1, 3, none⟩ (.string s)).setCell ⟨w.heap.size + 1, 4, none⟩ (.int .i64 q)).drew = W := ⟨_, rfl⟩
      have B6 : Hid (w6.heap[w.heap.size + 1]? = some (.cells #[.int .i64 p, .int .i64 i, .int .i64 d, .string s, .int .i64 q, .int .i64 0, .int .i64 0] tMs (0, 0))) := Lib.hid (by rw [← hw6]; exact hb6)
      rw [hw6] at K6 ⊢
      clear hw6 hb6 x0 x1 x2 x3 x4 f0 f1 f2 f3 f4 f5 f6
      obtain ⟨⟨z0, z1, z2, z3, z4, z5, z6⟩, f0, f1, f2, f3, f4, f5, f6⟩ := seven_at B6.out
      go_wp2
      obtain ⟨⟨e0, e1, e2, e3, e4, e5, e6⟩, _⟩ := seven_at (seven_set B6.out (.int .i64 p) (.int .i64 i) (.int .i64 d) (.string s) (.int .i64 q) (.int .i64 0) (.int .i64 0))
      exact bodyPost_ret (v := msV p i d s q 0 0) (by simp [results, Tryd.results24, go_sem, msV, e0, e1, e2, e3, e4, e5, e6]) rfl ⟨_, _, _, _, _, _, rfl, G.out, seven_keeps K6.out (by omega) _ _ _ _ _ _ _⟩
  · have G : Hid (IsM i r s q a d 0 0 0 ⟨#[]⟩ 0 0) := Lib.hid (Or.inr ⟨by rw [HCC.out]; have := PL.out; omega, rfl, rfl, rfl, rfl, rfl, rfl⟩)
    rcases (show c ≠ 0 ∨ (c = 0 ∧ p < 0) from by omega) with hc1 | ⟨rfl, hp1⟩
    · have t : (c == 0) = false := by rw [beq_eq_false_iff_ne]; exact hc1
      have t2 : (c != 0) = true := by rw [bne, t]; rfl
      clear hc0 hc1
      go_wp2
      obtain ⟨⟨e0, e1, e2, e3, e4, e5, e6⟩, _⟩ := seven_at (seven_set B1.out (.int .i64 0) (.int .i64 0) (.int .i64 0) (.string ⟨#[]⟩) (.int .i64 0) (.int .i64 0) (.int .i64 0))
      exact bodyPost_ret (v := msV 0 0 0 ⟨#[]⟩ 0 0 0) (by simp [results, Tryd.results24, go_sem, msV, e0, e1, e2, e3, e4, e5, e6]) rfl ⟨_, _, _, _, _, _, rfl, G.out, seven_keeps K2.out (by omega) _ _ _ _ _ _ _⟩
    · clear hc0
      go_wp2
      obtain ⟨⟨e0, e1, e2, e3, e4, e5, e6⟩, _⟩ := seven_at (seven_set B1.out (.int .i64 0) (.int .i64 0) (.int .i64 0) (.string ⟨#[]⟩) (.int .i64 0) (.int .i64 0) (.int .i64 0))
      exact bodyPost_ret (v := msV 0 0 0 ⟨#[]⟩ 0 0 0) (by simp [results, Tryd.results24, go_sem, msV, e0, e1, e2, e3, e4, e5, e6]) rfl ⟨_, _, _, _, _, _, rfl, G.out, seven_keeps K2.out (by omega) _ _ _ _ _ _ _⟩
end Go.Proofs.YtkffpmeocfhcpaaDoor
namespace Go.Proofs.YtkffpmeocfhcpaaDoor
open Go.ChangeShapes Go.WideShapes Go.ChangeAt Go.RowKit Bit Ky Od

set_option maxHeartbeats 16000000 in
set_option maxRecDepth 100000 in
theorem or_msg (i : Int) (r s : ByteArray) (q a d : Int) (w : World) (hr : r.size ≤ maxLen) (hs : s.size ≤ maxLen) :
    Calls Tryd.prog 77 #[odV i r s q a, .int .i64 d] w (MsgOut i r s q a d w) := by
  have KB := Lib.hid ((ky_box w (odBox i r s q a)).trans (ky_box (w.alloc (odBox i r s q a)) msZ))
  have CX : Hid (∀ W, Keeps ((w.alloc (odBox i r s q a)).alloc msZ) W → W.heap[w.heap.size]? = some (.cells #[.int .i64 i, .string r, .string s, .int .i64 q, .int .i64 a] tOd (0, 0)) ∧ W.heap[w.heap.size + 1]? = some (.cells #[.int .i64 0, .int .i64 0, .int .i64 0, .string ⟨#[]⟩, .int .i64 0, .int .i64 0, .int .i64 0] tMs (0, 0))) := Lib.hid fun W k => by
    have e1 := box_cells _ ((ky_box (w.alloc (odBox i r s q a)) msZ))
    have e3 := heap_alloc_new (w.alloc (odBox i r s q a)) msZ
    have hz : (w.alloc (odBox i r s q a)).heap.size = w.heap.size + 1 := by simp
    rw [hz] at e3
    have h0 : ((w.alloc (odBox i r s q a)).alloc msZ).heap.size = w.heap.size + 2 := by simp
    exact ⟨(k.block _ (by omega)).trans e1, (k.block _ (by omega)).trans e3⟩
  have HC := Lib.hid (or_check i r s q a ((w.alloc (odBox i r s q a)).alloc msZ) hr hs)
  have HP := Lib.hid fun W => kr_party d W
  have PL : Hid (partyK d < 0 ↔ ¬ (0 ≤ d ∧ d < 6)) := Lib.hid party_lt
  obtain ⟨c, hc⟩ : ∃ c, checkO i r s q a = c := ⟨_, rfl⟩
  have HCC := Lib.hid hc
  rw [hc] at HC
  obtain ⟨p, hpp⟩ : ∃ c, partyK d = c := ⟨_, rfl⟩
  have HPP := Lib.hid hpp
  rw [hpp] at HP PL
  clear hc hr hs hpp
  unfold odBox msZ msBox at KB HC CX
  unfold odV at HC ⊢
  go_enter Tryd.func77, Tryd.ntmps77
  go_wp2_with fail
  refine HC.out.mono ?_
  rintro e w2 ⟨rfl, k⟩
  have K2 := Lib.hid (KB.out.trans k)
  obtain ⟨hb0, hb1⟩ := CX.out w2 k
  have B0 := Lib.hid hb0
  have B1 := Lib.hid hb1
  obtain ⟨⟨x0, x1, x2, x3, x4⟩, _⟩ := five_at hb0
  obtain ⟨⟨z0, z1, z2, z3, z4, z5, z6⟩, f0, f1, f2, f3, f4, f5, f6⟩ := seven_at hb1
  clear k HC hb0 hb1
  by_cases hc0 : c = 0
  · subst hc0
    go_wp2_with fail
    refine (HP.out _).mono ?_
    rintro e w3 ⟨rfl, rfl⟩
    by_cases hp0 : 0 ≤ p
    · have D : Hid (0 ≤ d ∧ d < 6) := Lib.hid (by have := PL.out; omega)
      by_cases hpz : p = 0
      · subst hpz
        have G : Hid (IsM i r s q a d 0 i d ⟨#[]⟩ 0 a) := Lib.hid (Or.inl ⟨HCC.out, D.out.1, D.out.2, HPP.out.symm, rfl, rfl, Or.inl ⟨HPP.out, rfl, rfl, rfl⟩⟩)
        go_wp2_with fail
        refine (HP.out _).mono ?_
        rintro e w3 ⟨rfl, rfl⟩
        go_wp2
        obtain ⟨⟨e0, e1, e2, e3, e4, e5, e6⟩, _⟩ := seven_at (seven_set B1.out (.int .i64 0) (.int .i64 i) (.int .i64 d) (.string ⟨#[]⟩) (.int .i64 0) (.int .i64 a) (.int .i64 0))
        exact bodyPost_ret (v := msV 0 i d ⟨#[]⟩ 0 a 0) (by simp [results, Tryd.results77, go_sem, msV, e0, e1, e2, e3, e4, e5, e6]) rfl ⟨_, _, _, _, _, _, rfl, G.out, seven_keeps K2.out (by omega) _ _ _ _ _ _ _⟩
      · have G : Hid (IsM i r s q a d p i d s q 0) := Lib.hid (Or.inl ⟨HCC.out, D.out.1, D.out.2, HPP.out.symm, rfl, rfl, Or.inr ⟨by rw [HPP.out]; exact hpz, rfl, rfl, rfl⟩⟩)
        have t : (p == 0) = false := by rw [beq_eq_false_iff_ne]; exact hpz
        clear hpz
        go_wp2_with fail
        refine (HP.out _).mono ?_
        rintro e w3 ⟨rfl, rfl⟩
        go_upto_region 5 with (fail)
        refine wp_region_still_tail 11 (by kernel_rfl) (by kernel_rfl) ?_
        generalize hq : ({ w2 with drawn := w2.drawn + 1 } : World) = wq
        have hq2 : w2.drew = wq := hq
        have KQ : Hid (Keeps w wq) := Lib.hid (hq2 ▸ K2.out.trans (ky_drew _))
        have Q0 : Hid (wq.heap[w.heap.size]? = some (.cells #[.int .i64 i, .string r, .string s, .int .i64 q, .int .i64 a] tOd (0, 0))) := Lib.hid (hq2 ▸ B0.out)
        have Q1 : Hid (wq.heap[w.heap.size + 1]? = some (.cells #[.int .i64 0, .int .i64 0, .int .i64 0, .string ⟨#[]⟩, .int .i64 0, .int .i64 0, .int .i64 0] tMs (0, 0))) := Lib.hid (hq2 ▸ B1.out)
        clear hq hq2 x0 x1 x2 x3 x4 z0 z1 z2 z3 z4 z5 z6 f0 f1 f2 f3 f4 f5 f6
        obtain ⟨⟨x0, x1, x2, x3, x4⟩, _⟩ := five_at Q0.out
        obtain ⟨⟨z0, z1, z2, z3, z4, z5, z6⟩, f0, f1, f2, f3, f4, f5, f6⟩ := seven_at Q1.out
        have ST := Lib.hid fun W => HP.out W
        simp only [List.take_succ_cons, List.take_zero, List.drop_succ_cons, List.drop_zero]
        repeat (refine wpStill_step (fun K hK => ?_); go_simp; first
          | (refine hK _ ?_; clear hK K)
          | (refine ⟨_, ((HP.out _).mono fun _ _ h => ⟨h.1, h.2.symm⟩), hK _ ?_⟩; clear hK K))
        try refine wpStill_nil ?_
        go_wp2
        obtain ⟨⟨e0, e1, e2, e3, e4, e5, e6⟩, _⟩ := seven_at (seven_set Q1.out (.int .i64 p) (.int .i64 i) (.int .i64 d) (.string s) (.int .i64 q) (.int .i64 0) (.int .i64 0))
        exact bodyPost_ret (v := msV p i d s q 0 0) (by simp [results, Tryd.results77, go_sem, msV, e0, e1, e2, e3, e4, e5, e6]) rfl ⟨_, _, _, _, _, _, rfl, G.out, seven_keeps KQ.out (by omega) _ _ _ _ _ _ _⟩
    · have G : Hid (IsM i r s q a d 0 0 0 ⟨#[]⟩ 0 0) := Lib.hid (Or.inr ⟨by rw [HCC.out]; have := PL.out; omega, rfl, rfl, rfl, rfl, rfl, rfl⟩)
      go_wp2
      obtain ⟨⟨e0, e1, e2, e3, e4, e5, e6⟩, _⟩ := seven_at (seven_set B1.out (.int .i64 0) (.int .i64 0) (.int .i64 0) (.string ⟨#[]⟩) (.int .i64 0) (.int .i64 0) (.int .i64 0))
      exact bodyPost_ret (v := msV 0 0 0 ⟨#[]⟩ 0 0 0) (by simp [results, Tryd.results77, go_sem, msV, e0, e1, e2, e3, e4, e5, e6]) rfl ⟨_, _, _, _, _, _, rfl, G.out, seven_keeps K2.out (by omega) _ _ _ _ _ _ _⟩
  · have G : Hid (IsM i r s q a d 0 0 0 ⟨#[]⟩ 0 0) := Lib.hid (Or.inr ⟨by rw [HCC.out]; intro h; exact hc0 h.1, rfl, rfl, rfl, rfl, rfl, rfl⟩)
    have t : (c == 0) = false := by rw [beq_eq_false_iff_ne]; exact hc0
    have t2 : (c != 0) = true := by rw [bne, t]; rfl
    clear hc0
    go_wp2
    obtain ⟨⟨e0, e1, e2, e3, e4, e5, e6⟩, _⟩ := seven_at (seven_set B1.out (.int .i64 0) (.int .i64 0) (.int .i64 0) (.string ⟨#[]⟩) (.int .i64 0) (.int .i64 0) (.int .i64 0))
    exact bodyPost_ret (v := msV 0 0 0 ⟨#[]⟩ 0 0 0) (by simp [results, Tryd.results77, go_sem, msV, e0, e1, e2, e3, e4, e5, e6]) rfl ⟨_, _, _, _, _, _, rfl, G.out, seven_keeps K2.out (by omega) _ _ _ _ _ _ _⟩
end Go.Proofs.YtkffpmeocfhcpaaDoor
