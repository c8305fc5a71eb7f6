/- The chapter's books. -/
import Derived.Test.YtffipjhpoaalhaaBkPost
import Derived.WalkKit
import Derived.Deep.RegionHeld3
import Derived.Deep.QuietTactic
import Derived.BigQuiet
set_option linter.unusedVariables false
namespace Go.Proofs.Ytffipjhpoaalhaa
open Go.ChangeShapes Go.WideShapes Go.ChangeAt Go.RowKit Csv Bk Mon

def poA : PI := ⟨⟨#[97]⟩, 1, 1, 2, 5⟩
def poS : PI := ⟨⟨#[97]⟩, 1, 1, 2, 6⟩
def poO : PI := ⟨⟨#[98]⟩, 1, 1, 2, 9223372036854775807⟩
def poC : PI := ⟨⟨#[99]⟩, 1, 2, 2, 0⟩
theorem po1 : postI [] poA = (0, [poA]) := by rfl
theorem po2 : postI [poA] poA = (0, [poA]) := by rfl
theorem po3 : postI [poA] poS = (91, [poA]) := by rfl
theorem po4 : postI [poA] poO = (90, [poA]) := by rfl
theorem po5 : postI [poA] poC = (2, [poA]) := by rfl
theorem pob1 : balM (pms [poA]) 1 1 = 5 := by rfl
theorem pob2 : balM (pms [poA]) 2 0 = -5 := by rfl
theorem pob3 : balM (pms [poA]) 2 2 = 0 := by rfl
theorem poGood (p : PI) (h : p = poA ∨ p = poS ∨ p = poO ∨ p = poC) : p.Good := by
  rcases h with rfl | rfl | rfl | rfl <;> exact ⟨by unfold maxLen; decide, by unfold I64 top; decide, by unfold I64 top; decide, by unfold I64 top; decide, by unfold I64 top; decide⟩
theorem poOk : OkL (pms [poA]) := by
  have h := ok_post OkL.nil poA.pm
  have e := pms_post [] poA
  rw [po1] at e
  have e2 : pms [] = [] := rfl
  rw [e2] at e
  rw [← e] at h
  exact h
/-- The chapter's books under way: three boxes of the law's own beside them. -/
structure PSt (w : World) (n b : Nat) (L : List PI) (F : Nat → Prop) (W : World) : Prop where
  books : PBk W F b L
  off : ∀ i, F i → w.heap.size ≤ i ∧ i ≠ n ∧ i ≠ n + 1 ∧ i ≠ n + 2
  lt : n + 2 < W.heap.size
  b0 : W.heap[n]? = some (.cells poA.vals.toArray tPo (0, 0))
  b1 : W.heap[n + 1]? = some (.cells poS.vals.toArray tPo (0, 0))
  b2 : W.heap[n + 2]? = some (.cells poO.vals.toArray tPo (0, 0))
  keep : Keeps w W
theorem PSt.post {w W W' : World} {n b : Nat} {L L' : List PI} {F F' : Nat → Prop} (h : PSt w n b L F W) (o : OffF F F' W W') (hb : PBk W' F' b L') : PSt w n b L' F' W' := by
  have f : ∀ i, i < W.heap.size → ¬ F i → W'.heap[i]? = W.heap[i]? := o.block
  refine ⟨hb, ?_, Nat.lt_of_lt_of_le h.lt o.size, ?_, ?_, ?_, ?_⟩
  · intro i hi
    rcases o.own i hi with hi | hi
    · exact h.off i hi
    · have := h.lt; have := h.keep.size; omega
  · rw [f n (by have := h.lt; omega) (fun hn => (h.off n hn).2.1 rfl)]; exact h.b0
  · rw [f (n + 1) (by have := h.lt; omega) (fun hn => (h.off _ hn).2.2.1 rfl)]; exact h.b1
  · rw [f (n + 2) h.lt (fun hn => (h.off _ hn).2.2.2 rfl)]; exact h.b2
  · exact ⟨o.os.trans h.keep.os, o.tape.trans h.keep.tape, o.output.trans h.keep.output, Nat.le_trans h.keep.size o.size, fun i hi => (f i (Nat.lt_of_lt_of_le hi h.keep.size) (fun hn => by have := (h.off i hn).1; omega)).trans (h.keep.block i hi)⟩
theorem PSt.keeps {w W W' : World} {n b : Nat} {L : List PI} {F : Nat → Prop} (h : PSt w n b L F W) (k : Keeps W W') : PSt w n b L F W' :=
  ⟨h.books.keeps k, h.off, Nat.lt_of_lt_of_le h.lt k.size, (k.block _ (by have := h.lt; omega)).trans h.b0, (k.block _ (by have := h.lt; omega)).trans h.b1, (k.block _ h.lt).trans h.b2, h.keep.trans k⟩
/-- A box's cells. -/
theorem box_cells {W : World} {n : Nat} {p : PI} (h : W.heap[n]? = some (.cells p.vals.toArray tPo (0, 0))) :
    W.cell? ⟨n, 0, none⟩ = some (.string p.s) ∧ W.cell? ⟨n, 1, none⟩ = some (.int .i64 p.ord) ∧ W.cell? ⟨n, 2, none⟩ = some (.int .i64 p.deb) ∧ W.cell? ⟨n, 3, none⟩ = some (.int .i64 p.cre) ∧ W.cell? ⟨n, 4, none⟩ = some (.int .i64 p.amt) :=
  ⟨Joins.cell_of_block h 0, Joins.cell_of_block h 1, Joins.cell_of_block h 2, Joins.cell_of_block h 3, Joins.cell_of_block h 4⟩
theorem PSt.start {w w1 : World} {b : Nat} {F : Nat → Prop} (k1 : Keeps w w1) (hb : PBk w1 F b []) (hf : ∀ i, F i → w.heap.size ≤ i) :
    PSt w w1.heap.size b [] F (((w1.alloc (.cells #[.string ⟨#[97]⟩, .int .i64 1, .int .i64 1, .int .i64 2, .int .i64 5] tPo)).alloc (.cells #[.string ⟨#[97]⟩, .int .i64 1, .int .i64 1, .int .i64 2, .int .i64 6] tPo)).alloc (.cells #[.string ⟨#[98]⟩, .int .i64 1, .int .i64 1, .int .i64 2, .int .i64 9223372036854775807] tPo)) := by
  have k2 : Keeps w1 (((w1.alloc (.cells #[.string ⟨#[97]⟩, .int .i64 1, .int .i64 1, .int .i64 2, .int .i64 5] tPo)).alloc (.cells #[.string ⟨#[97]⟩, .int .i64 1, .int .i64 1, .int .i64 2, .int .i64 6] tPo)).alloc (.cells #[.string ⟨#[98]⟩, .int .i64 1, .int .i64 1, .int .i64 2, .int .i64 9223372036854775807] tPo)) :=
    ((keeps_box w1 _).trans (keeps_box _ _)).trans (keeps_box _ _)
  have z (W : World) (o : Obj) : (W.alloc o).heap.size = W.heap.size + 1 := by simp
  refine ⟨hb.keeps k2, ?_, by rw [z, z, z]; omega, ?_, ?_, ?_, k1.trans k2⟩
  · intro i hi
    have := hb.lt i hi
    have := hf i hi
    omega
  · rw [(keeps_box _ _).block _ (by rw [z, z]; omega), (keeps_box _ _).block _ (by rw [z]; omega)]
    exact heap_alloc_new _ _
  · rw [(keeps_box _ _).block _ (by rw [z, z]; omega)]
    have := heap_alloc_new (w1.alloc (.cells #[.string ⟨#[97]⟩, .int .i64 1, .int .i64 1, .int .i64 2, .int .i64 5] tPo)) (.cells #[.string ⟨#[97]⟩, .int .i64 1, .int .i64 1, .int .i64 2, .int .i64 6] tPo)
    rw [z] at this
    exact this
  · have := heap_alloc_new ((w1.alloc (.cells #[.string ⟨#[97]⟩, .int .i64 1, .int .i64 1, .int .i64 2, .int .i64 5] tPo)).alloc (.cells #[.string ⟨#[97]⟩, .int .i64 1, .int .i64 1, .int .i64 2, .int .i64 6] tPo)) (.cells #[.string ⟨#[98]⟩, .int .i64 1, .int .i64 1, .int .i64 2, .int .i64 9223372036854775807] tPo)
    rw [z, z] at this
    exact this
theorem PSt.doPost {w W : World} {n b : Nat} {L L' : List PI} {F : Nat → Prop} {q : Int} (h : PSt w n b L F W) (p : PI) (hp : p = poA ∨ p = poS ∨ p = poO ∨ p = poC) (hL : L = [] ∨ L = [poA]) (e : postI L p = (q, L')) :
    Calls Try.prog 11 #[.pointer (some ⟨b, 0, none⟩), p.val] W fun e w' => e = .returned (.int .i64 q) ∧ ∃ F', PSt w n b L' F' w' := by
  have hg : GoodL L := by
    rcases hL with rfl | rfl
    · intro x hx; cases hx
    · intro x hx; rw [List.mem_singleton] at hx; subst hx; exact poGood _ (Or.inl rfl)
  have hok : OkL (pms L) := by
    rcases hL with rfl | rfl
    · exact OkL.nil
    · exact poOk
  refine (ppost_any F b L p W h.books hg (poGood p hp) hok (by rcases hL with rfl | rfl <;> simp)).mono ?_
  rintro e' w' ⟨rfl, F', hb, ho⟩
  rw [e] at hb ⊢
  exact ⟨rfl, F', h.post ho hb⟩
theorem PSt.doBal {w W : World} {n b : Nat} {F : Nat → Prop} (h : PSt w n b [poA] F W) (a o q : Int) (ha : I64 a) (ho : I64 o) (e : balM (pms [poA]) a o = q) :
    Calls Try.prog 13 #[.pointer (some ⟨b, 0, none⟩), .int .i64 a, .int .i64 o] W fun e w' => e = .returned (.int .i64 q) ∧ PSt w n b [poA] F w' := by
  refine (pbalance_any F b [poA] a o W h.books poOk ha ho).mono ?_
  rintro e' w' ⟨rfl, k⟩
  exact ⟨by rw [e], h.keeps k⟩
theorem PSt.doMany {w W : World} {n b : Nat} {F : Nat → Prop} (h : PSt w n b [poA] F W) :
    Calls Try.prog 17 #[.pointer (some ⟨b, 0, none⟩)] W fun e w' => e = .returned (.int .i64 1) ∧ PSt w n b [poA] F w' := by
  refine (pmany_any F b [poA] W h.books).mono ?_
  rintro e' w' ⟨rfl, k⟩
  exact ⟨rfl, h.keeps k⟩
theorem PSt.doZero {w W : World} {n b : Nat} {F : Nat → Prop} (h : PSt w n b [poA] F W) :
    Calls Try.prog 18 #[.pointer (some ⟨b, 0, none⟩)] W fun e w' => e = .returned (.bool true) ∧ PSt w n b [poA] F w' := by
  refine (pzero_any F b [poA] W h.books poOk).mono ?_
  rintro e' w' ⟨rfl, k⟩
  exact ⟨rfl, h.keeps k⟩
/-- The boxes' cells, spelt as the walk spells them. -/
theorem PSt.cells {w W : World} {n b : Nat} {L : List PI} {F : Nat → Prop} (h : PSt w n b L F W) :
    (W.cell? ⟨n, 0, none⟩ = some (.string ⟨#[97]⟩) ∧ W.cell? ⟨n, 1, none⟩ = some (.int .i64 1) ∧ W.cell? ⟨n, 2, none⟩ = some (.int .i64 1) ∧ W.cell? ⟨n, 3, none⟩ = some (.int .i64 2) ∧ W.cell? ⟨n, 4, none⟩ = some (.int .i64 5)) ∧
    (W.cell? ⟨n + 1, 0, none⟩ = some (.string ⟨#[97]⟩) ∧ W.cell? ⟨n + 1, 1, none⟩ = some (.int .i64 1) ∧ W.cell? ⟨n + 1, 2, none⟩ = some (.int .i64 1) ∧ W.cell? ⟨n + 1, 3, none⟩ = some (.int .i64 2) ∧ W.cell? ⟨n + 1, 4, none⟩ = some (.int .i64 6)) ∧
    (W.cell? ⟨n + 1 + 1, 0, none⟩ = some (.string ⟨#[98]⟩) ∧ W.cell? ⟨n + 1 + 1, 1, none⟩ = some (.int .i64 1) ∧ W.cell? ⟨n + 1 + 1, 2, none⟩ = some (.int .i64 1) ∧ W.cell? ⟨n + 1 + 1, 3, none⟩ = some (.int .i64 2) ∧ W.cell? ⟨n + 1 + 1, 4, none⟩ = some (.int .i64 9223372036854775807)) :=
  ⟨box_cells h.b0, box_cells h.b1, box_cells h.b2⟩
set_option maxRecDepth 100000 in
set_option maxHeartbeats 8000000 in
theorem posted_any (w : World) :
    Calls Try.prog 9 #[] w fun e w' => e = .returned (.bool true) ∧ Keeps w w' := by
  have HN := Lib.hid (pnew_any w)
  go_enter Try.func9, Try.ntmps9
  go_wp2_with fail
  refine HN.out.mono ?_
  rintro e w1 ⟨b, F, rfl, hb, hf, k1⟩
  have HS := Lib.hid (PSt.start k1 hb hf)
  clear hb hf k1
  go_wp2_with fail
  refine (HS.out.doPost poA (by simp) (Or.inl rfl) po1).mono ?_
  rintro e w2 ⟨rfl, F2, h2⟩
  have HS2 := Lib.hid h2
  obtain ⟨⟨a0, a1, a2, a3, a4⟩, ⟨s0, s1, s2, s3, s4⟩, ⟨o0, o1, o2, o3, o4⟩⟩ := h2.cells
  clear h2 HS
  go_wp2_with fail
  refine (HS2.out.doPost poA (by simp) (Or.inr rfl) po2).mono ?_
  rintro e w3 ⟨rfl, F3, h3⟩
  have HS3 := Lib.hid h3
  clear a0 a1 a2 a3 a4 s0 s1 s2 s3 s4 o0 o1 o2 o3 o4
  obtain ⟨⟨a0, a1, a2, a3, a4⟩, ⟨s0, s1, s2, s3, s4⟩, ⟨o0, o1, o2, o3, o4⟩⟩ := h3.cells
  clear h3 HS2
  go_wp2_with fail
  refine (HS3.out.doPost poS (by simp) (Or.inr rfl) po3).mono ?_
  rintro e w4 ⟨rfl, F4, h4⟩
  have HS4 := Lib.hid h4
  clear a0 a1 a2 a3 a4 s0 s1 s2 s3 s4 o0 o1 o2 o3 o4 h4
  go_wp2_with fail
  refine (HS4.out.doBal 1 1 5 (by unfold I64 top; decide) (by unfold I64 top; decide) pob1).mono ?_
  rintro e w5 ⟨rfl, h5⟩
  have HS5 := Lib.hid h5
  clear h5 HS4
  go_wp2_with fail
  refine (HS5.out.doBal 2 0 (-5) (by unfold I64 top; decide) (by unfold I64 top; decide) pob2).mono ?_
  rintro e w6 ⟨rfl, h6⟩
  have HS6 := Lib.hid h6
  clear h6 HS5
  go_wp2_with fail
  refine (HS6.out.doBal 2 2 0 (by unfold I64 top; decide) (by unfold I64 top; decide) pob3).mono ?_
  rintro e w7 ⟨rfl, h7⟩
  have HS7 := Lib.hid h7
  clear h7 HS6
  go_wp2_with fail
  refine HS7.out.doMany.mono ?_
  rintro e w8 ⟨rfl, h8⟩
  have HS8 := Lib.hid h8
  obtain ⟨⟨a0, a1, a2, a3, a4⟩, ⟨s0, s1, s2, s3, s4⟩, ⟨o0, o1, o2, o3, o4⟩⟩ := h8.cells
  clear h8 HS7
  go_wp2_with fail
  refine (HS8.out.doPost poO (by simp) (Or.inr rfl) po4).mono ?_
  rintro e w9 ⟨rfl, F9, h9⟩
  have HS9 := Lib.hid h9
  clear h9 HS8 a0 a1 a2 a3 a4 s0 s1 s2 s3 s4 o0 o1 o2 o3 o4
  go_wp2_with fail
  refine (HS9.out.doPost poC (by simp) (Or.inr rfl) po5).mono ?_
  rintro e w10 ⟨rfl, F10, h10⟩
  have HS10 := Lib.hid h10
  clear h10 HS9
  go_wp2_with fail
  refine HS10.out.doZero.mono ?_
  rintro e w11 ⟨rfl, h11⟩
  have HS11 := Lib.hid h11
  clear h11 HS10
  go_wp2
  go_ret
  exact ⟨rfl, HS11.out.keep⟩
end Go.Proofs.Ytffipjhpoaalhaa
