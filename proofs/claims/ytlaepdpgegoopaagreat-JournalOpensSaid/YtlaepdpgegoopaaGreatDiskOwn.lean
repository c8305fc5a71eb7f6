
/- A disk of the call's own: its calls, one behind the other; the chapter's disk. -/
import Derived.Test.YtlaepdpgegoopaaGreatDiskOps3
set_option linter.unusedVariables false
namespace Go.Proofs.YtlaepdpgegoopaaGreat
open Go.ChangeShapes Go.WideShapes Go.ChangeAt Go.RowKit Go.Maps Csv Dk

/-- A disk that was made since the world w. -/
def Own (w : World) (d : Nat) (D : DiskM) (W : World) : Prop := ∃ G, IsDisk W d D G ∧ Keeps w W ∧ ∀ b ∈ G, w.heap.size ≤ b
theorem Own.goes {w W W' : World} {d : Nat} {D D' : DiskM} {G : List Nat} (hI : IsDisk W d D G) (hk : Keeps w W) (hG : ∀ b ∈ G, w.heap.size ≤ b) (h : Goes W W' G d D') : Own w d D' W' := by
  obtain ⟨G', h1, h2, h3⟩ := h
  refine ⟨G', h1, Below.trans hk (h2.below hk.size hG), fun b hb => ?_⟩
  rcases h3 b hb with h4 | h4
  · exact hG b h4
  · have := hk.size; omega
theorem Own.keeps {w W W' : World} {d : Nat} {D : DiskM} (h : Own w d D W) (k : Keeps W W') : Own w d D W' := by
  obtain ⟨G, h1, h2, h3⟩ := h
  exact ⟨G, h1.keeps k, Keeps.trans h2 k, h3⟩
theorem Own.kept {w W : World} {d : Nat} {D : DiskM} (h : Own w d D W) : Keeps w W := by
  obtain ⟨G, h1, h2, h3⟩ := h; exact h2
theorem Own.okay {w W : World} {d : Nat} {D : DiskM} (h : Own w d D W) : Okay D := by
  obtain ⟨G, h1, h2, h3⟩ := h; exact h1.okay
/-- Ints of a list that was just laid are read, whatever a disk of elder blocks does. -/
theorem lit_stable {W : World} {d : Nat} {D : DiskM} {G : List Nat} (h : IsDisk W d D G) (cs : List Int) (hl : cs.length ≤ 1000) : Stable G (W.alloc (.cells (ivs cs).toArray tI)) (.slice (some ⟨W.heap.size, 0, none⟩) cs.length cs.length) cs := by
  intro w' hf
  have h0 : IntsAt (W.alloc (.cells (ivs cs).toArray tI)) (.slice (some ⟨W.heap.size, 0, none⟩) cs.length cs.length) cs := lay_ints tI rfl rfl rfl (by unfold maxLen; omega)
  obtain ⟨p, c, e, hm, hc⟩ := h0
  refine ⟨p, c, e, hm, fun j x hx => ?_⟩
  obtain ⟨a, rfl, hcell⟩ := hc j x hx
  refine ⟨a, rfl, ?_⟩
  cases e
  have hb : ((⟨W.heap.size, 0, none⟩ : Addr).add j).block = W.heap.size := by rw [addr_of]
  rw [World.cell?_of_block (w := W.alloc (.cells (ivs cs).toArray tI)) (by
    rw [hb]
    exact hf.block W.heap.size (by simp) fun hm => by have := h.lt _ hm; omega)]
  exact hcell

section
variable {w W : World} {d : Nat} {D : DiskM}
theorem new_own (n : Nat) (w W : World) (hW : Keeps w W) (h : n ≤ 1048576) : Calls Tryz.prog 5 #[.int .i64 (n : Int)] W fun e w' => ∃ d, e = .returned (.tuple #[ptrV d, .int .i64 0]) ∧ Own w d (newD n) w' :=
  (newD_any n W h).mono fun e w' ⟨d, G, h1, h2, h3, h4⟩ => ⟨d, h1, G, h2, Keeps.trans hW h3, fun b hb => Nat.le_trans hW.size (h4 b hb)⟩
theorem create_own (h : Own w d D W) {n : Int} (hn : I64 n) {r : Int} {D' : DiskM} (hr : createD D n = (r, D')) : Calls Tryz.prog 7 #[ptrV d, .int .i64 n] W fun e w' => e = .returned (.int .i64 r) ∧ Own w d D' w' := by
  obtain ⟨G, h1, h2, h3⟩ := h
  exact (createD_any d D G n W h1 hn).mono fun e w' ⟨g1, g2⟩ => by rw [hr] at g1 g2; exact ⟨g1, Own.goes h1 h2 h3 g2⟩
theorem append_own (h : Own w d D W) {n : Int} (hn : I64 n) {s : ByteArray} (hs : s.size ≤ maxLen) {r : Int} {D' : DiskM} (hr : appendD D n s.data.toList = (r, D')) : Calls Tryz.prog 9 #[ptrV d, .int .i64 n, .string s] W fun e w' => e = .returned (.int .i64 r) ∧ Own w d D' w' := by
  obtain ⟨G, h1, h2, h3⟩ := h
  exact (append_any d D G n s W h1 hn hs).mono fun e w' ⟨g1, g2⟩ => by rw [hr] at g1 g2; exact ⟨g1, Own.goes h1 h2 h3 g2⟩
theorem sync_own (h : Own w d D W) {n : Int} (hn : I64 n) {r : Int} {D' : DiskM} (hr : syncD D n = (r, D')) : Calls Tryz.prog 71 #[ptrV d, .int .i64 n] W fun e w' => e = .returned (.int .i64 r) ∧ Own w d D' w' := by
  obtain ⟨G, h1, h2, h3⟩ := h
  exact (sync_any d D G n W h1 hn).mono fun e w' ⟨g1, g2⟩ => by rw [hr] at g1 g2; exact ⟨g1, Own.goes h1 h2 h3 g2⟩
theorem trunc_own (h : Own w d D W) {n size : Int} (hn : I64 n) (hs : I64 size) {r : Int} {D' : DiskM} (hr : truncD D n size = (r, D')) : Calls Tryz.prog 81 #[ptrV d, .int .i64 n, .int .i64 size] W fun e w' => e = .returned (.int .i64 r) ∧ Own w d D' w' := by
  obtain ⟨G, h1, h2, h3⟩ := h
  exact (trunc_any d D G n size W h1 hn hs).mono fun e w' ⟨g1, g2⟩ => by rw [hr] at g1 g2; exact ⟨g1, Own.goes h1 h2 h3 g2⟩
theorem delete_own (h : Own w d D W) {n : Int} (hn : I64 n) {r : Int} {D' : DiskM} (hr : deleteD D n = (r, D')) : Calls Tryz.prog 76 #[ptrV d, .int .i64 n] W fun e w' => e = .returned (.int .i64 r) ∧ Own w d D' w' := by
  obtain ⟨G, h1, h2, h3⟩ := h
  exact (deleteD_any d D G n W h1 hn).mono fun e w' ⟨g1, g2⟩ => by rw [hr] at g1 g2; exact ⟨g1, Own.goes h1 h2 h3 g2⟩
theorem read_own (h : Own w d D W) {n at_ size : Int} (hn : I64 n) (ha : I64 at_) (hs : I64 size) {t : Bs} {r : Int} (hr : readD D n at_ size = (t, r)) :
    Calls Tryz.prog 45 #[ptrV d, .int .i64 n, .int .i64 at_, .int .i64 size] W fun e w' => e = .returned (.tuple #[sv t, .int .i64 r]) ∧ W = w' := by
  obtain ⟨G, h1, h2, h3⟩ := h
  exact (dkRead_any d D G n at_ size W h1 hn ha hs).mono fun e w' ⟨g1, g2⟩ => by rw [hr] at g1; exact ⟨g1, g2⟩
theorem read_text (h : Own w d D W) {n at_ size : Int} (hn : I64 n) (ha : I64 at_) (hs : I64 size) {t : ByteArray} {r : Int} (hr : readD D n at_ size = (t.data.toList, r)) :
    Calls Tryz.prog 45 #[ptrV d, .int .i64 n, .int .i64 at_, .int .i64 size] W fun e w' => e = .returned (.tuple #[.string t, .int .i64 r]) ∧ W = w' := by
  have c := read_own h hn ha hs hr
  unfold sv at c
  rwa [mk_data] at c
theorem size_own (h : Own w d D W) {n : Int} (hn : I64 n) {t r : Int} (hr : sizeD D n = (t, r)) : Calls Tryz.prog 31 #[ptrV d, .int .i64 n] W fun e w' => e = .returned (.tuple #[.int .i64 t, .int .i64 r]) ∧ W = w' := by
  obtain ⟨G, h1, h2, h3⟩ := h
  exact (sizeD_any d D G n W h1 hn).mono fun e w' ⟨g1, g2⟩ => by rw [hr] at g1; exact ⟨g1, g2⟩
theorem free_own (h : Own w d D W) {t : Int} (hr : D.free = t) : Calls Tryz.prog 28 #[ptrV d] W fun e w' => e = .returned (.int .i64 t) ∧ Own w d D w' := by
  obtain ⟨G, ⟨m, L, k, h1, rfl⟩, h2, h3⟩ := h
  exact (free_any d m L k D W h1).mono fun e w' ⟨g1, g2⟩ => ⟨by rw [g1, hr], foot d m L k, ⟨m, L, k, h1.keeps g2, rfl⟩, Keeps.trans h2 g2, h3⟩
theorem files_own (h : Own w d D W) : Calls Tryz.prog 35 #[ptrV d] W fun e w' => ∃ v, e = .returned v ∧ w'.ownsRow W.heap.size tI 1 v D.files.length (ivs (numsF D.files)) ∧ Keeps W w' ∧ Own w d D w' := by
  have h0 := h
  obtain ⟨G, ⟨m, L, k, h1, rfl⟩, h2, h3⟩ := h
  exact (files_any d m L k D W h1).mono fun e w' ⟨v, g1, g2, g3⟩ => ⟨v, g1, g2, g3, h0.keeps g3⟩
theorem loose_own (h : Own w d D W) : Calls Tryz.prog 43 #[ptrV d] W fun e w' => ∃ v, e = .returned v ∧ w'.ownsRow W.heap.size tI 1 v D.files.length (ivs (looseL D)) ∧ Keeps W w' ∧ Own w d D w' := by
  have h0 := h
  obtain ⟨G, ⟨m, L, k, h1, rfl⟩, h2, h3⟩ := h
  exact (looseD_any d m L k D W h1).mono fun e w' ⟨v, g1, g2, g3⟩ => ⟨v, g1, g2, g3, h0.keeps g3⟩
theorem up_own (h : Own w d D W) {t : Bool} (hr : D.up = t) : Calls Tryz.prog 44 #[ptrV d] W fun e w' => e = .returned (.bool t) ∧ W = w' := by
  obtain ⟨G, h1, h2, h3⟩ := h
  exact (up_any d D G W h1).mono fun e w' ⟨g1, g2⟩ => ⟨by rw [g1, hr], g2⟩
theorem starts_own (h : Own w d D W) : Calls Tryz.prog 37 #[ptrV d] W fun e w' => e = .returned (.int .i64 D.starts) ∧ W = w' := by
  obtain ⟨G, h1, h2, h3⟩ := h
  exact starts_any d D G W h1
end

theorem start_down {D : DiskM} (hu : D.up = false) (s : Int) (hs : D.starts = s) (h0 : 0 ≤ s) (h9 : s ≤ 1000000) : startD D = (0, ⟨D.cap, D.files, true, s + 1, D.fail⟩) := by
  unfold startD
  rw [if_neg (by rw [hu]; decide), hs, IntWalk.wrap64_in _ (by omega)]

theorem keeps_lit (W : World) (o : Obj) : Keeps W (W.alloc o) := (Below.refl _ _).alloc (Nat.le_refl _) _
theorem lit_one (W : World) (x : Int) : IntsAt (W.alloc (.cells #[.int .i64 x] tI)) (.slice (some ⟨W.heap.size, 0, none⟩) 1 1) [x] := lay_ints tI rfl rfl rfl (by simp [maxLen])

/-! ### The chapter's disk -/
theorem i64_lit (n : Int) (h1 : -1000000 ≤ n) (h2 : n ≤ 1000000) : I64 n := by unfold I64 top; omega
def dk1 : DiskM := ⟨5, [⟨3, [], 0⟩], true, 0, none⟩
def dk2 : DiskM := ⟨5, [⟨3, [120, 121, 122], 0⟩], true, 0, none⟩
def dk3 : DiskM := ⟨5, [⟨3, [120, 121, 122], 3⟩], true, 0, none⟩
def dk4 : DiskM := ⟨5, [⟨3, [120, 121, 122, 117, 118], 3⟩], true, 0, none⟩
def dk5 : DiskM := ⟨5, [⟨3, [120, 121, 122, 117], 4⟩], false, 0, none⟩
def dk6 : DiskM := ⟨5, [⟨3, [120, 121, 122, 117], 4⟩], true, 1, none⟩
def dk7 : DiskM := ⟨5, [⟨3, [120, 121], 2⟩], true, 1, none⟩
def dk8 : DiskM := ⟨5, [⟨3, [120, 121], 2⟩], true, 1, some (0, [1])⟩
def dk9 : DiskM := ⟨5, [⟨3, [120, 121, 116], 3⟩], false, 1, none⟩
def dk10 : DiskM := ⟨5, [⟨3, [120, 121, 116], 3⟩], true, 2, none⟩
end Go.Proofs.YtlaepdpgegoopaaGreat
