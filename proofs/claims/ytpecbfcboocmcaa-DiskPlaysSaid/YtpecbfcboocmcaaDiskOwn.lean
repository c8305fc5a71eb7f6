
/- A disk of the call's own: its calls, one behind the other; the chapter's disk. -/
import Derived.Test.YtpecbfcboocmcaaDiskOps6
set_option linter.unusedVariables false
namespace Go.Proofs.Ytpecbfcboocmcaa
open Go.ChangeShapes Go.WideShapes Go.ChangeAt Go.RowKit Go.Maps Csv Dk

/-- A disk that was made since the world w. -/
def Own (w : World) (d : Nat) (D : DiskM) (W : World) : Prop := ∃ G, IsDisk W d D G ∧ Keeps w W ∧ ∀ b ∈ G, w.heap.size ≤ b
theorem Own.goes {w W W' : World} {d : Nat} {D D' : DiskM} {G : List Nat} (hI : IsDisk W d D G) (hk : Keeps w W) (hG : ∀ b ∈ G, w.heap.size ≤ b) (h : Goes W W' G d D') : Own w d D' W' := by
  obtain ⟨G', h1, h2, h3⟩ := h
  refine ⟨G', h1, Below.trans hk (h2.below hk.size hG), fun b hb => ?_⟩
  rcases h3 b hb with h4 | h4
  · exact hG b h4
  · have := hk.size; omega
theorem Own.keeps {w W W' : World} {d : Nat} {D : DiskM} (h : Own w d D W) (k : Keeps W W') : Own w d D W' := by
  obtain ⟨G, h1, h2, h3⟩ := h
  exact ⟨G, h1.keeps k, Keeps.trans h2 k, h3⟩
theorem Own.kept {w W : World} {d : Nat} {D : DiskM} (h : Own w d D W) : Keeps w W := by
  obtain ⟨G, h1, h2, h3⟩ := h; exact h2
theorem Own.okay {w W : World} {d : Nat} {D : DiskM} (h : Own w d D W) : Okay D := by
  obtain ⟨G, h1, h2, h3⟩ := h; exact h1.okay
/-- Ints of a list that was just laid are read, whatever a disk of elder blocks does. -/
theorem lit_stable {W : World} {d : Nat} {D : DiskM} {G : List Nat} (h : IsDisk W d D G) (cs : List Int) (hl : cs.length ≤ 1000) : Stable G (W.alloc (.cells (ivs cs).toArray tI)) (.slice (some ⟨W.heap.size, 0, none⟩) cs.length cs.length) cs := by
  intro w' hf
  have h0 : IntsAt (W.alloc (.cells (ivs cs).toArray tI)) (.slice (some ⟨W.heap.size, 0, none⟩) cs.length cs.length) cs := lay_ints tI rfl rfl rfl (by unfold maxLen; omega)
  obtain ⟨p, c, e, hm, hc⟩ := h0
  refine ⟨p, c, e, hm, fun j x hx => ?_⟩
  obtain ⟨a, rfl, hcell⟩ := hc j x hx
  refine ⟨a, rfl, ?_⟩
  cases e
  have hb : ((⟨W.heap.size, 0, none⟩ : Addr).add j).block = W.heap.size := by rw [addr_of]
  rw [World.cell?_of_block (w := W.alloc (.cells (ivs cs).toArray tI)) (by
    rw [hb]
    exact hf.block W.heap.size (by simp) fun hm => by have := h.lt _ hm; omega)]
  exact hcell

section
variable {w W : World} {d : Nat} {D : DiskM}
theorem new_own (n : Nat) (w W : World) (hW : Keeps w W) (h : n ≤ 1048576) : Calls Try.prog 6 #[.int .i64 (n : Int)] W fun e w' => ∃ d, e = .returned (.tuple #[ptrV d, .int .i64 0]) ∧ Own w d (newD n) w' :=
  (newD_any n W h).mono fun e w' ⟨d, G, h1, h2, h3, h4⟩ => ⟨d, h1, G, h2, Keeps.trans hW h3, fun b hb => Nat.le_trans hW.size (h4 b hb)⟩
theorem create_own (h : Own w d D W) {n : Int} (hn : I64 n) {r : Int} {D' : DiskM} (hr : createD D n = (r, D')) : Calls Try.prog 13 #[ptrV d, .int .i64 n] W fun e w' => e = .returned (.int .i64 r) ∧ Own w d D' w' := by
  obtain ⟨G, h1, h2, h3⟩ := h
  exact (createD_any d D G n W h1 hn).mono fun e w' ⟨g1, g2⟩ => by rw [hr] at g1 g2; exact ⟨g1, Own.goes h1 h2 h3 g2⟩
theorem append_own (h : Own w d D W) {n : Int} (hn : I64 n) {s : ByteArray} (hs : s.size ≤ maxLen) {r : Int} {D' : DiskM} (hr : appendD D n s.data.toList = (r, D')) : Calls Try.prog 14 #[ptrV d, .int .i64 n, .string s] W fun e w' => e = .returned (.int .i64 r) ∧ Own w d D' w' := by
  obtain ⟨G, h1, h2, h3⟩ := h
  exact (append_any d D G n s W h1 hn hs).mono fun e w' ⟨g1, g2⟩ => by rw [hr] at g1 g2; exact ⟨g1, Own.goes h1 h2 h3 g2⟩
theorem sync_own (h : Own w d D W) {n : Int} (hn : I64 n) {r : Int} {D' : DiskM} (hr : syncD D n = (r, D')) : Calls Try.prog 17 #[ptrV d, .int .i64 n] W fun e w' => e = .returned (.int .i64 r) ∧ Own w d D' w' := by
  obtain ⟨G, h1, h2, h3⟩ := h
  exact (sync_any d D G n W h1 hn).mono fun e w' ⟨g1, g2⟩ => by rw [hr] at g1 g2; exact ⟨g1, Own.goes h1 h2 h3 g2⟩
theorem trunc_own (h : Own w d D W) {n size : Int} (hn : I64 n) (hs : I64 size) {r : Int} {D' : DiskM} (hr : truncD D n size = (r, D')) : Calls Try.prog 20 #[ptrV d, .int .i64 n, .int .i64 size] W fun e w' => e = .returned (.int .i64 r) ∧ Own w d D' w' := by
  obtain ⟨G, h1, h2, h3⟩ := h
  exact (trunc_any d D G n size W h1 hn hs).mono fun e w' ⟨g1, g2⟩ => by rw [hr] at g1 g2; exact ⟨g1, Own.goes h1 h2 h3 g2⟩
theorem delete_own (h : Own w d D W) {n : Int} (hn : I64 n) {r : Int} {D' : DiskM} (hr : deleteD D n = (r, D')) : Calls Try.prog 27 #[ptrV d, .int .i64 n] W fun e w' => e = .returned (.int .i64 r) ∧ Own w d D' w' := by
  obtain ⟨G, h1, h2, h3⟩ := h
  exact (deleteD_any d D G n W h1 hn).mono fun e w' ⟨g1, g2⟩ => by rw [hr] at g1 g2; exact ⟨g1, Own.goes h1 h2 h3 g2⟩
theorem start_own (h : Own w d D W) (hs : I64 D.starts) {r : Int} {D' : DiskM} (hr : startD D = (r, D')) : Calls Try.prog 11 #[ptrV d] W fun e w' => e = .returned (.int .i64 r) ∧ Own w d D' w' := by
  obtain ⟨G, h1, h2, h3⟩ := h
  exact (start_any d D G W h1 hs).mono fun e w' ⟨g1, g2⟩ => by rw [hr] at g1 g2; exact ⟨g1, Own.goes h1 h2 h3 g2⟩
theorem read_own (h : Own w d D W) {n at_ size : Int} (hn : I64 n) (ha : I64 at_) (hs : I64 size) {t : Bs} {r : Int} (hr : readD D n at_ size = (t, r)) :
    Calls Try.prog 16 #[ptrV d, .int .i64 n, .int .i64 at_, .int .i64 size] W fun e w' => e = .returned (.tuple #[sv t, .int .i64 r]) ∧ W = w' := by
  obtain ⟨G, h1, h2, h3⟩ := h
  exact (read_any d D G n at_ size W h1 hn ha hs).mono fun e w' ⟨g1, g2⟩ => by rw [hr] at g1; exact ⟨g1, g2⟩
theorem read_text (h : Own w d D W) {n at_ size : Int} (hn : I64 n) (ha : I64 at_) (hs : I64 size) {t : ByteArray} {r : Int} (hr : readD D n at_ size = (t.data.toList, r)) :
    Calls Try.prog 16 #[ptrV d, .int .i64 n, .int .i64 at_, .int .i64 size] W fun e w' => e = .returned (.tuple #[.string t, .int .i64 r]) ∧ W = w' := by
  have c := read_own h hn ha hs hr
  unfold sv at c
  rwa [mk_data] at c
theorem size_own (h : Own w d D W) {n : Int} (hn : I64 n) {t r : Int} (hr : sizeD D n = (t, r)) : Calls Try.prog 19 #[ptrV d, .int .i64 n] W fun e w' => e = .returned (.tuple #[.int .i64 t, .int .i64 r]) ∧ W = w' := by
  obtain ⟨G, h1, h2, h3⟩ := h
  exact (sizeD_any d D G n W h1 hn).mono fun e w' ⟨g1, g2⟩ => by rw [hr] at g1; exact ⟨g1, g2⟩
theorem free_own (h : Own w d D W) {t : Int} (hr : D.free = t) : Calls Try.prog 15 #[ptrV d] W fun e w' => e = .returned (.int .i64 t) ∧ Own w d D w' := by
  obtain ⟨G, ⟨m, L, k, h1, rfl⟩, h2, h3⟩ := h
  exact (free_any d m L k D W h1).mono fun e w' ⟨g1, g2⟩ => ⟨by rw [g1, hr], foot d m L k, ⟨m, L, k, h1.keeps g2, rfl⟩, Keeps.trans h2 g2, h3⟩
theorem files_own (h : Own w d D W) : Calls Try.prog 33 #[ptrV d] W fun e w' => ∃ v, e = .returned v ∧ w'.ownsRow W.heap.size tI 1 v D.files.length (ivs (numsF D.files)) ∧ Keeps W w' ∧ Own w d D w' := by
  have h0 := h
  obtain ⟨G, ⟨m, L, k, h1, rfl⟩, h2, h3⟩ := h
  exact (files_any d m L k D W h1).mono fun e w' ⟨v, g1, g2, g3⟩ => ⟨v, g1, g2, g3, h0.keeps g3⟩
theorem loose_own (h : Own w d D W) : Calls Try.prog 34 #[ptrV d] W fun e w' => ∃ v, e = .returned v ∧ w'.ownsRow W.heap.size tI 1 v D.files.length (ivs (looseL D)) ∧ Keeps W w' ∧ Own w d D w' := by
  have h0 := h
  obtain ⟨G, ⟨m, L, k, h1, rfl⟩, h2, h3⟩ := h
  exact (looseD_any d m L k D W h1).mono fun e w' ⟨v, g1, g2, g3⟩ => ⟨v, g1, g2, g3, h0.keeps g3⟩
theorem up_own (h : Own w d D W) {t : Bool} (hr : D.up = t) : Calls Try.prog 22 #[ptrV d] W fun e w' => e = .returned (.bool t) ∧ W = w' := by
  obtain ⟨G, h1, h2, h3⟩ := h
  exact (up_any d D G W h1).mono fun e w' ⟨g1, g2⟩ => ⟨by rw [g1, hr], g2⟩
theorem starts_own (h : Own w d D W) : Calls Try.prog 36 #[ptrV d] W fun e w' => e = .returned (.int .i64 D.starts) ∧ W = w' := by
  obtain ⟨G, h1, h2, h3⟩ := h
  exact starts_any d D G W h1
theorem crash_one (h : Own w d D W) (x : Int) {r : Int} {D' : DiskM} (hr : crashD D [x] = (r, D')) : Calls Try.prog 18 #[ptrV d, .slice (some ⟨W.heap.size, 0, none⟩) 1 1] (W.alloc (.cells #[.int .i64 x] tI)) fun e w' => e = .returned (.int .i64 r) ∧ Own w d D' w' := by
  obtain ⟨G, h1, h2, h3⟩ := h
  have hA : Keeps W (W.alloc (.cells #[.int .i64 x] tI)) := (Below.refl _ _).alloc (Nat.le_refl _) _
  exact (crash_any d D G _ [x] _ (h1.keeps hA) (lit_stable h1 [x] (by simp))).mono fun e w' ⟨g1, g2⟩ => by rw [hr] at g1 g2; exact ⟨g1, Own.goes (h1.keeps hA) (Keeps.trans h2 hA) h3 g2⟩
theorem crash_nil (h : Own w d D W) {r : Int} {D' : DiskM} (hr : crashD D [] = (r, D')) : Calls Try.prog 18 #[ptrV d, .slice none 0 0] W fun e w' => e = .returned (.int .i64 r) ∧ Own w d D' w' := by
  obtain ⟨G, h1, h2, h3⟩ := h
  exact (crash_any d D G _ [] _ h1 (fun w' _ => IntsAt.nil w')).mono fun e w' ⟨g1, g2⟩ => by rw [hr] at g1 g2; exact ⟨g1, Own.goes h1 h2 h3 g2⟩
theorem fail_one (h : Own w d D W) {n : Int} (hn : I64 n) (x : Int) {r : Int} {D' : DiskM} (hr : failD D n [x] = (r, D')) : Calls Try.prog 21 #[ptrV d, .int .i64 n, .slice (some ⟨W.heap.size, 0, none⟩) 1 1] (W.alloc (.cells #[.int .i64 x] tI)) fun e w' => e = .returned (.int .i64 r) ∧ Own w d D' w' := by
  obtain ⟨G, h1, h2, h3⟩ := h
  have hA : Keeps W (W.alloc (.cells #[.int .i64 x] tI)) := (Below.refl _ _).alloc (Nat.le_refl _) _
  exact (failD_any d D G n _ [x] _ (h1.keeps hA) hn (lit_stable h1 [x] (by simp) _ (Frame.refl _ _)) (fun p m c e => by cases e; exact Nat.le_refl _)).mono fun e w' ⟨g1, g2⟩ => by
    have e : [x].take 100 = [x] := rfl
    rw [e, hr] at g1 g2; exact ⟨g1, Own.goes (h1.keeps hA) (Keeps.trans h2 hA) h3 g2⟩
end

theorem start_down {D : DiskM} (hu : D.up = false) (s : Int) (hs : D.starts = s) (h0 : 0 ≤ s) (h9 : s ≤ 1000000) : startD D = (0, ⟨D.cap, D.files, true, s + 1, D.fail⟩) := by
  unfold startD
  rw [if_neg (by rw [hu]; decide), hs, IntWalk.wrap64_in _ (by omega)]

theorem keeps_lit (W : World) (o : Obj) : Keeps W (W.alloc o) := (Below.refl _ _).alloc (Nat.le_refl _) _
theorem lit_one (W : World) (x : Int) : IntsAt (W.alloc (.cells #[.int .i64 x] tI)) (.slice (some ⟨W.heap.size, 0, none⟩) 1 1) [x] := lay_ints tI rfl rfl rfl (by simp [maxLen])

/-! ### The chapter's disk -/
theorem i64_lit (n : Int) (h1 : -1000000 ≤ n) (h2 : n ≤ 1000000) : I64 n := by unfold I64 top; omega
def dk1 : DiskM := ⟨5, [⟨3, [], 0⟩], true, 0, none⟩
def dk2 : DiskM := ⟨5, [⟨3, [120, 121, 122], 0⟩], true, 0, none⟩
def dk3 : DiskM := ⟨5, [⟨3, [120, 121, 122], 3⟩], true, 0, none⟩
def dk4 : DiskM := ⟨5, [⟨3, [120, 121, 122, 117, 118], 3⟩], true, 0, none⟩
def dk5 : DiskM := ⟨5, [⟨3, [120, 121, 122, 117], 4⟩], false, 0, none⟩
def dk6 : DiskM := ⟨5, [⟨3, [120, 121, 122, 117], 4⟩], true, 1, none⟩
def dk7 : DiskM := ⟨5, [⟨3, [120, 121], 2⟩], true, 1, none⟩
def dk8 : DiskM := ⟨5, [⟨3, [120, 121], 2⟩], true, 1, some (0, [1])⟩
def dk9 : DiskM := ⟨5, [⟨3, [120, 121, 116], 3⟩], false, 1, none⟩
def dk10 : DiskM := ⟨5, [⟨3, [120, 121, 116], 3⟩], true, 2, none⟩
set_option maxRecDepth 100000 in
set_option maxHeartbeats 2000000 in
theorem filed_any (w : World) : Calls Try.prog 5 #[] w fun e w' => e = .returned (.bool true) ∧ Keeps w w' := by
  have lit : ∀ n : Int, -1000000 ≤ n → n ≤ 1000000 → I64 n := i64_lit
  have s3 : ∀ s : ByteArray, s.size ≤ 3 → s.size ≤ maxLen := fun s h => by unfold maxLen; omega
  have S3 := Lib.hid s3
  have LI := Lib.hid lit
  clear s3 lit
  go_enter Try.func5, Try.ntmps5
  go_wp2_with fail
  refine (new_own 5 w w (Keeps.refl _) (by omega)).mono ?_
  rintro e w0 ⟨d, rfl, h0⟩
  have H0 := Lib.hid h0
  clear h0
  unfold ptrV
  go_wp2_with fail
  refine (create_own H0.out (LI.out 3 (by omega) (by omega)) (r := 0) (D' := dk1) (by rfl)).mono ?_
  rintro e w1 ⟨rfl, h1⟩
  have H1 := Lib.hid h1
  clear h1 H0
  go_wp2_with fail
  refine (append_own H1.out (LI.out 3 (by omega) (by omega)) (S3.out _ (by decide)) (r := 0) (D' := dk2) (by rfl)).mono ?_
  rintro e w2 ⟨rfl, h2⟩
  have H2 := Lib.hid h2
  clear h2 H1
  go_wp2_with fail
  refine (append_own H2.out (LI.out 3 (by omega) (by omega)) (S3.out _ (by decide)) (r := 60) (D' := dk2) (by rfl)).mono ?_
  rintro e w3 ⟨rfl, h3⟩
  have H3 := Lib.hid h3
  clear h3 H2
  go_wp2_with fail
  refine (append_own H3.out (LI.out 4 (by omega) (by omega)) (S3.out _ (by decide)) (r := 4) (D' := dk2) (by rfl)).mono ?_
  rintro e w4 ⟨rfl, h4⟩
  have H4 := Lib.hid h4
  clear h4 H3
  go_wp2_with fail
  refine (free_own H4.out (t := 2) (by rfl)).mono ?_
  rintro e w5 ⟨rfl, h5⟩
  have H5 := Lib.hid h5
  clear h5 H4
  go_wp2_with fail
  refine (read_own H5.out (LI.out 3 (by omega) (by omega)) (LI.out 1 (by omega) (by omega)) (LI.out 2 (by omega) (by omega)) (t := [121, 122]) (r := 0) (by rfl)).mono ?_
  rintro e w' ⟨rfl, rfl⟩
  go_wp2_with fail
  refine (read_own H5.out (LI.out 3 (by omega) (by omega)) (LI.out 2 (by omega) (by omega)) (LI.out 2 (by omega) (by omega)) (t := []) (r := 2) (by rfl)).mono ?_
  rintro e w' ⟨rfl, rfl⟩
  go_wp2_with fail
  refine (sync_own H5.out (LI.out 3 (by omega) (by omega)) (r := 0) (D' := dk3) (by rfl)).mono ?_
  rintro e w6 ⟨rfl, h6⟩
  have H6 := Lib.hid h6
  clear h6 H5
  go_wp2_with fail
  refine (append_own H6.out (LI.out 3 (by omega) (by omega)) (S3.out _ (by decide)) (r := 0) (D' := dk4) (by rfl)).mono ?_
  rintro e w7 ⟨rfl, h7⟩
  have H7 := Lib.hid h7
  clear h7 H6
  go_wp2_with fail
  refine (crash_one H7.out 1 (r := 0) (D' := dk5) (by rfl)).mono ?_
  rintro e w8 ⟨rfl, h8⟩
  have H8 := Lib.hid h8
  clear h8 H7
  go_wp2_with fail
  refine (start_own H8.out (LI.out 0 (by omega) (by omega)) (r := 0) (D' := dk6) (start_down rfl 0 rfl (by omega) (by omega))).mono ?_
  rintro e w9 ⟨rfl, h9⟩
  have H9 := Lib.hid h9
  clear h9 H8
  go_wp2_with fail
  refine (size_own H9.out (LI.out 3 (by omega) (by omega)) (t := 4) (r := 0) (by rfl)).mono ?_
  rintro e w' ⟨rfl, rfl⟩
  go_wp2_with fail
  refine (trunc_own H9.out (LI.out 3 (by omega) (by omega)) (LI.out 5 (by omega) (by omega)) (r := 2) (D' := dk6) (by rfl)).mono ?_
  rintro e w10 ⟨rfl, h10⟩
  have H10 := Lib.hid h10
  clear h10 H9
  go_wp2_with fail
  refine (trunc_own H10.out (LI.out 3 (by omega) (by omega)) (LI.out 2 (by omega) (by omega)) (r := 0) (D' := dk7) (by rfl)).mono ?_
  rintro e w11 ⟨rfl, h11⟩
  have H11 := Lib.hid h11
  clear h11 H10
  go_wp2_with fail
  refine (fail_one H11.out (LI.out 0 (by omega) (by omega)) 1 (r := 0) (D' := dk8) (by rfl)).mono ?_
  rintro e w12 ⟨rfl, h12⟩
  have H12 := Lib.hid h12
  clear h12 H11
  go_wp2_with fail
  refine (append_own H12.out (LI.out 3 (by omega) (by omega)) (S3.out _ (by decide)) (r := 61) (D' := dk9) (by rfl)).mono ?_
  rintro e w13 ⟨rfl, h13⟩
  have H13 := Lib.hid h13
  clear h13 H12
  go_wp2_with fail
  refine (up_own H13.out (t := false) (by rfl)).mono ?_
  rintro e w' ⟨rfl, rfl⟩
  go_wp2_with fail
  refine (start_own H13.out (LI.out 1 (by omega) (by omega)) (r := 0) (D' := dk10) (start_down rfl 1 rfl (by omega) (by omega))).mono ?_
  rintro e w14 ⟨rfl, h14⟩
  have H14 := Lib.hid h14
  clear h14 H13
  go_wp2_with fail
  refine (size_own H14.out (LI.out 3 (by omega) (by omega)) (t := 3) (r := 0) (by rfl)).mono ?_
  rintro e w' ⟨rfl, rfl⟩
  go_wp2
  go_ret
  exact ⟨rfl, H14.out.kept⟩
end Go.Proofs.Ytpecbfcboocmcaa
